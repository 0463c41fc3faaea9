/-
  A stream that ends: its first byte is passed over, and again, till nothing is left.
-/
/-
  Each byte of a stream is heard in a frame or passed over.
-/
import Derived.Test.YtlgmmibncoedgaaMerged16
set_option linter.unusedVariables false
namespace Go.Proofs.Ytlgmmibncoedgaa
open Go.RowKit Go.Maps Go.Deep

def endF : Nat → List UInt8 → List (List UInt8) × Nat
  | 0, _ => ([], 0)
  | n + 1, bs => if bs.length = 0 then ([], 0) else ((walkW (bs.drop 1)).1 ++ (endF n (walkW (bs.drop 1)).2.1).1, 1 + (walkW (bs.drop 1)).2.2 + (endF n (walkW (bs.drop 1)).2.1).2)
def endW (bs : List UInt8) : List (List UInt8) × Nat := endF bs.length bs
theorem endF_same : ∀ (n m : Nat) (bs : List UInt8), bs.length ≤ n → bs.length ≤ m → endF n bs = endF m bs := by
  intro n
  induction n with
  | zero =>
    intro m bs h1 h2
    have e : bs.length = 0 := by omega
    cases m with
    | zero => rfl
    | succ m => simp [endF, e]
  | succ n ih =>
    intro m bs h1 h2
    cases m with
    | zero =>
      have e : bs.length = 0 := by omega
      simp [endF, e]
    | succ m =>
      unfold endF
      by_cases e : bs.length = 0
      · simp only [e, if_true]
      · have hl := (walk_len (bs.drop 1)).1
        rw [List.length_drop] at hl
        simp only [e, if_false]
        rw [ih m _ (by omega) (by omega)]
theorem end_nil {bs : List UInt8} (h : bs.length = 0) : endW bs = ([], 0) := by
  unfold endW
  rw [h]
  rfl
theorem end_step {bs : List UInt8} (h : 1 ≤ bs.length) : endW bs = ((walkW (bs.drop 1)).1 ++ (endW (walkW (bs.drop 1)).2.1).1, 1 + (walkW (bs.drop 1)).2.2 + (endW (walkW (bs.drop 1)).2.1).2) := by
  have hl := (walk_len (bs.drop 1)).1
  rw [List.length_drop] at hl
  unfold endW
  obtain ⟨m, hm⟩ : ∃ m, bs.length = m + 1 := ⟨bs.length - 1, by omega⟩
  rw [hm]
  conv => lhs; unfold endF
  rw [if_neg (by omega), endF_same m (walkW (bs.drop 1)).2.1.length _ (by omega) (Nat.le_refl _)]
/-- so far: cur is left, ns heard, q passed over -/
def ETo (bs cur : List UInt8) (ns : List (List UInt8)) (q : Nat) : Prop := ns.length + q + cur.length ≤ bs.length ∧ endW bs = (ns ++ (endW cur).1, q + (endW cur).2) ∧ ∀ x ∈ ns, x.length ≤ 260
theorem ETo.zero (bs : List UInt8) : ETo bs bs [] 0 := ⟨by simp, by simp, by simp⟩
theorem ETo.step {bs cur : List UInt8} {ns : List (List UInt8)} {q : Nat} (h : ETo bs cur ns q) (hp : 1 ≤ cur.length) : ETo bs (walkW (cur.drop 1)).2.1 (ns ++ (walkW (cur.drop 1)).1) (q + 1 + (walkW (cur.drop 1)).2.2) := by
  obtain ⟨h1, h2, h3⟩ := h
  obtain ⟨hl, hs⟩ := walk_len (cur.drop 1)
  rw [List.length_drop] at hl
  refine ⟨by rw [List.length_append]; omega, ?_, fun x hx => ?_⟩
  · rw [h2, end_step hp]
    simp only [List.append_assoc, Prod.mk.injEq, true_and]
    omega
  · rcases List.mem_append.1 hx with hx | hx
    · exact h3 x hx
    · exact hs x hx
theorem ETo.done {bs cur : List UInt8} {ns : List (List UInt8)} {q : Nat} (h : ETo bs cur ns q) (hp : cur.length = 0) : endW bs = (ns, q) := by
  rw [h.2.1, end_nil hp]
  simp
theorem end_len (bs : List UInt8) : ∀ n, bs.length ≤ n → (endW bs).1.length + (endW bs).2 ≤ bs.length ∧ ∀ x ∈ (endW bs).1, x.length ≤ 260 := by
  intro n
  induction n generalizing bs with
  | zero => intro h; rw [end_nil (by omega)]; simp
  | succ n ih =>
    intro h
    by_cases e : bs.length = 0
    · rw [end_nil e]; simp
    · obtain ⟨hl, hs⟩ := walk_len (bs.drop 1)
      rw [List.length_drop] at hl
      obtain ⟨i1, i2⟩ := ih (walkW (bs.drop 1)).2.1 (by omega)
      rw [end_step (by omega)]
      refine ⟨by simp only [List.length_append]; omega, fun x hx => ?_⟩
      rcases List.mem_append.1 hx with hx | hx
      · exact hs x hx
      · exact i2 x hx
end Go.Proofs.Ytlgmmibncoedgaa

set_option linter.unusedVariables false
namespace Go.Proofs.Ytlgmmibncoedgaa
open Go.RowKit Go.Maps Go.Deep

/-- the bytes that these bodies' frames take -/
def sumB (ls : List (List UInt8)) : Nat := (ls.map fun x => x.length + 5).sum
theorem sumB_nil : sumB [] = 0 := rfl
theorem sumB_cons (x : List UInt8) (ls : List (List UInt8)) : sumB (x :: ls) = x.length + 5 + sumB ls := by simp [sumB]
theorem sumB_append (xs ys : List (List UInt8)) : sumB (xs ++ ys) = sumB xs + sumB ys := by simp [sumB]
theorem out_len {bs : List UInt8} (h : frameOk bs = true) : (frameOut bs).length + 5 = bs.length := by
  unfold frameOut
  rw [if_pos h]
  unfold frameBody
  unfold frameOk at h
  simp only [Bool.and_eq_true, decide_eq_true_eq] at h
  simp only [List.length_take, List.length_drop]
  omega
theorem walk_sums (bs : List UInt8) : ∀ n, bs.length ≤ n → sumB (walkF n bs).1 + (walkF n bs).2.2 + (walkF n bs).2.1.length = bs.length := by
  intro n
  induction n generalizing bs with
  | zero => intro h; simp [walkF, sumB]
  | succ n ih =>
    intro h
    unfold walkF
    cases hw : waitB bs
    · have hp := wait_pos hw
      simp only [Bool.false_eq_true, if_false]
      by_cases hn : nextI bs = 1
      · obtain ⟨k, e1, e2, e3, e4⟩ := next_one hn
        simp only [hn, if_true, e1, Int.toNat_natCast]
        have i1 := ih (bs.drop k) (by simp; omega)
        have i2 := out_len e4
        rw [List.length_drop] at i1
        rw [List.length_take] at i2
        rw [sumB_cons]
        omega
      · simp only [hn, if_false]
        have i1 := ih (bs.drop 1) (by simp; omega)
        rw [List.length_drop] at i1
        omega
    · simp [sumB]
theorem walk_sum (bs : List UInt8) : sumB (walkW bs).1 + (walkW bs).2.2 + (walkW bs).2.1.length = bs.length := walk_sums bs _ (Nat.le_refl _)
theorem end_sum (bs : List UInt8) : ∀ n, bs.length ≤ n → sumB (endW bs).1 + (endW bs).2 = bs.length := by
  intro n
  induction n generalizing bs with
  | zero => intro h; rw [end_nil (by omega), sumB_nil]; omega
  | succ n ih =>
    intro h
    by_cases e : bs.length = 0
    · rw [end_nil e, sumB_nil]; omega
    · have hl := walk_sum (bs.drop 1)
      rw [List.length_drop] at hl
      have i1 := ih (walkW (bs.drop 1)).2.1 (by omega)
      rw [end_step (by omega)]
      simp only [sumB_append]
      omega
end Go.Proofs.Ytlgmmibncoedgaa
