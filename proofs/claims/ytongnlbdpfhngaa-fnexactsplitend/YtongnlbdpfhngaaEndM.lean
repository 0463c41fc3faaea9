/-
  A stream that ends: its first byte is passed over, and again, till nothing is left.
-/
import Derived.Test.YtongnlbdpfhngaaSplitWM
set_option linter.unusedVariables false
namespace Go.Proofs.Ytongnlbdpfhngaa
open Go.RowKit Go.Maps Go.Deep

def endF : Nat → List UInt8 → List (List UInt8) × Nat
  | 0, _ => ([], 0)
  | n + 1, bs => if bs.length = 0 then ([], 0) else ((walkW (bs.drop 1)).1 ++ (endF n (walkW (bs.drop 1)).2.1).1, 1 + (walkW (bs.drop 1)).2.2 + (endF n (walkW (bs.drop 1)).2.1).2)
def endW (bs : List UInt8) : List (List UInt8) × Nat := endF bs.length bs
theorem endF_same : ∀ (n m : Nat) (bs : List UInt8), bs.length ≤ n → bs.length ≤ m → endF n bs = endF m bs := by
  intro n
  induction n with
  | zero =>
    intro m bs h1 h2
    have e : bs.length = 0 := by omega
    cases m with
    | zero => rfl
    | succ m => simp [endF, e]
  | succ n ih =>
    intro m bs h1 h2
    cases m with
    | zero =>
      have e : bs.length = 0 := by omega
      simp [endF, e]
    | succ m =>
      unfold endF
      by_cases e : bs.length = 0
      · simp only [e, if_true]
      · have hl := (walk_len (bs.drop 1)).1
        rw [List.length_drop] at hl
        simp only [e, if_false]
        rw [ih m _ (by omega) (by omega)]
theorem end_nil {bs : List UInt8} (h : bs.length = 0) : endW bs = ([], 0) := by
  unfold endW
  rw [h]
  rfl
theorem end_step {bs : List UInt8} (h : 1 ≤ bs.length) : endW bs = ((walkW (bs.drop 1)).1 ++ (endW (walkW (bs.drop 1)).2.1).1, 1 + (walkW (bs.drop 1)).2.2 + (endW (walkW (bs.drop 1)).2.1).2) := by
  have hl := (walk_len (bs.drop 1)).1
  rw [List.length_drop] at hl
  unfold endW
  obtain ⟨m, hm⟩ : ∃ m, bs.length = m + 1 := ⟨bs.length - 1, by omega⟩
  rw [hm]
  conv => lhs; unfold endF
  rw [if_neg (by omega), endF_same m (walkW (bs.drop 1)).2.1.length _ (by omega) (Nat.le_refl _)]
/-- so far: cur is left, ns heard, q passed over -/
def ETo (bs cur : List UInt8) (ns : List (List UInt8)) (q : Nat) : Prop := ns.length + q + cur.length ≤ bs.length ∧ endW bs = (ns ++ (endW cur).1, q + (endW cur).2) ∧ ∀ x ∈ ns, x.length ≤ 260
theorem ETo.zero (bs : List UInt8) : ETo bs bs [] 0 := ⟨by simp, by simp, by simp⟩
theorem ETo.step {bs cur : List UInt8} {ns : List (List UInt8)} {q : Nat} (h : ETo bs cur ns q) (hp : 1 ≤ cur.length) : ETo bs (walkW (cur.drop 1)).2.1 (ns ++ (walkW (cur.drop 1)).1) (q + 1 + (walkW (cur.drop 1)).2.2) := by
  obtain ⟨h1, h2, h3⟩ := h
  obtain ⟨hl, hs⟩ := walk_len (cur.drop 1)
  rw [List.length_drop] at hl
  refine ⟨by rw [List.length_append]; omega, ?_, fun x hx => ?_⟩
  · rw [h2, end_step hp]
    simp only [List.append_assoc, Prod.mk.injEq, true_and]
    omega
  · rcases List.mem_append.1 hx with hx | hx
    · exact h3 x hx
    · exact hs x hx
theorem ETo.done {bs cur : List UInt8} {ns : List (List UInt8)} {q : Nat} (h : ETo bs cur ns q) (hp : cur.length = 0) : endW bs = (ns, q) := by
  rw [h.2.1, end_nil hp]
  simp
theorem end_len (bs : List UInt8) : ∀ n, bs.length ≤ n → (endW bs).1.length + (endW bs).2 ≤ bs.length ∧ ∀ x ∈ (endW bs).1, x.length ≤ 260 := by
  intro n
  induction n generalizing bs with
  | zero => intro h; rw [end_nil (by omega)]; simp
  | succ n ih =>
    intro h
    by_cases e : bs.length = 0
    · rw [end_nil e]; simp
    · obtain ⟨hl, hs⟩ := walk_len (bs.drop 1)
      rw [List.length_drop] at hl
      obtain ⟨i1, i2⟩ := ih (walkW (bs.drop 1)).2.1 (by omega)
      rw [end_step (by omega)]
      refine ⟨by simp only [List.length_append]; omega, fun x hx => ?_⟩
      rcases List.mem_append.1 hx with hx | hx
      · exact hs x hx
      · exact i2 x hx
end Go.Proofs.Ytongnlbdpfhngaa
