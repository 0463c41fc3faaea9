/-
  SplitOk of both sides.
-/
/-
  A stream gone through as far as it goes: the bodies that are heard, what is left, how many bytes are passed over.
-/
import Derived.Test.YtlgmmibncoedgaaMerged7
set_option linter.unusedVariables false
namespace Go.Proofs.Ytlgmmibncoedgaa
open Go.RowKit Go.Maps Go.Deep

theorem next_zero {bs : List UInt8} : (nextI bs == 0) = waitB bs := by
  unfold nextI
  by_cases g1 : frameSz bs < 0
  · have : waitB bs = false := by simp [waitB]; omega
    rw [if_pos g1, this]
    rfl
  · rw [if_neg g1]
    cases waitB bs
    · simp
      split <;> simp
    · simp
theorem wait_nil : waitB [] = true := rfl
theorem box2 {w w2 : World} {x0 x1 : Value} {T : TypeId} (hb : Below (w.alloc (.cells #[x0, x1] T)).heap.size (w.alloc (.cells #[x0, x1] T)) w2) :
    w2.cell? ⟨w.heap.size, 0, none⟩ = some x0 ∧ w2.cell? ⟨w.heap.size, 1, none⟩ = some x1 := by
  refine ⟨?_, ?_⟩
  all_goals
    rw [hb.cell (by simp), World.cell?_alloc_at _ _ _ _ rfl]
    rfl
set_option maxHeartbeats 3200000 in
theorem specSplitOk_any (d : SplitV) (v : Value) (w : World) (hs : SmallSplit d) (h : SplitRd w v d) :
    Calls Try.prog 51 #[v] w fun e w' => e = .returned (.bool (splitOkB d)) ∧ Below w.heap.size w w' := by
  obtain ⟨v0, rfl, h0⟩ := h
  obtain ⟨buf, lost⟩ := d
  simp only [SmallSplit] at hs h0 ⊢
  have HN := hide (fun W (b : Below w.heap.size w W) => next_any buf v0 W hs (h0.up b))
  obtain ⟨a, c, rfl⟩ := h0.len
  clear h0
  by_cases g1 : lost < 0
  · have HR := hide (show false = splitOkB ⟨buf, lost⟩ by simp [splitOkB]; omega)
    generalize buf.length = n at *
    go_enter Try.func51, Try.ntmps51
    go_wp2_with fail
    go_ret
    exact ⟨ret_bool (unhide HR), by go_grown⟩
  · by_cases g2 : 270 < (buf.length : Int)
    · have HR := hide (show false = splitOkB ⟨buf, lost⟩ by simp [splitOkB]; omega)
      generalize buf.length = n at *
      go_enter Try.func51, Try.ntmps51
      go_wp2_with fail
      go_ret
      exact ⟨ret_bool (unhide HR), by go_grown⟩
    · by_cases g3 : buf.length = 0
      · have HR := hide (show true = splitOkB ⟨buf, lost⟩ by
          obtain rfl := List.eq_nil_of_length_eq_zero g3
          simp [splitOkB, wait_nil]
          omega)
        rw [g3] at g2 ⊢
        go_enter Try.func51, Try.ntmps51
        go_wp2_with fail
        go_ret
        exact ⟨ret_bool (unhide HR), by go_grown⟩
      · have HR := hide (show (nextI buf == 0) = splitOkB ⟨buf, lost⟩ by
          rw [next_zero]
          simp only [splitOkB]
          rw [show decide (0 ≤ lost) = true by simp; omega, show decide (buf.length ≤ 270) = true by simp; omega]
          simp)
        have q0 : ((buf.length : Int) == 0) = false := by rw [beq_eq_false_iff_ne]; omega
        clear g3
        generalize buf.length = n at *
        go_enter Try.func51, Try.ntmps51
        go_wp2_with fail
        refine (unhide HN _ (by go_grown)).mono ?_
        rintro e w1 ⟨rfl, b1⟩
        have B1 := hide (show Below w.heap.size w w1 from Below.trans (by go_grown) (b1.mono (by simp)))
        clear b1
        go_wp2_with fail
        go_ret
        exact ⟨ret_bool (unhide HR), unhide B1⟩
set_option maxHeartbeats 3200000 in
theorem implSplitOk_any (d : SplitV) (v : Value) (w : World) (hs : SmallSplit d) (h : SplitRd w v d) :
    Calls Try.prog 20 #[v] w fun e w' => e = .returned (.bool (splitOkB d)) ∧ Below w.heap.size w w' := by
  obtain ⟨v0, rfl, h0⟩ := h
  obtain ⟨buf, lost⟩ := d
  simp only [SmallSplit] at hs h0 ⊢
  have HN := hide (fun g W (b : Below w.heap.size w W) (hg : g < W.heap.size) (hc : W.cell? ⟨g, 0, none⟩ = some v0) => waits_any buf v0 g W hs hg hc (h0.up b))
  obtain ⟨a, c, rfl⟩ := h0.len
  clear h0
  by_cases g1 : lost < 0
  · have HR := hide (show false = splitOkB ⟨buf, lost⟩ by simp [splitOkB]; omega)
    have g1' : ¬ 0 ≤ lost := by omega
    generalize buf.length = n at *
    go_enter Try.func20, Try.ntmps20
    go_wp2_with fail
    go_ret
    exact ⟨ret_bool (unhide HR), by go_grown⟩
  · have g1' : 0 ≤ lost := by omega
    by_cases g2 : 270 < (buf.length : Int)
    · have HR := hide (show false = splitOkB ⟨buf, lost⟩ by simp [splitOkB]; omega)
      have g2' : ¬ (buf.length : Int) ≤ 270 := by omega
      generalize buf.length = n at *
      go_enter Try.func20, Try.ntmps20
      go_wp2_with fail
      go_ret
      exact ⟨ret_bool (unhide HR), by go_grown⟩
    · have HR := hide (show waitB buf = splitOkB ⟨buf, lost⟩ by
        simp only [splitOkB]
        rw [show decide (0 ≤ lost) = true by simp; omega, show decide (buf.length ≤ 270) = true by simp; omega]
        simp)
      have g2' : (buf.length : Int) ≤ 270 := by omega
      generalize buf.length = n at *
      go_enter Try.func20, Try.ntmps20
      go_wp2_with fail
      refine (unhide HN _ _ (by go_grown) ?_ ?_).mono ?_
      · simp
      · rw [World.cell?_alloc_at _ _ _ _ (by simp)]; rfl
      rintro e w1 ⟨rfl, b1⟩
      have B1 := hide (show Below w.heap.size w w1 from Below.trans (by go_grown) (b1.mono (by simp; omega)))
      clear b1
      go_wp2_with fail
      go_ret
      exact ⟨ret_bool (unhide HR), unhide B1⟩
end Go.Proofs.Ytlgmmibncoedgaa

set_option linter.unusedVariables false
namespace Go.Proofs.Ytlgmmibncoedgaa
open Go.RowKit Go.Maps Go.Deep

def walkF : Nat → List UInt8 → List (List UInt8) × List UInt8 × Nat
  | 0, bs => ([], bs, 0)
  | n + 1, bs => if waitB bs = true then ([], bs, 0) else if nextI bs = 1 then (frameOut (bs.take (frameSz bs).toNat) :: (walkF n (bs.drop (frameSz bs).toNat)).1, (walkF n (bs.drop (frameSz bs).toNat)).2) else ((walkF n (bs.drop 1)).1, (walkF n (bs.drop 1)).2.1, (walkF n (bs.drop 1)).2.2 + 1)
def walkW (bs : List UInt8) : List (List UInt8) × List UInt8 × Nat := walkF bs.length bs
theorem next_one {bs : List UInt8} (h : nextI bs = 1) : ∃ n : Nat, frameSz bs = (n : Int) ∧ 6 ≤ n ∧ n ≤ bs.length ∧ frameOk (bs.take n) = true := by
  unfold nextI at h
  by_cases g1 : frameSz bs < 0
  · rw [if_pos g1] at h; omega
  · rw [if_neg g1] at h
    cases g2 : waitB bs
    · rw [g2] at h
      simp only [Bool.false_eq_true, if_false] at h
      have g3 : frameSz bs ≠ 0 ∧ ¬ (bs.length : Int) < frameSz bs := by simpa [waitB] using g2
      split at h
      · rename_i hk
        refine ⟨(frameSz bs).toNat, by omega, ?_, by omega, hk⟩
        rcases sz_cases bs with e | e | e <;> omega
      · omega
    · rw [g2] at h
      simp at h
theorem wait_pos {bs : List UInt8} (h : waitB bs = false) : 1 ≤ bs.length := by
  rcases Nat.eq_zero_or_pos bs.length with e | e
  · rw [List.eq_nil_of_length_eq_zero e] at h
    rw [wait_nil] at h
    cases h
  · exact e
theorem walkF_same : ∀ (n m : Nat) (bs : List UInt8), bs.length ≤ n → bs.length ≤ m → walkF n bs = walkF m bs := by
  intro n
  induction n with
  | zero =>
    intro m bs h1 h2
    have e : bs = [] := List.eq_nil_of_length_eq_zero (by omega)
    subst e
    cases m with
    | zero => rfl
    | succ m => simp [walkF, wait_nil]
  | succ n ih =>
    intro m bs h1 h2
    cases m with
    | zero =>
      have e : bs = [] := List.eq_nil_of_length_eq_zero (by omega)
      subst e
      simp [walkF, wait_nil]
    | succ m =>
      unfold walkF
      cases hw : waitB bs
      · have hp := wait_pos hw
        simp only [Bool.false_eq_true, if_false]
        by_cases hn : nextI bs = 1
        · obtain ⟨k, e1, e2, e3, _⟩ := next_one hn
          simp only [hn, if_true]
          rw [e1, Int.toNat_natCast, ih m (bs.drop k) (by simp; omega) (by simp; omega)]
        · simp only [hn, if_false]
          rw [ih m (bs.drop 1) (by simp; omega) (by simp; omega)]
      · simp
theorem walk_wait {bs : List UInt8} (h : waitB bs = true) : walkW bs = ([], bs, 0) := by
  unfold walkW
  cases bs.length with
  | zero => rfl
  | succ n => simp [walkF, h]
theorem walk_hit {bs : List UInt8} {n : Nat} (h : waitB bs = false) (hn : nextI bs = 1) (e : frameSz bs = (n : Int)) : walkW bs = (frameOut (bs.take n) :: (walkW (bs.drop n)).1, (walkW (bs.drop n)).2) := by
  have hp := wait_pos h
  obtain ⟨k, e1, e2, e3, _⟩ := next_one hn
  have hk : k = n := by omega
  subst hk
  unfold walkW
  obtain ⟨m, hm⟩ : ∃ m, bs.length = m + 1 := ⟨bs.length - 1, by omega⟩
  rw [hm]
  conv => lhs; unfold walkF
  simp only [h, Bool.false_eq_true, if_false, hn, if_true, e1, Int.toNat_natCast]
  rw [walkF_same m (bs.drop k).length (bs.drop k) (by simp; omega) (Nat.le_refl _)]
theorem walk_miss {bs : List UInt8} (h : waitB bs = false) (hn : nextI bs ≠ 1) : walkW bs = ((walkW (bs.drop 1)).1, (walkW (bs.drop 1)).2.1, (walkW (bs.drop 1)).2.2 + 1) := by
  have hp := wait_pos h
  unfold walkW
  obtain ⟨m, hm⟩ : ∃ m, bs.length = m + 1 := ⟨bs.length - 1, by omega⟩
  rw [hm]
  conv => lhs; unfold walkF
  simp only [h, Bool.false_eq_true, if_false, hn]
  rw [walkF_same m (bs.drop 1).length (bs.drop 1) (by simp; omega) (Nat.le_refl _)]
/-- so far: p bytes gone through, ns heard, q passed over -/
def WTo (bs : List UInt8) (p : Nat) (ns : List (List UInt8)) (q : Nat) : Prop := p ≤ bs.length ∧ ns.length + q ≤ p ∧ walkW bs = (ns ++ (walkW (bs.drop p)).1, (walkW (bs.drop p)).2.1, q + (walkW (bs.drop p)).2.2)
theorem WTo.zero (bs : List UInt8) : WTo bs 0 [] 0 := ⟨Nat.zero_le _, by simp, by simp⟩
theorem WTo.hit {bs : List UInt8} {p q n : Nat} {ns : List (List UInt8)} (h : WTo bs p ns q) (hw : waitB (bs.drop p) = false) (hn : nextI (bs.drop p) = 1) (e : frameSz (bs.drop p) = (n : Int)) : WTo bs (p + n) (ns ++ [frameOut ((bs.drop p).take n)]) q := by
  obtain ⟨h1, h2, h3⟩ := h
  obtain ⟨k, e1, e2, e3, _⟩ := next_one hn
  rw [List.length_drop] at e3
  refine ⟨by omega, by simp; omega, ?_⟩
  rw [h3, walk_hit hw hn e, List.drop_drop]
  simp
theorem WTo.miss {bs : List UInt8} {p q : Nat} {ns : List (List UInt8)} (h : WTo bs p ns q) (hw : waitB (bs.drop p) = false) (hn : nextI (bs.drop p) ≠ 1) : WTo bs (p + 1) ns (q + 1) := by
  obtain ⟨h1, h2, h3⟩ := h
  have hp := wait_pos hw
  rw [List.length_drop] at hp
  refine ⟨by omega, by omega, ?_⟩
  rw [h3, walk_miss hw hn, List.drop_drop]
  simp
  omega
theorem WTo.done {bs : List UInt8} {p q : Nat} {ns : List (List UInt8)} (h : WTo bs p ns q) (hw : waitB (bs.drop p) = true) : walkW bs = (ns, bs.drop p, q) := by
  rw [h.2.2, walk_wait hw]
  simp
theorem walk_lens (bs : List UInt8) : ∀ n, bs.length ≤ n → (walkF n bs).1.length + (walkF n bs).2.2 + (walkF n bs).2.1.length ≤ bs.length ∧ ∀ x ∈ (walkF n bs).1, x.length ≤ 260 := by
  intro n
  induction n generalizing bs with
  | zero => intro h; simp [walkF]
  | succ n ih =>
    intro h
    unfold walkF
    cases hw : waitB bs
    · have hp := wait_pos hw
      simp only [Bool.false_eq_true, if_false]
      by_cases hn : nextI bs = 1
      · obtain ⟨k, e1, e2, e3, e4⟩ := next_one hn
        simp only [hn, if_true, e1, Int.toNat_natCast]
        obtain ⟨i1, i2⟩ := ih (bs.drop k) (by simp; omega)
        rw [List.length_drop] at i1
        refine ⟨by simp only [List.length_cons]; omega, fun x hx => ?_⟩
        rcases List.mem_cons.1 hx with rfl | hx
        · have := sz_cases (bs.take k)
          have hok := e4
          unfold frameOut
          rw [if_pos hok]
          unfold frameBody
          unfold frameOk at hok
          simp only [Bool.and_eq_true, decide_eq_true_eq] at hok
          simp only [List.length_take, List.length_drop] at *
          omega
        · exact i2 x hx
      · simp only [hn, if_false]
        obtain ⟨i1, i2⟩ := ih (bs.drop 1) (by simp; omega)
        rw [List.length_drop] at i1
        exact ⟨by omega, i2⟩
    · simp
theorem walk_len (bs : List UInt8) : (walkW bs).1.length + (walkW bs).2.2 + (walkW bs).2.1.length ≤ bs.length ∧ ∀ x ∈ (walkW bs).1, x.length ≤ 260 := walk_lens bs _ (Nat.le_refl _)
end Go.Proofs.Ytlgmmibncoedgaa
