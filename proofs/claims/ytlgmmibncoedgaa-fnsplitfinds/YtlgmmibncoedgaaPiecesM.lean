/-
  A stream gone through in two pieces: as it is gone through at once.
-/
import Derived.Test.YtlgmmibncoedgaaMerged11
set_option linter.unusedVariables false
namespace Go.Proofs.Ytlgmmibncoedgaa
open Go.RowKit Go.Maps Go.Deep

theorem byN_app (xs ys : List UInt8) (i : Nat) (h : i < xs.length) : byN (xs ++ ys) i = byN xs i := by
  unfold byN
  rw [List.getD_eq_getElem?_getD, List.getElem?_append_left h, ← List.getD_eq_getElem?_getD]
theorem sz_app {xs : List UInt8} (ys : List UInt8) (h : waitB xs = false) : frameSz (xs ++ ys) = frameSz xs := by
  have hp := wait_pos h
  have h' : frameSz xs ≠ 0 ∧ ¬ (xs.length : Int) < frameSz xs := by simpa [waitB] using h
  have h0 := h'.1
  clear h h'
  unfold frameSz headN at h0 ⊢
  rw [byN_app _ _ 0 (by omega)]
  by_cases e : byN xs 0 ≠ 245
  · rw [if_pos ⟨by rw [List.length_append]; omega, e⟩, if_pos ⟨hp, e⟩]
  · rw [if_neg (fun c => e c.2)] at h0
    have h3 : 3 ≤ xs.length := by
      by_cases hh : xs.length < 3
      · rw [if_pos hh] at h0; exact absurd rfl h0
      · omega
    rw [byN_app _ _ 1 (by omega), byN_app _ _ 2 (by omega), List.length_append]
    rw [if_neg (show ¬ (1 ≤ xs.length + ys.length ∧ byN xs 0 ≠ 245) from fun c => e c.2), if_neg (show ¬ xs.length + ys.length < 3 by omega), if_neg (show ¬ (1 ≤ xs.length ∧ byN xs 0 ≠ 245) from fun c => e c.2), if_neg (show ¬ xs.length < 3 by omega)]
theorem wait_app {xs : List UInt8} (ys : List UInt8) (h : waitB xs = false) : waitB (xs ++ ys) = false := by
  have h' : frameSz xs ≠ 0 ∧ ¬ (xs.length : Int) < frameSz xs := by simpa [waitB] using h
  unfold waitB
  rw [sz_app ys h, List.length_append, decide_eq_false h'.1, decide_eq_false (by omega)]
  rfl
theorem next_app {xs : List UInt8} (ys : List UInt8) (h : waitB xs = false) : nextI (xs ++ ys) = nextI xs := by
  have h' : frameSz xs ≠ 0 ∧ ¬ (xs.length : Int) < frameSz xs := by simpa [waitB] using h
  unfold nextI
  rw [sz_app ys h, wait_app ys h, h]
  by_cases g : frameSz xs < 0
  · rw [if_pos g, if_pos g]
  · rw [if_neg g, if_neg g, List.take_append_of_le_length (by omega)]
theorem walk_apps (ys : List UInt8) : ∀ (n : Nat) (xs : List UInt8), xs.length ≤ n → walkW (xs ++ ys) = ((walkW xs).1 ++ (walkW ((walkW xs).2.1 ++ ys)).1, (walkW ((walkW xs).2.1 ++ ys)).2.1, (walkW xs).2.2 + (walkW ((walkW xs).2.1 ++ ys)).2.2) := by
  intro n
  induction n with
  | zero =>
    intro xs h
    have e : xs = [] := List.eq_nil_of_length_eq_zero (by omega)
    subst e
    rw [walk_wait wait_nil]
    simp
  | succ n ih =>
    intro xs h
    cases hw : waitB xs
    · have hp := wait_pos hw
      by_cases hn : nextI xs = 1
      · obtain ⟨k, e1, e2, e3, _⟩ := next_one hn
        rw [walk_hit (wait_app ys hw) ((next_app ys hw).trans hn) ((sz_app ys hw).trans e1), walk_hit hw hn e1, List.drop_append_of_le_length e3, List.take_append_of_le_length e3, ih (xs.drop k) (by simp; omega)]
        simp
      · rw [walk_miss (wait_app ys hw) (by rw [next_app ys hw]; exact hn), walk_miss hw hn, List.drop_append_of_le_length (by omega), ih (xs.drop 1) (by simp; omega)]
        simp only [Prod.mk.injEq, true_and]
        omega
    · rw [walk_wait hw]
      simp
theorem walk_app (xs ys : List UInt8) : walkW (xs ++ ys) = ((walkW xs).1 ++ (walkW ((walkW xs).2.1 ++ ys)).1, (walkW ((walkW xs).2.1 ++ ys)).2.1, (walkW xs).2.2 + (walkW ((walkW xs).2.1 ++ ys)).2.2) := walk_apps ys _ xs (Nat.le_refl _)
theorem feed_two {d : SplitV} {ys : List UInt8} (h : feedB d ys = true) (k : Nat) (hk : k ≤ ys.length) :
    feedB d (ys.take k) = true ∧ feedB (feedS d (ys.take k)) (ys.drop k) = true ∧ feedS (feedS d (ys.take k)) (ys.drop k) = feedS d ys ∧ feedH d ys = feedH d (ys.take k) ++ feedH (feedS d (ys.take k)) (ys.drop k) ∧ splitOkB (feedS d ys) = true := by
  obtain ⟨h1, h2, h3, h4, h5⟩ := feed_yes h
  have hlt : (ys.take k).length = k := by rw [List.length_take]; omega
  have f1 : feedB d (ys.take k) = true := by
    unfold feedB
    rw [h1, hlt, decide_eq_true (show k ≤ 4000 by omega), decide_eq_true (by omega)]
    rfl
  have hw := walk_waits (d.buf ++ ys.take k) _ (Nat.le_refl _)
  have hw' : waitB (walkW (d.buf ++ ys.take k)).2.1 = true := hw
  have hsh := wait_short hw'
  have hl := (walk_len (d.buf ++ ys.take k)).1
  rw [List.length_append, hlt] at hl
  have e1 : feedS d (ys.take k) = ⟨(walkW (d.buf ++ ys.take k)).2.1, d.lost + ((walkW (d.buf ++ ys.take k)).2.2 : Int)⟩ := by
    unfold feedS
    rw [f1]
    rfl
  have ha := walk_app (d.buf ++ ys.take k) (ys.drop k)
  rw [List.append_assoc, List.take_append_drop] at ha
  have f2 : feedB (feedS d (ys.take k)) (ys.drop k) = true := by
    rw [e1]
    unfold feedB splitOkB
    simp only
    rw [hw', List.length_drop, decide_eq_true (by omega), decide_eq_true hsh, decide_eq_true (by omega), decide_eq_true (by omega)]
    rfl
  refine ⟨f1, f2, ?_, ?_, ?_⟩
  · unfold feedS at f2 ⊢
    rw [f1] at f2 ⊢
    simp only [if_true] at f2 ⊢
    rw [f2, h]
    simp only [if_true]
    rw [ha]
    simp only [SplitV.mk.injEq, true_and]
    omega
  · unfold feedH
    rw [f2, f1, h, e1]
    simp only [if_true]
    rw [ha]
  · have g1 := walk_waits (d.buf ++ ys) _ (Nat.le_refl _)
    have g1' : waitB (walkW (d.buf ++ ys)).2.1 = true := g1
    have g2 := wait_short g1'
    unfold feedS
    rw [h]
    simp only [if_true]
    unfold splitOkB
    simp only
    rw [g1', decide_eq_true (by omega), decide_eq_true g2]
    rfl
end Go.Proofs.Ytlgmmibncoedgaa
