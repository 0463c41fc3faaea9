/-
  The sum of a word: a byte that is turned moves it.
-/
import Derived.Test.YtlgmmibncoedgaaMerged6
set_option linter.unusedVariables false
namespace Go.Proofs.Ytlgmmibncoedgaa
open Go.RowKit Go.Maps Go.Deep

theorem sum7_apart (ys : List UInt8) : ∀ (s t : Int), 0 ≤ s → s < 65521 → 0 ≤ t → t < 65521 → s ≠ t → ys.foldl sumStep7 s ≠ ys.foldl sumStep7 t := by
  induction ys with
  | nil => exact fun s t _ _ _ _ h => h
  | cons c cs ih =>
    intro s t h0 h1 h2 h3 h
    refine ih _ _ (by unfold sumStep7; omega) (by unfold sumStep7; omega) (by unfold sumStep7; omega) (by unfold sumStep7; omega) ?_
    unfold sumStep7
    generalize (c.toNat : Int) = x
    intro e
    apply h
    omega
theorem sum7_turned (xs ys : List UInt8) (a b : UInt8) (h : a ≠ b) : saySum (xs ++ a :: ys) ≠ saySum (xs ++ b :: ys) := by
  unfold saySum
  rw [List.foldl_append, List.foldl_append, List.foldl_cons, List.foldl_cons]
  obtain ⟨h0, h1⟩ := saySum_go xs 7 (by omega)
  generalize xs.foldl sumStep7 7 = s at *
  have ha := a.toNat_lt
  have hb := b.toNat_lt
  have hne : a.toNat ≠ b.toNat := fun e => h (UInt8.toNat.inj e)
  refine sum7_apart ys _ _ (by unfold sumStep7; omega) (by unfold sumStep7; omega) (by unfold sumStep7; omega) (by unfold sumStep7; omega) ?_
  unfold sumStep7
  omega
theorem set_split7 (xs : List UInt8) (k : Nat) (h : k < xs.length) (c : UInt8) : xs.set k c = xs.take k ++ c :: xs.drop (k + 1) ∧ xs = xs.take k ++ xs[k] :: xs.drop (k + 1) := by
  constructor
  · rw [List.set_eq_take_append_cons_drop, if_pos h]
  · rw [← List.drop_eq_getElem_cons h, List.take_append_drop]
theorem sum7_set (xs : List UInt8) (k : Nat) (h : k < xs.length) (c : UInt8) (hc : c ≠ xs[k]) : saySum (xs.set k c) ≠ saySum xs := by
  obtain ⟨h1, h2⟩ := set_split7 xs k h c
  rw [h1]
  intro e
  rw [h2] at e
  have hx : (xs.take k ++ xs[k] :: xs.drop (k + 1)).take k = xs.take k := by rw [← h2]
  have hd : (xs.take k ++ xs[k] :: xs.drop (k + 1)).drop (k + 1) = xs.drop (k + 1) := by rw [← h2]
  rw [hx, hd] at e
  exact sum7_turned _ _ _ _ hc e
end Go.Proofs.Ytlgmmibncoedgaa
