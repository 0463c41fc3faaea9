/-
  One item that comes in is opened.
-/
import Derived.Test.YtnnhdgaokifcoaaItemKit
import Derived.Test.YtnnhdgaokifcoaaItemOpen
set_option linter.unusedVariables false
namespace Go.Proofs.Ytnnhdgaokifcoaa
open Go.RowKit Go.Maps Go.Deep Go.WideShapes Go.ChangeShapes

theorem aggOfI {w : World} {base : Nat} {v : Value} (h : Value.okWide Try.prog w .any base 38 v) : ∃ c0 c1, v = .agg #[c0, c1] := by
  simp only [Value.okWide, Try.underlying38] at h
  obtain ⟨cs, h1, h2, _⟩ := h
  have hn : cs.size = 2 := by rw [h2]; exact cellsOfItem
  obtain ⟨l⟩ := cs
  match l, hn with
  | [a, b], _ => exact ⟨a, b, h1⟩
theorem open_mark_cell {H : Type} {enc : TypeId × Value → H} {w : World} {base : Nat} {spare : Nat → Bool} {held : Bool} {v : Value} {fuel : Nat} {y : DataW H × List MemPlace}
    (h : DataW.trod enc Try.prog w base spare held fuel 36 [v] = some y) : ∃ ns : List MarkV, MarkSRd w v ns ∧ MarkSFit ns := by
  have h' := h
  rcases open_slice Try.underlying36 h with ⟨hcs, _⟩ | ⟨a', len', cap', m, n, D, Pl, hcs, _⟩
  · simp at hcs
    subst hcs
    exact ⟨[], ⟨none, 0, rfl, .inl rfl⟩, by unfold maxLen; simp, fun _ h => by cases h⟩
  · simp at hcs
    subst hcs
    obtain ⟨ns, rfl, h1, h2, h3⟩ := openMarkS (a := some a') (len := len') (cap := cap') ⟨fuel, h'⟩
    exact ⟨ns, ⟨_, _, rfl, h2⟩, h1, h3⟩
set_option maxRecDepth 20000 in
theorem openItem {H : Type} {enc : TypeId × Value → H} {w : World} {base : Nat} {spare : Nat → Bool} {held : Bool} {c0 c1 : Value} {d : DataW H} {p : List MemPlace}
    (h : DataW.Trod enc Try.prog w base spare held 38 (.agg #[c0, c1]) d p) : ∃ x : ItemV, ItemRd w (.agg #[c0, c1]) x ∧ ItemFit x := by
  obtain ⟨fuel, hf⟩ := h
  obtain ⟨xs, k, hk, hxy, _, hxl, hf⟩ := DataW.trod_struct Try.underlying38 hf
  match xs, hxl with
  | [y0, y1], _ =>
    have g0 := hf 0 _ rfl
    have g1 := hf 1 _ rfl
    simp [Value.cells, cellsIMark, cellsMkItem] at g0 g1
    obtain ⟨n0, e0, _, hs0⟩ := DataW.trod_int Try.underlying3 g0
    obtain ⟨ms, hr, hm⟩ := open_mark_cell g1
    simp at e0
    subst e0
    exact ⟨⟨n0, ms⟩, ⟨_, rfl, hr⟩, markRange hs0, hm⟩
end Go.Proofs.Ytnnhdgaokifcoaa
