/-
  One feed that comes in is opened; what the laid handle gives.
-/
import Derived.Test.YtknkdbfgfcgkiaaGreatDoorMerged49
import Derived.Test.YtknkdbfgfcgkiaaGreatDoorMerged45
set_option linter.unusedVariables false
namespace Go.Proofs.YtknkdbfgfcgkiaaGreatDoor
open Go.RowKit Go.Maps Go.Deep Go.WideShapes Go.ChangeShapes

theorem cellsFeed : Tryz.prog.cellsOf 30 = 3 := by kernel_rfl
set_option maxRecDepth 20000 in
theorem openFeed {H : Type} {enc : TypeId × Value → H} {w : World} {base : Nat} {spare : Nat → Bool} {held : Bool} {c0 c1 c2 : Value} {d : DataW H} {p : List MemPlace}
    (h : DataW.Trod enc Tryz.prog w base spare held 30 (.agg #[c0, c1, c2]) d p) : ∃ x : FeedV, FeedRd w (.agg #[c0, c1, c2]) x ∧ FeedFit x := by
  obtain ⟨fuel, hf⟩ := h
  obtain ⟨xs, k, hk, hxy, _, hxl, hf⟩ := DataW.trod_struct Tryz.underlying30 hf
  match xs, hxl with
  | [y0, y1], _ =>
    have g0 := hf 0 _ rfl
    have g1 := hf 1 _ rfl
    simp [Value.cells, cellsIMark, cellsOfItem] at g0 g1
    obtain ⟨n0, e0, _, hs0⟩ := DataW.trod_int Tryz.underlying3 g0
    obtain ⟨x, hx, fx⟩ := openItem (c0 := c1) (c1 := c2) ⟨_, g1⟩
    simp at e0
    subst e0
    obtain ⟨u, e, hm⟩ := hx
    simp at e
    obtain ⟨rfl, rfl⟩ := e
    exact ⟨⟨n0, x⟩, ⟨_, rfl, hm⟩, markRange hs0, fx⟩
end Go.Proofs.YtknkdbfgfcgkiaaGreatDoor
