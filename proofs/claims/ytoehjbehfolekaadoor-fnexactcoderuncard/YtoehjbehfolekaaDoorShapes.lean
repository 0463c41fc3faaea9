/-
  The program's table of shapes, as it lies in its variable.
-/
import Derived.Test.YtoehjbehfolekaaDoorKeys
namespace Go.Proofs.YtoehjbehfolekaaDoor
open Go.RowKit Go.Maps

/-- what the program's table says of each kind: how many kids, its level, its word -/
def shapesL : List (Int × Int × ByteArray) :=
  [(0, 0, ⟨#[]⟩), (0, 7, ⟨#[]⟩), (0, 7, ⟨#[]⟩), (1, 6, ⟨#[45]⟩), (1, 6, ⟨#[110, 111, 116]⟩), (2, 5, ⟨#[42]⟩), (2, 5, ⟨#[47]⟩), (2, 5, ⟨#[37]⟩), (2, 4, ⟨#[43]⟩), (2, 4, ⟨#[45]⟩),
   (2, 3, ⟨#[61]⟩), (2, 3, ⟨#[33, 61]⟩), (2, 3, ⟨#[60]⟩), (2, 3, ⟨#[60, 61]⟩), (2, 3, ⟨#[62]⟩), (2, 3, ⟨#[62, 61]⟩), (2, 2, ⟨#[97, 110, 100]⟩), (2, 1, ⟨#[111, 114]⟩),
   (2, 7, ⟨#[109, 105, 110]⟩), (2, 7, ⟨#[109, 97, 120]⟩), (1, 7, ⟨#[97, 98, 115]⟩), (3, 0, ⟨#[105, 102]⟩), (2, 0, ⟨#[108, 101, 116]⟩), (3, 0, ⟨#[114, 101, 112]⟩)]
theorem shapes_len : shapesL.length = 24 := rfl
/-- the table lies in its variable -/
def ShapesIn (w : World) : Prop :=
  1 < w.heap.size ∧ ∀ k (h : k < shapesL.length), w.cell? ⟨1, k * 3, none⟩ = some (.int .i64 shapesL[k].1) ∧ w.cell? ⟨1, k * 3 + 1, none⟩ = some (.int .i64 shapesL[k].2.1) ∧ w.cell? ⟨1, k * 3 + 2, none⟩ = some (.string shapesL[k].2.2)
theorem ShapesIn.below {w w' : World} {B : Nat} (h : ShapesIn w) (hb : Below B w w') (hB : w.heap.size ≤ B) : ShapesIn w' := by
  refine ⟨Nat.lt_of_lt_of_le h.1 hb.size, fun k hk => ?_⟩
  obtain ⟨a, b, c⟩ := h.2 k hk
  exact ⟨(hb.cell (Nat.lt_of_lt_of_le h.1 hB)).trans a, (hb.cell (Nat.lt_of_lt_of_le h.1 hB)).trans b, (hb.cell (Nat.lt_of_lt_of_le h.1 hB)).trans c⟩

end Go.Proofs.YtoehjbehfolekaaDoor
