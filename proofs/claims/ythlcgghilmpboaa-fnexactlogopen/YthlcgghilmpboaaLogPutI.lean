/-
  LogPut of the program.
-/
import Derived.Test.YthlcgghilmpboaaMerged10
import Derived.Test.YthlcgghilmpboaaMerged11
import Derived.Test.YthlcgghilmpboaaMerged7
set_option linter.unusedVariables false
namespace Go.Proofs.Ythlcgghilmpboaa
open Go.RowKit Go.Maps Go.Deep

theorem ByRow.low {B B' : Nat} {w : World} {v : Value} {bs : List UInt8} (h : ByRow B w v bs) (hB : B' ≤ B) : ByRow B' w v bs := by
  refine ⟨h.1, ?_⟩
  rcases h.2 with h0 | ⟨g, cap, cur, e, hb, r⟩
  · exact .inl h0
  · exact .inr ⟨g, cap, cur, e, Nat.le_trans hB hb, r⟩
theorem TwoRows.low {B B' : Nat} {w : World} {v0 v1 : Value} {xs ys : List UInt8} (h : TwoRows B w v0 v1 xs ys) (hB : B' ≤ B) : TwoRows B' w v0 v1 xs ys := ⟨h.1.low hB, h.2.1.low hB, h.2.2⟩
set_option maxHeartbeats 3200000 in
theorem newLogbook_any (d : DiskV) (v : Value) (w : World) (h0 : d.safe.length ≤ 100000) (h1 : d.soft.length ≤ 100000) (h : DiskRd w v d) :
    Calls Try.prog 22 #[v] w fun e w' => RetDrive d w e w' := by
  have HNW := hide (fun W (b : Below w.heap.size w W) => newDrive_any d v W h0 h1 (h.up b))
  obtain ⟨v0, v1, rfl, g0, g1⟩ := h
  obtain ⟨p0, p2, rfl⟩ := g0.len
  obtain ⟨p3, p5, rfl⟩ := g1.len
  clear g0 g1
  have Y0 := hide (boxF_new4 (w.alloc (.cells #[.slice p0 d.safe.length p2, .slice p3 d.soft.length p5, .int .i64 d.fuse, .bool d.down] 26)) (.slice none 0 0) (.slice none 0 0) (.int .i64 0) (.bool false) 49)
  go_enter Try.func22, Try.ntmps22
  go_wp2_with fail
  refine (unhide HNW _ (by go_grown)).mono ?_
  rintro e w1 ⟨a0, n0, c0, a1, n1, c1, rfl, T1, b1⟩
  have Y1 := hide (show BoxF w1 (w.heap.size + 1) [.slice none 0 0, .slice none 0 0, .int .i64 0, .bool false] by simpa using (unhide Y0).up b1)
  have B1 := hide (show Below w.heap.size w w1 from Below.trans (by go_grown) (b1.mono (by simp; omega)))
  have TT := hide (show TwoRows (w.heap.size + 2) w1 (.slice a0 n0 c0) (.slice a1 n1 c1) d.safe d.soft by simpa using unhide T1)
  clear b1 Y0 T1
  obtain ⟨⟨y0, y1, y2, y3⟩, j0, j1, j2, j3⟩ := (unhide Y1).four
  go_wp2_with fail
  refine bodyPost_ret (v := .agg #[.slice a0 n0 c0, .slice a1 n1 c1, .int .i64 d.fuse, .bool d.down]) (by simp [results, Try.results22, go_sem, y0, y1, y2, y3]) rfl ?_
  have key : ∀ W, Turn [w.heap.size + 1] w1 W → RetDrive d w (.returned (.agg #[.slice a0 n0 c0, .slice a1 n1 c1, .int .i64 d.fuse, .bool d.down])) W := fun W ht =>
    ⟨a0, n0, c0, a1, n1, c1, rfl, hide (TwoRows.low (TwoRows.turn (unhide TT) ht (fun k hk => by simp at hk; omega)) (by omega)), (unhide B1).trans (ht.below (unhide B1).size (fun k hk => by simp at hk; omega))⟩
  exact key _ (((((Turn.refl [w.heap.size + 1] w1).setCell (g := w.heap.size + 1) (by simp) _ _).setCell (g := w.heap.size + 1) (by simp) _ _).setCell (g := w.heap.size + 1) (by simp) _ _).setCell (g := w.heap.size + 1) (by simp) _ _)
end Go.Proofs.Ythlcgghilmpboaa
