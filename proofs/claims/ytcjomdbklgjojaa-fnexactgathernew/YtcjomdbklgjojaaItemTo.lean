/-
  Items copied and compared.
-/
import Derived.Test.YtcjomdbklgjojaaItemRows
set_option linter.unusedVariables false
namespace Go.Proofs.Ytcjomdbklgjojaa
open Go.RowKit Go.Maps Go.Deep

theorem icell {W w1 : World} (hb : Below W.heap.size W w1) : (∀ b o, b < W.heap.size → w1.cell? ⟨b, o, none⟩ = W.cell? ⟨b, o, none⟩) ∧ (∀ b o, b < W.heap.size → w1.frozen? ⟨b, o, none⟩ = W.frozen? ⟨b, o, none⟩) :=
  ⟨fun b o h => hb.cell (p := ⟨b, o, none⟩) h, fun b o h => hb.frozen (p := ⟨b, o, none⟩) h⟩
set_option maxHeartbeats 3200000 in
theorem eqItem_any (z0 : Int) (z1 z1' : Value) (ms : List MarkV) (w : World) (hs : SmallMarkS ms) (h : MarkSRd w z1 ms) (h' : MarkSRd w z1' ms) :
    Calls Try.prog 38 #[.agg #[.int .i64 z0, z1], .agg #[.int .i64 z0, z1']] w fun e w' => e = .returned (.bool true) ∧ Below w.heap.size w w' := by
  have HA := hide (fun W (b : Below w.heap.size w W) => eqMarkS_kit ms z1 z1' W hs (h.up b) (h'.up b))
  obtain ⟨a, n, c, rfl⟩ := h.form
  obtain ⟨a', n', c', rfl⟩ := h'.form
  clear h h' hs
  go_enter Try.func38, Try.ntmps38
  go_wp2_with fail
  refine (unhide HA _ (by go_grown)).mono ?_
  rintro e w1 ⟨rfl, b1⟩
  have B1 := hide (show Below w.heap.size w w1 from Below.trans (by go_grown) (b1.mono (by simp; omega)))
  clear b1
  go_wp2_with fail
  go_ret
  exact ⟨rfl, unhide B1⟩
end Go.Proofs.Ytcjomdbklgjojaa
