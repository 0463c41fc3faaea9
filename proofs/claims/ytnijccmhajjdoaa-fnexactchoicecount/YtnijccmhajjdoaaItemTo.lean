/-
  Items copied and compared.
-/
import Derived.Test.YtnijccmhajjdoaaItemRows
set_option linter.unusedVariables false
namespace Go.Proofs.Ytnijccmhajjdoaa
open Go.RowKit Go.Maps Go.Deep

theorem icell {W w1 : World} (hb : Below W.heap.size W w1) : (∀ b o, b < W.heap.size → w1.cell? ⟨b, o, none⟩ = W.cell? ⟨b, o, none⟩) ∧ (∀ b o, b < W.heap.size → w1.frozen? ⟨b, o, none⟩ = W.frozen? ⟨b, o, none⟩) :=
  ⟨fun b o h => hb.cell (p := ⟨b, o, none⟩) h, fun b o h => hb.frozen (p := ⟨b, o, none⟩) h⟩
theorem toMarkS_own (ns : List MarkV) (v : Value) (w : World) (hs : SmallMarkS ns) (h : MarkSRd w v ns) :
    Calls Try.prog 50 #[v] w fun e w' => e = .returned (.slice (some ⟨w.heap.size, 0, none⟩) ns.length ns.length) ∧ MarkSOwn [w.heap.size] w' (.slice (some ⟨w.heap.size, 0, none⟩) ns.length ns.length) ns ∧ w.heap.size < w'.heap.size ∧ Below w.heap.size w w' := by
  obtain ⟨a, c, rfl, h⟩ := h
  refine (toMarkS_in w a c ns hs.1.1 h).mono ?_
  rintro e w' ⟨rfl, h1, h2, h3, h4⟩
  exact ⟨rfl, .inr ⟨w.heap.size, 0, ns.length, rfl, rfl, h2, h1, fun i _ => h4 _⟩, h2, h3⟩
set_option maxHeartbeats 3200000 in
theorem toItem_any (z0 : Int) (z1 : Value) (ms : List MarkV) (w : World) (hs : SmallMarkS ms) (h : MarkSRd w z1 ms) :
    Calls Try.prog 36 #[.agg #[.int .i64 z0, z1]] w fun e w' => ∃ g, e = .returned (.agg #[.int .i64 z0, .slice (some ⟨g, 0, none⟩) ms.length ms.length]) ∧ w.heap.size ≤ g ∧ MarkSOwn [g] w' (.slice (some ⟨g, 0, none⟩) ms.length ms.length) ms ∧ Below w.heap.size w w' := by
  have HA := hide (fun W (b : Below w.heap.size w W) => toMarkS_own ms z1 W hs (h.up b))
  obtain ⟨a, n, c, rfl⟩ := h.form
  clear h hs
  go_enter Try.func36, Try.ntmps36
  go_wp2_with fail
  refine (unhide HA _ (by go_grown)).mono ?_
  rintro e w1 ⟨rfl, o1, z1, b1⟩
  have O1 := hide o1
  have B1 := hide (show Below w.heap.size w w1 from Below.trans (by go_grown) (b1.mono (by simp; omega)))
  obtain ⟨hc, hf⟩ := icell b1
  clear o1 b1
  simp at z1
  have O1' := hide (show MarkSOwn [w.heap.size + 1 + 1 + 1] w1 (.slice (some ⟨w.heap.size + 1 + 1 + 1, 0, none⟩) ms.length ms.length) ms by simpa using unhide O1)
  clear O1
  have r0 : ∀ i, i < 2 → ∃ x, w1.cell? ⟨w.heap.size + 1, i, none⟩ = some x := by
    intro i hi
    rw [hc _ _ (by simp), World.cell?_alloc_past _ _ _ (by simp), World.cell?_alloc_at _ _ _ _ (by simp)]
    match i, hi with
    | 0, _ => exact ⟨_, rfl⟩
    | 1, _ => exact ⟨_, rfl⟩
  obtain ⟨q0, r0'⟩ := r0 0 (by omega)
  obtain ⟨q1, r1'⟩ := r0 1 (by omega)
  clear r0
  go_wp2_with fail
  refine bodyPost_ret (v := .agg #[.int .i64 z0, .slice (some ⟨w.heap.size + 1 + 1 + 1, 0, none⟩) ms.length ms.length]) (by simp [results, Try.results36, go_sem, r0', r1']) rfl ?_
  have key : ∀ W, Turn [w.heap.size + 1, w.heap.size + 1 + 1] w1 W → ∃ g, Ending.returned (.agg #[.int .i64 z0, .slice (some ⟨w.heap.size + 1 + 1 + 1, 0, none⟩) ms.length ms.length]) = .returned (.agg #[.int .i64 z0, .slice (some ⟨g, 0, none⟩) ms.length ms.length]) ∧ w.heap.size ≤ g ∧ MarkSOwn [g] W (.slice (some ⟨g, 0, none⟩) ms.length ms.length) ms ∧ Below w.heap.size w W := fun W ht =>
    ⟨_, rfl, by omega, (unhide O1').turn ht (fun k hk hm => by simp at hk hm; omega), (unhide B1).trans (ht.below (unhide B1).size (fun k hk => by simp at hk; omega))⟩
  exact key _ ((((Turn.refl _ _).setCell (by simp) _ _).setCell (by simp) _ _).setCell (by simp) _ _)
set_option maxHeartbeats 3200000 in
theorem eqItem_any (z0 : Int) (z1 z1' : Value) (ms : List MarkV) (w : World) (hs : SmallMarkS ms) (h : MarkSRd w z1 ms) (h' : MarkSRd w z1' ms) :
    Calls Try.prog 39 #[.agg #[.int .i64 z0, z1], .agg #[.int .i64 z0, z1']] w fun e w' => e = .returned (.bool true) ∧ Below w.heap.size w w' := by
  have HA := hide (fun W (b : Below w.heap.size w W) => eqMarkS_kit ms z1 z1' W hs (h.up b) (h'.up b))
  obtain ⟨a, n, c, rfl⟩ := h.form
  obtain ⟨a', n', c', rfl⟩ := h'.form
  clear h h' hs
  go_enter Try.func39, Try.ntmps39
  go_wp2_with fail
  refine (unhide HA _ (by go_grown)).mono ?_
  rintro e w1 ⟨rfl, b1⟩
  have B1 := hide (show Below w.heap.size w w1 from Below.trans (by go_grown) (b1.mono (by simp; omega)))
  clear b1
  go_wp2_with fail
  go_ret
  exact ⟨rfl, unhide B1⟩
end Go.Proofs.Ytnijccmhajjdoaa
