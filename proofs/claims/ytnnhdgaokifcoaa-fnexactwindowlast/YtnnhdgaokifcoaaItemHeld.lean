/-
  One item's marks written, and found again.
-/
import Derived.Test.YtnnhdgaokifcoaaItemTo
import Derived.Test.YtnnhdgaokifcoaaMarkHeld
set_option linter.unusedVariables false
namespace Go.Proofs.Ytnnhdgaokifcoaa
open Go.RowKit Go.Maps Go.Deep

set_option maxHeartbeats 3200000 in
theorem markItem_any (S : List Nat) (z0 : Int) (z1 : Value) (ms : List MarkV) (w : World) (k : Nat) (hk : k ≤ 1000000000000000) (hs : SmallMarkS ms) (h : MarkSOwn S w z1 ms) :
    Calls Try.prog 12 #[.agg #[.int .i64 z0, z1], .int .i64 (k : Int)] w fun e w' => e = .returned (.int .i64 ((k : Int) + (nMarkS ms : Int))) ∧ Hid (MarkSOwn S w' z1 (marksMarkS k ms)) ∧ Turn S w w' := by
  have HA := hide (fun W (b : Below w.heap.size w W) => markMarkS_kit S ms z1 W k (nMarkS ms) (k : Int) rfl rfl hk hs (h.up b))
  obtain ⟨a, n, c, rfl⟩ := h.rd.form
  clear h hs
  go_enter Try.func12, Try.ntmps12
  go_wp2_with fail
  refine (unhide HA _ (by go_grown)).mono ?_
  rintro e w1 ⟨rfl, P⟩
  have O1 := hide (unhide P).1
  have T1 := hide ((Turn.of_alloc S w (.cells #[.int .i64 z0, .slice a n c] 26)).trans (unhide P).2)
  clear P
  go_wp2_with fail
  go_ret
  exact ⟨rfl, O1, unhide T1⟩
set_option maxHeartbeats 3200000 in
theorem heldItem_any (z0 : Int) (z1 : Value) (ms : List MarkV) (w : World) (k : Nat) (hk : k ≤ 1000000000000000) (hs : SmallMarkS ms) (h : MarkSRd w z1 (marksMarkS k ms)) :
    Calls Try.prog 13 #[.agg #[.int .i64 z0, z1], .int .i64 (k : Int)] w fun e w' => e = .returned (.int .i64 ((k : Int) + (nMarkS ms : Int))) ∧ Below w.heap.size w w' := by
  have HA := hide (fun W (b : Below w.heap.size w W) => heldMarkS_kit ms z1 W k (nMarkS ms) (k : Int) rfl rfl hk hs (h.up b))
  obtain ⟨a, n, c, rfl⟩ := h.form
  have hn : ¬ ((k : Int) + (nMarkS ms : Int)) < 0 := by omega
  clear h hs
  go_enter Try.func13, Try.ntmps13
  go_wp2_with fail
  refine (unhide HA _ (by go_grown)).mono ?_
  rintro e w1 ⟨rfl, b1⟩
  have B1 := hide (show Below w.heap.size w w1 from Below.trans (by go_grown) (b1.mono (by simp)))
  clear b1
  go_wp2_with fail
  go_ret
  exact ⟨rfl, unhide B1⟩
end Go.Proofs.Ytnnhdgaokifcoaa
