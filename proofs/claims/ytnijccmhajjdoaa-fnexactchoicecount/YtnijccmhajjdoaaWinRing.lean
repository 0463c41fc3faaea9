/-
  Windows: the program's ring: the place of an item.
-/
import Derived.Test.YtnijccmhajjdoaaBoxes
import Derived.Handy
set_option linter.unusedVariables false
namespace Go.Proofs.Ytnijccmhajjdoaa
open Go.RowKit Go.Maps

set_option maxHeartbeats 1600000 in
theorem slot_any (w : World) (g st at' : Nat) (h : w.cell? ⟨g, 8, none⟩ = some (.int .i64 (st : Int))) (h0 : st < 4) (h1 : at' ≤ 4) :
    Calls Try.prog 72 #[.pointer (some ⟨g, 0, none⟩), .int .i64 (at' : Int)] w fun e w' => e = .returned (.int .i64 (((st + at') % 4 : Nat) : Int)) ∧ w' = w := by
  have ht : Int.tmod ((st : Int) + (at' : Int)) 4 = (((st + at') % 4 : Nat) : Int) := by rw [Int.tmod_eq_emod_of_nonneg (by omega)]; omega
  go_enter Try.func72, Try.ntmps72
  go_wp2_with fail
  go_ret
  exact ⟨by simp, rfl⟩
end Go.Proofs.Ytnijccmhajjdoaa
