/-
  The specification's reader: all of it.
-/
import Derived.Test.YtaonajalokhngaaGreatDoorReadE
import Derived.Test.YtaonajalokhngaaGreatDoorReadL
import Derived.Test.YtaonajalokhngaaGreatDoorMerged45
import Derived.Test.YtaonajalokhngaaGreatDoorReadA
import Derived.Test.YtaonajalokhngaaGreatDoorMerged18
set_option linter.unusedVariables false
namespace Go.Proofs.YtaonajalokhngaaGreatDoor
open Go.RowKit Go.Maps Go.Deep

theorem said_all (ws : List WordV) (hw : ∀ x ∈ ws, WordIs x) : ∀ f, SaidE ws f ∧ SaidL ws f ∧ SaidH ws f ∧ SaidA ws f := by
  intro f
  induction f using Nat.strongRecOn with
  | ind f ih =>
    cases f with
    | zero => exact ⟨fun _ _ _ _ _ _ _ h => by omega, fun _ _ _ _ _ _ _ _ _ _ h => by omega, fun _ _ _ _ _ _ _ h => by omega, fun _ _ _ _ _ _ _ h => by omega⟩
    | succ f =>
      have h := ih f (by omega)
      exact ⟨expr_one ws f h.1 h.2.1, level_one ws f (fun f' hf => (ih f' (by omega)).2.1) h.2.2.1, ahead_one ws f h.2.2.1 h.2.2.2, atom_one ws hw f h.1⟩
end Go.Proofs.YtaonajalokhngaaGreatDoor
