/-
  DERIVED. GIVEN WITH THE SEED: THE CARDS: each row of YtknkdbfgfcgkiaaGreatDoorRows.lean that lists a variable, with what it lists TIED to the program's text (the seventh form; the later family's looks); each row that meets fmt, with fmt's text TOLD by the authors' own Lean function (tested against real Go, not proved from fmt's source: count such statements apart). THE CARD IS WHAT COUNTS. Prove the row's statement (the work); the ties are given (YtknkdbfgfcgkiaaGreatDoorTie.lean); close each card by the builder's one call (the guide's Derived/Test/ToyasCard.lean, 'card_holds'). Laid BY PROGRAM, IN A SANDBOX (cutbox-door.mjs). By AI agents, Wed Nov 11 2026. No macro, syntax, notation, axiom, sorry.
-/
import Derived.Test.YtknkdbfgfcgkiaaGreatDoorRows
import GoSem.ClaimSeven
namespace Go.Proofs.YtknkdbfgfcgkiaaGreatDoor
namespace Rows

/-- THE TIED CARD OF 'laws.FnExactGatherPut'. -/
def fnExactGatherPutCard : Claim7 := { stood := { row := fnExactGatherPutRow, standIns := [], harness := (true, "947370bb2457b5b48c1ba2ad5f0974fe5a2d0cf7a9fae2718182d068633f3583"), looks := true }, kinds := [], alts := [], laidByText := true, laidKinds := [.handle], laidTests := true, laidLooks := .later }
def FnExactGatherPutCardSaid : Prop := Claim7.holds Tryz.pinned (.plain (OpenSpec.ofChange fnExactGatherPutSpec)) fnExactGatherPutCard

/-- THE SECOND FORM's CARD OF 'laws.FnExactGatherPut'. -/
def fnExactGatherPutUptoCard : Claim7 := { stood := { row := fnExactGatherPutUptoRow, standIns := [], harness := (true, "947370bb2457b5b48c1ba2ad5f0974fe5a2d0cf7a9fae2718182d068633f3583"), looks := true }, kinds := [], alts := [], laidByText := true, laidKinds := [.handle], laidTests := true, laidLooks := .later }
def FnExactGatherPutUptoCardSaid : Prop := Claim7.holds Tryz.pinned (.plain (OpenSpec.upto fnExactGatherPutSpec)) fnExactGatherPutUptoCard
end Rows
end Go.Proofs.YtknkdbfgfcgkiaaGreatDoor
