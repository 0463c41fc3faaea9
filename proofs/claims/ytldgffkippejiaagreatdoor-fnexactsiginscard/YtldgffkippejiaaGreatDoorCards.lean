/-
  DERIVED. GIVEN WITH THE SEED: THE CARDS: each row of YtldgffkippejiaaGreatDoorRows.lean that lists a variable, with what it lists TIED to the program's text (the seventh form; the later family's looks); each row that meets fmt, with fmt's text TOLD by the authors' own Lean function (tested against real Go, not proved from fmt's source: count such statements apart). THE CARD IS WHAT COUNTS. Prove the row's statement (the work); the ties are given (YtldgffkippejiaaGreatDoorTie.lean); close each card by the builder's one call (the guide's Derived/Test/ToyasCard.lean, 'card_holds'). Laid BY PROGRAM, IN A SANDBOX (cutbox-door.mjs). By AI agents, Wed Nov 11 2026. No macro, syntax, notation, axiom, sorry.
-/
import Derived.Test.YtldgffkippejiaaGreatDoorRows
import GoSem.ClaimSeven
namespace Go.Proofs.YtldgffkippejiaaGreatDoor
namespace Rows

/-- THE TIED CARD OF 'laws.FnExactSigIns'. -/
def fnExactSigInsCard : Claim7 := { stood := { row := fnExactSigInsRow, standIns := [], harness := (true, "d8011f09319a562d9fc664888252b95383520f607e8392947bcb5416019afa02"), looks := true }, kinds := [], alts := [], laidByText := true, laidKinds := [.data, .data, .data, .handle, .sentinel, .sentinel, .data], laidTests := true, laidLooks := .later }
def FnExactSigInsCardSaid : Prop := Claim7.holds Tryz.pinned (.plain (OpenSpec.ofChange fnExactSigInsSpec)) fnExactSigInsCard

/-- THE TIED CARD OF 'laws.FnExactSigOk'. -/
def fnExactSigOkCard : Claim7 := { stood := { row := fnExactSigOkRow, standIns := [], harness := (true, "d8011f09319a562d9fc664888252b95383520f607e8392947bcb5416019afa02"), looks := true }, kinds := [], alts := [], laidByText := true, laidKinds := [.data, .data, .data, .handle, .sentinel, .sentinel, .data], laidTests := true, laidLooks := .later }
def FnExactSigOkCardSaid : Prop := Claim7.holds Tryz.pinned (.plain (OpenSpec.ofChange fnExactSigOkSpec)) fnExactSigOkCard

/-- THE SECOND FORM's CARD OF 'laws.FnExactSigIns'. -/
def fnExactSigInsUptoCard : Claim7 := { stood := { row := fnExactSigInsUptoRow, standIns := [], harness := (true, "d8011f09319a562d9fc664888252b95383520f607e8392947bcb5416019afa02"), looks := true }, kinds := [], alts := [], laidByText := true, laidKinds := [.data, .data, .data, .handle, .sentinel, .sentinel, .data], laidTests := true, laidLooks := .later }
def FnExactSigInsUptoCardSaid : Prop := Claim7.holds Tryz.pinned (.plain (OpenSpec.upto fnExactSigInsSpec)) fnExactSigInsUptoCard

/-- THE SECOND FORM's CARD OF 'laws.FnExactSigOk'. -/
def fnExactSigOkUptoCard : Claim7 := { stood := { row := fnExactSigOkUptoRow, standIns := [], harness := (true, "d8011f09319a562d9fc664888252b95383520f607e8392947bcb5416019afa02"), looks := true }, kinds := [], alts := [], laidByText := true, laidKinds := [.data, .data, .data, .handle, .sentinel, .sentinel, .data], laidTests := true, laidLooks := .later }
def FnExactSigOkUptoCardSaid : Prop := Claim7.holds Tryz.pinned (.plain (OpenSpec.upto fnExactSigOkSpec)) fnExactSigOkUptoCard
end Rows
end Go.Proofs.YtldgffkippejiaaGreatDoor
