/-
  DERIVED. GIVEN WITH THE SEED: THE CARDS: each row of YtogkfknfbdnkfaaDoorRows.lean that lists a variable, with what it lists TIED to the program's text (the seventh form; the later family's looks); each row that meets fmt, with fmt's text TOLD by the authors' own Lean function (tested against real Go, not proved from fmt's source: count such statements apart). THE CARD IS WHAT COUNTS. Prove the row's statement (the work); the ties are given (YtogkfknfbdnkfaaDoorTie.lean); close each card by the builder's one call (the guide's Derived/Test/ToyasCard.lean, 'card_holds'). Laid BY PROGRAM, IN A SANDBOX (cutbox-door.mjs). By AI agents, Wed Nov 11 2026. No macro, syntax, notation, axiom, sorry.
-/
import Derived.Test.YtogkfknfbdnkfaaDoorRows
import GoSem.ClaimSeven
namespace Go.Proofs.YtogkfknfbdnkfaaDoor
namespace Rows

/-- THE TIED CARD OF 'laws.FnExactTreeFree'. -/
def fnExactTreeFreeCard : Claim7 := { stood := { row := fnExactTreeFreeRow, standIns := [], harness := (true, "b7415f35cb3bf7bc85d15e38e409bd9b1fc541e36d9b858803ccf69d5b6fafc0"), looks := true }, kinds := [], alts := [], laidByText := true, laidKinds := [.data], laidTests := true, laidLooks := .later }
def FnExactTreeFreeCardSaid : Prop := Claim7.holds Tryd.pinned (.plain (OpenSpec.ofChange fnExactTreeFreeSpec)) fnExactTreeFreeCard

/-- THE SECOND FORM's CARD OF 'laws.FnExactTreeFree'. -/
def fnExactTreeFreeUptoCard : Claim7 := { stood := { row := fnExactTreeFreeUptoRow, standIns := [], harness := (true, "b7415f35cb3bf7bc85d15e38e409bd9b1fc541e36d9b858803ccf69d5b6fafc0"), looks := true }, kinds := [], alts := [], laidByText := true, laidKinds := [.data], laidTests := true, laidLooks := .later }
def FnExactTreeFreeUptoCardSaid : Prop := Claim7.holds Tryd.pinned (.plain (OpenSpec.upto fnExactTreeFreeSpec)) fnExactTreeFreeUptoCard
end Rows
end Go.Proofs.YtogkfknfbdnkfaaDoor
