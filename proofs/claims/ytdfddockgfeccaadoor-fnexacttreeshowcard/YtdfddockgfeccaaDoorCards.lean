/-
  DERIVED. GIVEN WITH THE SEED: THE CARDS: each row of YtdfddockgfeccaaDoorRows.lean that lists a variable, with what it lists TIED to the program's text (the seventh form; the later family's looks); each row that meets fmt, with fmt's text TOLD by the authors' own Lean function (tested against real Go, not proved from fmt's source: count such statements apart). THE CARD IS WHAT COUNTS. Prove the row's statement (the work); the ties are given (YtdfddockgfeccaaDoorTie.lean); close each card by the builder's one call (the guide's Derived/Test/ToyasCard.lean, 'card_holds'). Laid BY PROGRAM, IN A SANDBOX (cutbox-door.mjs). By AI agents, Wed Nov 11 2026. No macro, syntax, notation, axiom, sorry.
-/
import Derived.Test.YtdfddockgfeccaaDoorRows
import GoSem.ClaimSeven
namespace Go.Proofs.YtdfddockgfeccaaDoor
namespace Rows

/-- THE TIED CARD OF 'laws.FnExactTreeShow'. -/
def fnExactTreeShowCard : Claim7 := { stood := { row := fnExactTreeShowRow, standIns := [], harness := (true, "fbddd88f0030fe67ac4cb5f02ffe87f49e9991e90d46502e1ab43be37bc6956f"), looks := true }, kinds := [], alts := [], laidByText := true, laidKinds := [.data, .data, .data, .data], laidTests := true, laidLooks := .later }
def FnExactTreeShowCardSaid : Prop := Claim7.holds Tryd.pinned (.plain (OpenSpec.ofChange fnExactTreeShowSpec)) fnExactTreeShowCard

/-- THE TIED CARD OF 'laws.FnExactTreeFree'. -/
def fnExactTreeFreeCard : Claim7 := { stood := { row := fnExactTreeFreeRow, standIns := [], harness := (true, "fbddd88f0030fe67ac4cb5f02ffe87f49e9991e90d46502e1ab43be37bc6956f"), looks := true }, kinds := [], alts := [], laidByText := true, laidKinds := [.data], laidTests := true, laidLooks := .later }
def FnExactTreeFreeCardSaid : Prop := Claim7.holds Tryd.pinned (.plain (OpenSpec.ofChange fnExactTreeFreeSpec)) fnExactTreeFreeCard

/-- THE SECOND FORM's CARD OF 'laws.FnExactTreeShow'. -/
def fnExactTreeShowUptoCard : Claim7 := { stood := { row := fnExactTreeShowUptoRow, standIns := [], harness := (true, "fbddd88f0030fe67ac4cb5f02ffe87f49e9991e90d46502e1ab43be37bc6956f"), looks := true }, kinds := [], alts := [], laidByText := true, laidKinds := [.data, .data, .data, .data], laidTests := true, laidLooks := .later }
def FnExactTreeShowUptoCardSaid : Prop := Claim7.holds Tryd.pinned (.plain (OpenSpec.upto fnExactTreeShowSpec)) fnExactTreeShowUptoCard

/-- THE SECOND FORM's CARD OF 'laws.FnExactTreeFree'. -/
def fnExactTreeFreeUptoCard : Claim7 := { stood := { row := fnExactTreeFreeUptoRow, standIns := [], harness := (true, "fbddd88f0030fe67ac4cb5f02ffe87f49e9991e90d46502e1ab43be37bc6956f"), looks := true }, kinds := [], alts := [], laidByText := true, laidKinds := [.data], laidTests := true, laidLooks := .later }
def FnExactTreeFreeUptoCardSaid : Prop := Claim7.holds Tryd.pinned (.plain (OpenSpec.upto fnExactTreeFreeSpec)) fnExactTreeFreeUptoCard
end Rows
end Go.Proofs.YtdfddockgfeccaaDoor
