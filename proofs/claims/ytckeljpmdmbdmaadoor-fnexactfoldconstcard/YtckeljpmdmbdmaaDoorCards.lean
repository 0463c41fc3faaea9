/-
  DERIVED. GIVEN WITH THE SEED: THE CARDS: each row of YtckeljpmdmbdmaaDoorRows.lean that lists a variable, with what it lists TIED to the program's text (the seventh form; the later family's looks); each row that meets fmt, with fmt's text TOLD by the authors' own Lean function (tested against real Go, not proved from fmt's source: count such statements apart). THE CARD IS WHAT COUNTS. Prove the row's statement (the work); the ties are given (YtckeljpmdmbdmaaDoorTie.lean); close each card by the builder's one call (the guide's Derived/Test/ToyasCard.lean, 'card_holds'). Laid BY PROGRAM, IN A SANDBOX (cutbox-door.mjs). By AI agents, Wed Nov 11 2026. No macro, syntax, notation, axiom, sorry.
-/
import Derived.Test.YtckeljpmdmbdmaaDoorRows
import GoSem.ClaimSeven
namespace Go.Proofs.YtckeljpmdmbdmaaDoor
namespace Rows

/-- THE TIED CARD OF 'laws.FnExactFoldConst'. -/
def fnExactFoldConstCard : Claim7 := { stood := { row := fnExactFoldConstRow, standIns := [], harness := (true, "4dbae2d3ad5147f530af2bf14bde22e1169c73776f047be1354cca7b3524ef03"), looks := true }, kinds := [], alts := [], laidByText := true, laidKinds := [.data], laidTests := true, laidLooks := .later }
def FnExactFoldConstCardSaid : Prop := Claim7.holds Tryd.pinned (.plain (OpenSpec.ofChange fnExactFoldConstSpec)) fnExactFoldConstCard

/-- THE TIED CARD OF 'laws.FnExactFoldTree'. -/
def fnExactFoldTreeCard : Claim7 := { stood := { row := fnExactFoldTreeRow, standIns := [], harness := (true, "4dbae2d3ad5147f530af2bf14bde22e1169c73776f047be1354cca7b3524ef03"), looks := true }, kinds := [], alts := [], laidByText := true, laidKinds := [.data], laidTests := true, laidLooks := .later }
def FnExactFoldTreeCardSaid : Prop := Claim7.holds Tryd.pinned (.plain (OpenSpec.ofChange fnExactFoldTreeSpec)) fnExactFoldTreeCard

/-- THE TIED CARD OF 'laws.FnExactCodeMake'. -/
def fnExactCodeMakeCard : Claim7 := { stood := { row := fnExactCodeMakeRow, standIns := [], harness := (true, "4dbae2d3ad5147f530af2bf14bde22e1169c73776f047be1354cca7b3524ef03"), looks := true }, kinds := [], alts := [], laidByText := true, laidKinds := [.data], laidTests := true, laidLooks := .later }
def FnExactCodeMakeCardSaid : Prop := Claim7.holds Tryd.pinned (.plain (OpenSpec.ofChange fnExactCodeMakeSpec)) fnExactCodeMakeCard

/-- THE SECOND FORM's CARD OF 'laws.FnExactFoldConst'. -/
def fnExactFoldConstUptoCard : Claim7 := { stood := { row := fnExactFoldConstUptoRow, standIns := [], harness := (true, "4dbae2d3ad5147f530af2bf14bde22e1169c73776f047be1354cca7b3524ef03"), looks := true }, kinds := [], alts := [], laidByText := true, laidKinds := [.data], laidTests := true, laidLooks := .later }
def FnExactFoldConstUptoCardSaid : Prop := Claim7.holds Tryd.pinned (.plain (OpenSpec.upto fnExactFoldConstSpec)) fnExactFoldConstUptoCard

/-- THE SECOND FORM's CARD OF 'laws.FnExactFoldTree'. -/
def fnExactFoldTreeUptoCard : Claim7 := { stood := { row := fnExactFoldTreeUptoRow, standIns := [], harness := (true, "4dbae2d3ad5147f530af2bf14bde22e1169c73776f047be1354cca7b3524ef03"), looks := true }, kinds := [], alts := [], laidByText := true, laidKinds := [.data], laidTests := true, laidLooks := .later }
def FnExactFoldTreeUptoCardSaid : Prop := Claim7.holds Tryd.pinned (.plain (OpenSpec.upto fnExactFoldTreeSpec)) fnExactFoldTreeUptoCard

/-- THE SECOND FORM's CARD OF 'laws.FnExactCodeMake'. -/
def fnExactCodeMakeUptoCard : Claim7 := { stood := { row := fnExactCodeMakeUptoRow, standIns := [], harness := (true, "4dbae2d3ad5147f530af2bf14bde22e1169c73776f047be1354cca7b3524ef03"), looks := true }, kinds := [], alts := [], laidByText := true, laidKinds := [.data], laidTests := true, laidLooks := .later }
def FnExactCodeMakeUptoCardSaid : Prop := Claim7.holds Tryd.pinned (.plain (OpenSpec.upto fnExactCodeMakeSpec)) fnExactCodeMakeUptoCard
end Rows
end Go.Proofs.YtckeljpmdmbdmaaDoor
