/-
  DERIVED. GIVEN WITH THE SEED: THE CARDS: each row of YtmogeifejolbdaaDoorRows.lean that lists a variable, with what it lists TIED to the program's text (the seventh form; the later family's looks); each row that meets fmt, with fmt's text TOLD by the authors' own Lean function (tested against real Go, not proved from fmt's source: count such statements apart). THE CARD IS WHAT COUNTS. Prove the row's statement (the work); the ties are given (YtmogeifejolbdaaDoorTie.lean); close each card by the builder's one call (the guide's Derived/Test/ToyasCard.lean, 'card_holds'). Laid BY PROGRAM, IN A SANDBOX (cutbox-door.mjs). By AI agents, Wed Nov 11 2026. No macro, syntax, notation, axiom, sorry.
-/
import Derived.Test.YtmogeifejolbdaaDoorRows
import GoSem.ClaimSeven
namespace Go.Proofs.YtmogeifejolbdaaDoor
namespace Rows

/-- THE TIED CARD OF 'laws.FnExactCodeOk'. -/
def fnExactCodeOkCard : Claim7 := { stood := { row := fnExactCodeOkRow, standIns := [], harness := (true, "60909fa42ba0e0bb7b2d31b21f17a29e643d031626ad849794ec9ca748394a0e"), looks := false }, kinds := [], alts := [], laidByText := true, laidKinds := [.data, .data], laidTests := true, laidLooks := .later }
def FnExactCodeOkCardSaid : Prop := Claim7.holds Tryd.pinned (.plain (OpenSpec.ofChange fnExactCodeOkSpec)) fnExactCodeOkCard

/-- THE TIED CARD OF 'laws.FnExactCodeShow'. -/
def fnExactCodeShowCard : Claim7 := { stood := { row := fnExactCodeShowRow, standIns := [], harness := (true, "60909fa42ba0e0bb7b2d31b21f17a29e643d031626ad849794ec9ca748394a0e"), looks := false }, kinds := [], alts := [], laidByText := true, laidKinds := [.data, .data, .data, .data, .data, .data], laidTests := true, laidLooks := .later }
def FnExactCodeShowCardSaid : Prop := Claim7.holds Tryd.pinned (.plain (OpenSpec.ofChange fnExactCodeShowSpec)) fnExactCodeShowCard

/-- THE TIED CARD OF 'laws.FnCodeLines'. -/
def fnCodeLinesCard : Claim7 := { stood := { row := fnCodeLinesRow, standIns := [], harness := (true, "60909fa42ba0e0bb7b2d31b21f17a29e643d031626ad849794ec9ca748394a0e"), looks := false }, kinds := [], alts := [], laidByText := true, laidKinds := [.data, .data, .data, .data, .data, .data], laidTests := true, laidLooks := .later }
def FnCodeLinesCardSaid : Prop := Claim7.holds Tryd.pinned (.plain (OpenSpec.ofChange fnCodeLinesSpec)) fnCodeLinesCard

/-- THE SECOND FORM's CARD OF 'laws.FnExactCodeOk'. -/
def fnExactCodeOkUptoCard : Claim7 := { stood := { row := fnExactCodeOkUptoRow, standIns := [], harness := (true, "60909fa42ba0e0bb7b2d31b21f17a29e643d031626ad849794ec9ca748394a0e"), looks := false }, kinds := [], alts := [], laidByText := true, laidKinds := [.data, .data], laidTests := true, laidLooks := .later }
def FnExactCodeOkUptoCardSaid : Prop := Claim7.holds Tryd.pinned (.plain (OpenSpec.upto fnExactCodeOkSpec)) fnExactCodeOkUptoCard

/-- THE SECOND FORM's CARD OF 'laws.FnExactCodeShow'. -/
def fnExactCodeShowUptoCard : Claim7 := { stood := { row := fnExactCodeShowUptoRow, standIns := [], harness := (true, "60909fa42ba0e0bb7b2d31b21f17a29e643d031626ad849794ec9ca748394a0e"), looks := false }, kinds := [], alts := [], laidByText := true, laidKinds := [.data, .data, .data, .data, .data, .data], laidTests := true, laidLooks := .later }
def FnExactCodeShowUptoCardSaid : Prop := Claim7.holds Tryd.pinned (.plain (OpenSpec.upto fnExactCodeShowSpec)) fnExactCodeShowUptoCard

/-- THE SECOND FORM's CARD OF 'laws.FnCodeLines'. -/
def fnCodeLinesUptoCard : Claim7 := { stood := { row := fnCodeLinesUptoRow, standIns := [], harness := (true, "60909fa42ba0e0bb7b2d31b21f17a29e643d031626ad849794ec9ca748394a0e"), looks := false }, kinds := [], alts := [], laidByText := true, laidKinds := [.data, .data, .data, .data, .data, .data], laidTests := true, laidLooks := .later }
def FnCodeLinesUptoCardSaid : Prop := Claim7.holds Tryd.pinned (.plain (OpenSpec.upto fnCodeLinesSpec)) fnCodeLinesUptoCard
end Rows
end Go.Proofs.YtmogeifejolbdaaDoor
