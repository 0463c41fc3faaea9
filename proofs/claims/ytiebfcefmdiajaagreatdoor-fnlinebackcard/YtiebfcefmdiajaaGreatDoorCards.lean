/-
  DERIVED. GIVEN WITH THE SEED: THE CARDS: each row of YtiebfcefmdiajaaGreatDoorRows.lean that lists a variable, with what it lists TIED to the program's text (the seventh form; the later family's looks); each row that meets fmt, with fmt's text TOLD by the authors' own Lean function (tested against real Go, not proved from fmt's source: count such statements apart). THE CARD IS WHAT COUNTS. Prove the row's statement (the work); the ties are given (YtiebfcefmdiajaaGreatDoorTie.lean); close each card by the builder's one call (the guide's Derived/Test/ToyasCard.lean, 'card_holds'). Laid BY PROGRAM, IN A SANDBOX (cutbox-door.mjs). By AI agents, Wed Nov 11 2026. No macro, syntax, notation, axiom, sorry.
-/
import Derived.Test.YtiebfcefmdiajaaGreatDoorRows
import GoSem.ClaimSeven
namespace Go.Proofs.YtiebfcefmdiajaaGreatDoor
namespace Rows

/-- THE TIED CARD OF 'laws.FnExactSayFrom'. -/
def fnExactSayFromCard : Claim7 := { stood := { row := fnExactSayFromRow, standIns := [], harness := (true, "fb2ae830195c563d52216f3c2365d75f119aad7f579ab7bf466840fab6307510"), looks := true }, kinds := [], alts := [], laidByText := true, laidKinds := [.data, .data, .data, .sentinel, .sentinel], laidTests := true, laidLooks := .later }
def FnExactSayFromCardSaid : Prop := Claim7.holds Tryz.pinned (.plain (OpenSpec.ofChange fnExactSayFromSpec)) fnExactSayFromCard

/-- THE TIED CARD OF 'laws.FnLineBack'. -/
def fnLineBackCard : Claim7 := { stood := { row := fnLineBackRow, standIns := [], harness := (true, "fb2ae830195c563d52216f3c2365d75f119aad7f579ab7bf466840fab6307510"), looks := true }, kinds := [], alts := [], laidByText := true, laidKinds := [.data, .data, .data, .sentinel, .sentinel], laidTests := true, laidLooks := .later }
def FnLineBackCardSaid : Prop := Claim7.holds Tryz.pinned (.plain (OpenSpec.ofChange fnLineBackSpec)) fnLineBackCard

/-- THE TIED CARD OF 'laws.FnSayBoth'. -/
def fnSayBothCard : Claim7 := { stood := { row := fnSayBothRow, standIns := [], harness := (true, "fb2ae830195c563d52216f3c2365d75f119aad7f579ab7bf466840fab6307510"), looks := true }, kinds := [], alts := [], laidByText := true, laidKinds := [.data, .data, .data, .sentinel, .sentinel], laidTests := true, laidLooks := .later }
def FnSayBothCardSaid : Prop := Claim7.holds Tryz.pinned (.plain (OpenSpec.ofChange fnSayBothSpec)) fnSayBothCard

/-- THE SECOND FORM's CARD OF 'laws.FnExactSayFrom'. -/
def fnExactSayFromUptoCard : Claim7 := { stood := { row := fnExactSayFromUptoRow, standIns := [], harness := (true, "fb2ae830195c563d52216f3c2365d75f119aad7f579ab7bf466840fab6307510"), looks := true }, kinds := [], alts := [], laidByText := true, laidKinds := [.data, .data, .data, .sentinel, .sentinel], laidTests := true, laidLooks := .later }
def FnExactSayFromUptoCardSaid : Prop := Claim7.holds Tryz.pinned (.plain (OpenSpec.upto fnExactSayFromSpec)) fnExactSayFromUptoCard

/-- THE SECOND FORM's CARD OF 'laws.FnLineBack'. -/
def fnLineBackUptoCard : Claim7 := { stood := { row := fnLineBackUptoRow, standIns := [], harness := (true, "fb2ae830195c563d52216f3c2365d75f119aad7f579ab7bf466840fab6307510"), looks := true }, kinds := [], alts := [], laidByText := true, laidKinds := [.data, .data, .data, .sentinel, .sentinel], laidTests := true, laidLooks := .later }
def FnLineBackUptoCardSaid : Prop := Claim7.holds Tryz.pinned (.plain (OpenSpec.upto fnLineBackSpec)) fnLineBackUptoCard

/-- THE SECOND FORM's CARD OF 'laws.FnSayBoth'. -/
def fnSayBothUptoCard : Claim7 := { stood := { row := fnSayBothUptoRow, standIns := [], harness := (true, "fb2ae830195c563d52216f3c2365d75f119aad7f579ab7bf466840fab6307510"), looks := true }, kinds := [], alts := [], laidByText := true, laidKinds := [.data, .data, .data, .sentinel, .sentinel], laidTests := true, laidLooks := .later }
def FnSayBothUptoCardSaid : Prop := Claim7.holds Tryz.pinned (.plain (OpenSpec.upto fnSayBothSpec)) fnSayBothUptoCard
end Rows
end Go.Proofs.YtiebfcefmdiajaaGreatDoor
