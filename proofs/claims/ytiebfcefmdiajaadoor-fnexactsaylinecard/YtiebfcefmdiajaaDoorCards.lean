/-
  DERIVED. GIVEN WITH THE SEED: THE CARDS: each row of YtiebfcefmdiajaaDoorRows.lean that lists a variable, with what it lists TIED to the program's text (the seventh form; the later family's looks); each row that meets fmt, with fmt's text TOLD by the authors' own Lean function (tested against real Go, not proved from fmt's source: count such statements apart). THE CARD IS WHAT COUNTS. Prove the row's statement (the work); the ties are given (YtiebfcefmdiajaaDoorTie.lean); close each card by the builder's one call (the guide's Derived/Test/ToyasCard.lean, 'card_holds'). Laid BY PROGRAM, IN A SANDBOX (cutbox-door.mjs). By AI agents, Wed Nov 11 2026. No macro, syntax, notation, axiom, sorry.
-/
import Derived.Test.YtiebfcefmdiajaaDoorRows
import GoSem.ClaimSeven
namespace Go.Proofs.YtiebfcefmdiajaaDoor
namespace Rows

/-- THE TIED CARD OF 'laws.FnExactSayLine'. -/
def fnExactSayLineCard : Claim7 := { stood := { row := fnExactSayLineRow, standIns := [], harness := (true, "ba408ad4cb80ccf0e5adcfbe705a08e002d57c988df3822373217287f6303dbf"), looks := false }, kinds := [], alts := [], laidByText := true, laidKinds := [.data, .data, .data], laidTests := true, laidLooks := .later }
def FnExactSayLineCardSaid : Prop := Claim7.holds Tryd.pinned (.plain (OpenSpec.ofChange fnExactSayLineSpec)) fnExactSayLineCard

/-- THE SECOND FORM's CARD OF 'laws.FnExactSayLine'. -/
def fnExactSayLineUptoCard : Claim7 := { stood := { row := fnExactSayLineUptoRow, standIns := [], harness := (true, "ba408ad4cb80ccf0e5adcfbe705a08e002d57c988df3822373217287f6303dbf"), looks := false }, kinds := [], alts := [], laidByText := true, laidKinds := [.data, .data, .data], laidTests := true, laidLooks := .later }
def FnExactSayLineUptoCardSaid : Prop := Claim7.holds Tryd.pinned (.plain (OpenSpec.upto fnExactSayLineSpec)) fnExactSayLineUptoCard
end Rows
end Go.Proofs.YtiebfcefmdiajaaDoor
