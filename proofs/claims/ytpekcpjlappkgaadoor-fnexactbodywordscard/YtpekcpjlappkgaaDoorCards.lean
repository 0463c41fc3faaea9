/-
  DERIVED. GIVEN WITH THE SEED: THE CARDS: each row of YtpekcpjlappkgaaDoorRows.lean that lists a variable, with what it lists TIED to the program's text (the seventh form; the later family's looks); each row that meets fmt, with fmt's text TOLD by the authors' own Lean function (tested against real Go, not proved from fmt's source: count such statements apart). THE CARD IS WHAT COUNTS. Prove the row's statement (the work); the ties are given (YtpekcpjlappkgaaDoorTie.lean); close each card by the builder's one call (the guide's Derived/Test/ToyasCard.lean, 'card_holds'). Laid BY PROGRAM, IN A SANDBOX (cutbox-door.mjs). By AI agents, Wed Nov 11 2026. No macro, syntax, notation, axiom, sorry.
-/
import Derived.Test.YtpekcpjlappkgaaDoorRows
import GoSem.ClaimSeven
namespace Go.Proofs.YtpekcpjlappkgaaDoor
namespace Rows

/-- THE TIED CARD OF 'laws.FnExactBodyWords'. -/
def fnExactBodyWordsCard : Claim7 := { stood := { row := fnExactBodyWordsRow, standIns := [], harness := (true, "1a3677f101a4c601795664e8b31b1eab12470242ee5a1beb60884f4d1d3bc4df"), looks := true }, kinds := [], alts := [], laidByText := true, laidKinds := [.handle], laidTests := true, laidLooks := .later }
def FnExactBodyWordsCardSaid : Prop := Claim7.holds Tryd.pinned (.plain (OpenSpec.ofChange fnExactBodyWordsSpec)) fnExactBodyWordsCard

/-- THE SECOND FORM's CARD OF 'laws.FnExactBodyWords'. -/
def fnExactBodyWordsUptoCard : Claim7 := { stood := { row := fnExactBodyWordsUptoRow, standIns := [], harness := (true, "1a3677f101a4c601795664e8b31b1eab12470242ee5a1beb60884f4d1d3bc4df"), looks := true }, kinds := [], alts := [], laidByText := true, laidKinds := [.handle], laidTests := true, laidLooks := .later }
def FnExactBodyWordsUptoCardSaid : Prop := Claim7.holds Tryd.pinned (.plain (OpenSpec.upto fnExactBodyWordsSpec)) fnExactBodyWordsUptoCard
end Rows
end Go.Proofs.YtpekcpjlappkgaaDoor
