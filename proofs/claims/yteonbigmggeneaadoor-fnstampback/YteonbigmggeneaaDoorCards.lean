/-
  DERIVED. GIVEN WITH THE SEED: THE CARDS: each row of YteonbigmggeneaaDoorRows.lean that lists a variable, with what it lists TIED to the program's text (the seventh form; the later family's looks); each row that meets fmt, with fmt's text TOLD by the authors' own Lean function (tested against real Go, not proved from fmt's source: count such statements apart). THE CARD IS WHAT COUNTS. Prove the row's statement (the work); the ties are given (YteonbigmggeneaaDoorTie.lean); close each card by the builder's one call (the guide's Derived/Test/ToyasCard.lean, 'card_holds'). Laid BY PROGRAM, IN A SANDBOX (cutbox-door.mjs). By AI agents, Wed Nov 11 2026. No macro, syntax, notation, axiom, sorry.
-/
import Derived.Test.YteonbigmggeneaaDoorRows
import GoSem.ClaimSeven
namespace Go.Proofs.YteonbigmggeneaaDoor
namespace Rows

/-- THE TIED CARD OF 'laws.FnStampBack'. -/
def fnStampBackCard : Claim7 := { stood := { row := fnStampBackRow, standIns := [], harness := (true, "cd3d4299efc7c36a411f639539cc8300d025861b7eecdfb7d9249d0a5ecbdb8a"), looks := true }, kinds := [], alts := [], laidByText := true, laidKinds := [.data, .data, .data, .sentinel, .sentinel], laidTests := true, laidLooks := .later }
def FnStampBackCardSaid : Prop := Claim7.holds Tryd.pinned (.plain (OpenSpec.ofChange fnStampBackSpec)) fnStampBackCard

/-- THE TIED CARD OF 'laws.FnExactStampRead'. -/
def fnExactStampReadCard : Claim7 := { stood := { row := fnExactStampReadRow, standIns := [], harness := (true, "cd3d4299efc7c36a411f639539cc8300d025861b7eecdfb7d9249d0a5ecbdb8a"), looks := true }, kinds := [], alts := [], laidByText := true, laidKinds := [.data, .data, .data, .sentinel, .sentinel], laidTests := true, laidLooks := .later }
def FnExactStampReadCardSaid : Prop := Claim7.holds Tryd.pinned (.plain (OpenSpec.ofChange fnExactStampReadSpec)) fnExactStampReadCard

/-- THE SECOND FORM's CARD OF 'laws.FnStampBack'. -/
def fnStampBackUptoCard : Claim7 := { stood := { row := fnStampBackUptoRow, standIns := [], harness := (true, "cd3d4299efc7c36a411f639539cc8300d025861b7eecdfb7d9249d0a5ecbdb8a"), looks := true }, kinds := [], alts := [], laidByText := true, laidKinds := [.data, .data, .data, .sentinel, .sentinel], laidTests := true, laidLooks := .later }
def FnStampBackUptoCardSaid : Prop := Claim7.holds Tryd.pinned (.plain (OpenSpec.upto fnStampBackSpec)) fnStampBackUptoCard

/-- THE SECOND FORM's CARD OF 'laws.FnExactStampRead'. -/
def fnExactStampReadUptoCard : Claim7 := { stood := { row := fnExactStampReadUptoRow, standIns := [], harness := (true, "cd3d4299efc7c36a411f639539cc8300d025861b7eecdfb7d9249d0a5ecbdb8a"), looks := true }, kinds := [], alts := [], laidByText := true, laidKinds := [.data, .data, .data, .sentinel, .sentinel], laidTests := true, laidLooks := .later }
def FnExactStampReadUptoCardSaid : Prop := Claim7.holds Tryd.pinned (.plain (OpenSpec.upto fnExactStampReadSpec)) fnExactStampReadUptoCard
end Rows
end Go.Proofs.YteonbigmggeneaaDoor
