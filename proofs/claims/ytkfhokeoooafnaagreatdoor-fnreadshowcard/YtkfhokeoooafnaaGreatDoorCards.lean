/-
  DERIVED. GIVEN WITH THE SEED: THE CARDS: each row of YtkfhokeoooafnaaGreatDoorRows.lean that lists a variable, with what it lists TIED to the program's text (the seventh form; the later family's looks); each row that meets fmt, with fmt's text TOLD by the authors' own Lean function (tested against real Go, not proved from fmt's source: count such statements apart). THE CARD IS WHAT COUNTS. Prove the row's statement (the work); the ties are given (YtkfhokeoooafnaaGreatDoorTie.lean); close each card by the builder's one call (the guide's Derived/Test/ToyasCard.lean, 'card_holds'). Laid BY PROGRAM, IN A SANDBOX (cutbox-door.mjs). By AI agents, Wed Nov 11 2026. No macro, syntax, notation, axiom, sorry.
-/
import Derived.Test.YtkfhokeoooafnaaGreatDoorRows
import GoSem.ClaimSeven
namespace Go.Proofs.YtkfhokeoooafnaaGreatDoor
namespace Rows

/-- THE TIED CARD OF 'laws.FnTextBack'. -/
def fnTextBackCard : Claim7 := { stood := { row := fnTextBackRow, standIns := [], harness := (true, "b4d5ee104ce9a3008aeb6b0496f2329735e28cca849b9c7a1fdd37fea21d50a6"), looks := true }, kinds := [], alts := [], laidByText := true, laidKinds := [.data, .data, .data, .handle, .sentinel, .sentinel, .data], laidTests := true, laidLooks := .later }
def FnTextBackCardSaid : Prop := Claim7.holds Tryz.pinned (.plain (OpenSpec.ofChange fnTextBackSpec)) fnTextBackCard

/-- THE TIED CARD OF 'laws.FnReadShow'. -/
def fnReadShowCard : Claim7 := { stood := { row := fnReadShowRow, standIns := [], harness := (true, "b4d5ee104ce9a3008aeb6b0496f2329735e28cca849b9c7a1fdd37fea21d50a6"), looks := true }, kinds := [], alts := [], laidByText := true, laidKinds := [.data, .data, .data, .handle, .sentinel, .sentinel, .data], laidTests := true, laidLooks := .later }
def FnReadShowCardSaid : Prop := Claim7.holds Tryz.pinned (.plain (OpenSpec.ofChange fnReadShowSpec)) fnReadShowCard

/-- THE SECOND FORM's CARD OF 'laws.FnTextBack'. -/
def fnTextBackUptoCard : Claim7 := { stood := { row := fnTextBackUptoRow, standIns := [], harness := (true, "b4d5ee104ce9a3008aeb6b0496f2329735e28cca849b9c7a1fdd37fea21d50a6"), looks := true }, kinds := [], alts := [], laidByText := true, laidKinds := [.data, .data, .data, .handle, .sentinel, .sentinel, .data], laidTests := true, laidLooks := .later }
def FnTextBackUptoCardSaid : Prop := Claim7.holds Tryz.pinned (.plain (OpenSpec.upto fnTextBackSpec)) fnTextBackUptoCard

/-- THE SECOND FORM's CARD OF 'laws.FnReadShow'. -/
def fnReadShowUptoCard : Claim7 := { stood := { row := fnReadShowUptoRow, standIns := [], harness := (true, "b4d5ee104ce9a3008aeb6b0496f2329735e28cca849b9c7a1fdd37fea21d50a6"), looks := true }, kinds := [], alts := [], laidByText := true, laidKinds := [.data, .data, .data, .handle, .sentinel, .sentinel, .data], laidTests := true, laidLooks := .later }
def FnReadShowUptoCardSaid : Prop := Claim7.holds Tryz.pinned (.plain (OpenSpec.upto fnReadShowSpec)) fnReadShowUptoCard
end Rows
end Go.Proofs.YtkfhokeoooafnaaGreatDoor
