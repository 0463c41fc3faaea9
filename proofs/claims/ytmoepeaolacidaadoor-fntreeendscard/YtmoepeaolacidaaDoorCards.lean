/-
  DERIVED. GIVEN WITH THE SEED: THE CARDS: each row of YtmoepeaolacidaaDoorRows.lean that lists a variable, with what it lists TIED to the program's text (the seventh form; the later family's looks); each row that meets fmt, with fmt's text TOLD by the authors' own Lean function (tested against real Go, not proved from fmt's source: count such statements apart). THE CARD IS WHAT COUNTS. Prove the row's statement (the work); the ties are given (YtmoepeaolacidaaDoorTie.lean); close each card by the builder's one call (the guide's Derived/Test/ToyasCard.lean, 'card_holds'). Laid BY PROGRAM, IN A SANDBOX (cutbox-door.mjs). By AI agents, Wed Nov 11 2026. No macro, syntax, notation, axiom, sorry.
-/
import Derived.Test.YtmoepeaolacidaaDoorRows
import GoSem.ClaimSeven
namespace Go.Proofs.YtmoepeaolacidaaDoor
namespace Rows

/-- THE TIED CARD OF 'laws.FnTreeEnds'. -/
def fnTreeEndsCard : Claim7 := { stood := { row := fnTreeEndsRow, standIns := [], harness := (true, "71ece8cc7bcb06368a2898c580354f8e64acd2c5fd0cc55bdb1f524272ffc3e0"), looks := false }, kinds := [], alts := [], laidByText := true, laidKinds := [.data], laidTests := true, laidLooks := .later }
def FnTreeEndsCardSaid : Prop := Claim7.holds Tryd.pinned (.plain (OpenSpec.ofChange fnTreeEndsSpec)) fnTreeEndsCard

/-- THE TIED CARD OF 'laws.FnExactTreeOk'. -/
def fnExactTreeOkCard : Claim7 := { stood := { row := fnExactTreeOkRow, standIns := [], harness := (true, "71ece8cc7bcb06368a2898c580354f8e64acd2c5fd0cc55bdb1f524272ffc3e0"), looks := false }, kinds := [], alts := [], laidByText := true, laidKinds := [.data], laidTests := true, laidLooks := .later }
def FnExactTreeOkCardSaid : Prop := Claim7.holds Tryd.pinned (.plain (OpenSpec.ofChange fnExactTreeOkSpec)) fnExactTreeOkCard

/-- THE TIED CARD OF 'laws.FnExactTreeDeep'. -/
def fnExactTreeDeepCard : Claim7 := { stood := { row := fnExactTreeDeepRow, standIns := [], harness := (true, "71ece8cc7bcb06368a2898c580354f8e64acd2c5fd0cc55bdb1f524272ffc3e0"), looks := false }, kinds := [], alts := [], laidByText := true, laidKinds := [.data], laidTests := true, laidLooks := .later }
def FnExactTreeDeepCardSaid : Prop := Claim7.holds Tryd.pinned (.plain (OpenSpec.ofChange fnExactTreeDeepSpec)) fnExactTreeDeepCard

/-- THE SECOND FORM's CARD OF 'laws.FnTreeEnds'. -/
def fnTreeEndsUptoCard : Claim7 := { stood := { row := fnTreeEndsUptoRow, standIns := [], harness := (true, "71ece8cc7bcb06368a2898c580354f8e64acd2c5fd0cc55bdb1f524272ffc3e0"), looks := false }, kinds := [], alts := [], laidByText := true, laidKinds := [.data], laidTests := true, laidLooks := .later }
def FnTreeEndsUptoCardSaid : Prop := Claim7.holds Tryd.pinned (.plain (OpenSpec.upto fnTreeEndsSpec)) fnTreeEndsUptoCard

/-- THE SECOND FORM's CARD OF 'laws.FnExactTreeOk'. -/
def fnExactTreeOkUptoCard : Claim7 := { stood := { row := fnExactTreeOkUptoRow, standIns := [], harness := (true, "71ece8cc7bcb06368a2898c580354f8e64acd2c5fd0cc55bdb1f524272ffc3e0"), looks := false }, kinds := [], alts := [], laidByText := true, laidKinds := [.data], laidTests := true, laidLooks := .later }
def FnExactTreeOkUptoCardSaid : Prop := Claim7.holds Tryd.pinned (.plain (OpenSpec.upto fnExactTreeOkSpec)) fnExactTreeOkUptoCard

/-- THE SECOND FORM's CARD OF 'laws.FnExactTreeDeep'. -/
def fnExactTreeDeepUptoCard : Claim7 := { stood := { row := fnExactTreeDeepUptoRow, standIns := [], harness := (true, "71ece8cc7bcb06368a2898c580354f8e64acd2c5fd0cc55bdb1f524272ffc3e0"), looks := false }, kinds := [], alts := [], laidByText := true, laidKinds := [.data], laidTests := true, laidLooks := .later }
def FnExactTreeDeepUptoCardSaid : Prop := Claim7.holds Tryd.pinned (.plain (OpenSpec.upto fnExactTreeDeepSpec)) fnExactTreeDeepUptoCard
end Rows
end Go.Proofs.YtmoepeaolacidaaDoor
