/-
  No cell of these rows narrows 'for every input' (looked for: loops, veiled, ifaces, maps, wideKeys, modest, calm, conditions, laid).
  DERIVED. THE GIVEN ROWS OF THIS SEAT. 4 by the template 'for every input the law returns true; each argument reads behind the call as it read before'; 0 by the template 'total and deterministic' (their statements: YtlgmmibncoedgaaTotals.lean).
  GIVEN WITH THE SEED: the statements are not yours to turn. If you find one false, say at which input.
  Laid BY PROGRAM, IN A SANDBOX (cutbox-rows.mjs): the forced cells as the released guide's own fill.sh prints them over the translation a5d797c8c5a8b056… (all of the seat's roots in one cut). By AI agents, Wed Nov 11 2026. No macro, syntax, notation, axiom, sorry.
-/
import Derived.Test.YtlgmmibncoedgaaChecked
import GoSem.Claim
import GoSem.ClaimJoined
import GoSem.ClaimMapViews
import Derived.JoinedTies
import Derived.KernelRfl
namespace Go.Proofs.Ytlgmmibncoedgaa
/- THE CELL 'sum', in the pinned program and in every row, IS THE sha256 OF THE DUMP (.gsa) THAT YtlgmmibncoedgaaProg.lean LOADS. Nothing in Lean hashes anything: it is a label: what it is worth is what the hold of that sum in a sandbox is worth. -/
noncomputable def Try.pinned : Pinned := { name := "ytlgmmibncoedgaa", sum := "a5d797c8c5a8b05622b8f5facf06ef917d23381717bb25ae9f10937ae5e28b03", checked := Try.checked }
namespace Rows
def none {H : Type} : Left H := { results := [], args := [] }

/-- 'laws.FnLeatTop': WHATEVER THE INPUT: true; the input reads as it did. -/
def fnLeatTopSpec : ChangeSpec := { name := "fnLeatTop", fn := fun _ => fun
  | [d1, d2] => { results := [.lit (.bool true)], args := [d1, d2] }
  | _ => none }
def fnLeatTopRow : OpenClaim := { program := "ytlgmmibncoedgaa", sum := "a5d797c8c5a8b05622b8f5facf06ef917d23381717bb25ae9f10937ae5e28b03", func := "loop.example/headrace/laws.FnLeatTop", spec := "fnLeatTop", unfollowed := true, recurses := true, apart := false }
def FnLeatTopSaid : Prop := fnLeatTopRow.holds Try.pinned (OpenSpec.ofChange fnLeatTopSpec)

/-- ITS FALSE NEIGHBOUR: 'it returns false'. Refute it at one input. -/
def fnLeatTopWrong : ChangeSpec := { name := "fnLeatTop", fn := fun _ => fun
  | [d1, d2] => { results := [.lit (.bool false)], args := [d1, d2] }
  | _ => none }
def FnLeatTopWrongFalsely : Prop := fnLeatTopRow.holds Try.pinned (OpenSpec.ofChange fnLeatTopWrong)

/-- 'laws.FnSplitPieces': WHATEVER THE INPUT: true; the input reads as it did. -/
def fnSplitPiecesSpec : ChangeSpec := { name := "fnSplitPieces", fn := fun _ => fun
  | [d1, d2] => { results := [.lit (.bool true)], args := [d1, d2] }
  | _ => none }
def fnSplitPiecesRow : OpenClaim := { program := "ytlgmmibncoedgaa", sum := "a5d797c8c5a8b05622b8f5facf06ef917d23381717bb25ae9f10937ae5e28b03", func := "loop.example/headrace/laws.FnSplitPieces", spec := "fnSplitPieces", unfollowed := true, recurses := true, apart := false }
def FnSplitPiecesSaid : Prop := fnSplitPiecesRow.holds Try.pinned (OpenSpec.ofChange fnSplitPiecesSpec)

/-- ITS FALSE NEIGHBOUR: 'it returns false'. Refute it at one input. -/
def fnSplitPiecesWrong : ChangeSpec := { name := "fnSplitPieces", fn := fun _ => fun
  | [d1, d2] => { results := [.lit (.bool false)], args := [d1, d2] }
  | _ => none }
def FnSplitPiecesWrongFalsely : Prop := fnSplitPiecesRow.holds Try.pinned (OpenSpec.ofChange fnSplitPiecesWrong)

/-- 'laws.FnSplitFinds': WHATEVER THE INPUT: true; the input reads as it did. -/
def fnSplitFindsSpec : ChangeSpec := { name := "fnSplitFinds", fn := fun _ => fun
  | [d1, d2] => { results := [.lit (.bool true)], args := [d1, d2] }
  | _ => none }
def fnSplitFindsRow : OpenClaim := { program := "ytlgmmibncoedgaa", sum := "a5d797c8c5a8b05622b8f5facf06ef917d23381717bb25ae9f10937ae5e28b03", func := "loop.example/headrace/laws.FnSplitFinds", spec := "fnSplitFinds", unfollowed := true, recurses := true, apart := false }
def FnSplitFindsSaid : Prop := fnSplitFindsRow.holds Try.pinned (OpenSpec.ofChange fnSplitFindsSpec)

/-- ITS FALSE NEIGHBOUR: 'it returns false'. Refute it at one input. -/
def fnSplitFindsWrong : ChangeSpec := { name := "fnSplitFinds", fn := fun _ => fun
  | [d1, d2] => { results := [.lit (.bool false)], args := [d1, d2] }
  | _ => none }
def FnSplitFindsWrongFalsely : Prop := fnSplitFindsRow.holds Try.pinned (OpenSpec.ofChange fnSplitFindsWrong)

/-- 'laws.FnExactSplitSays': WHATEVER THE INPUT: true; the input reads as it did. -/
def fnExactSplitSaysSpec : ChangeSpec := { name := "fnExactSplitSays", fn := fun _ => fun
  | [d] => { results := [.lit (.bool true)], args := [d] }
  | _ => none }
def fnExactSplitSaysRow : OpenClaim := { program := "ytlgmmibncoedgaa", sum := "a5d797c8c5a8b05622b8f5facf06ef917d23381717bb25ae9f10937ae5e28b03", func := "loop.example/headrace/laws.FnExactSplitSays", spec := "fnExactSplitSays", unfollowed := true, recurses := true, apart := false }
def FnExactSplitSaysSaid : Prop := fnExactSplitSaysRow.holds Try.pinned (OpenSpec.ofChange fnExactSplitSaysSpec)

/-- ITS FALSE NEIGHBOUR: 'it returns false'. Refute it at one input. -/
def fnExactSplitSaysWrong : ChangeSpec := { name := "fnExactSplitSays", fn := fun _ => fun
  | [d] => { results := [.lit (.bool false)], args := [d] }
  | _ => none }
def FnExactSplitSaysWrongFalsely : Prop := fnExactSplitSaysRow.holds Try.pinned (OpenSpec.ofChange fnExactSplitSaysWrong)

/- THE SECOND FORM. 'bulk': how many values and letters a reading holds, each counted each time it is reached (what is shared counts as often as it is met; a slice's spare places count too). A statement '..UptoSaid' is the law's where the arguments, and the package variables that the reading takes, are together of bulk at most 1048576: NARROWER than '..Said'. Prove '..Said' where nothing that the law and all that it calls make is longer than what came in: it says more and counts as full. Else prove '..UptoSaid'. A law counts once. -/
mutual
def uptoBulk {H : Type} : DataW H → Nat
  | .lit (.string bytes) => bytes.length + 1
  | .lit _ => 1
  | .nil => 1
  | .ptr d => uptoBulk d + 1
  | .slice elems spare => uptoBulkAll elems + uptoBulkAll spare + 1
  | .agg parts => uptoBulkAll parts + 1
  | .iface _ d => uptoBulk d + 1
  | .map entries => uptoBulkEntries entries + 1
  | .held _ => 1
def uptoBulkAll {H : Type} : List (DataW H) → Nat
  | [] => 0
  | d :: r => uptoBulk d + uptoBulkAll r
def uptoBulkEntries {H : Type} : List (Lit × DataW H) → Nat
  | [] => 0
  | x :: r => uptoBulkEntry x + uptoBulkEntries r
def uptoBulkEntry {H : Type} : Lit × DataW H → Nat
  | (.string bytes, d) => bytes.length + uptoBulk d + 1
  | (_, d) => uptoBulk d + 1
 end
def uptoSmall : (H : Type) → List (DataW H) → Bool := fun _ ds => decide (uptoBulkAll ds ≤ 1048576)
def OpenSpec.upto (s : _root_.Go.ChangeSpec) : _root_.Go.OpenSpec := { _root_.Go.OpenSpec.ofChange s with cond := some uptoSmall }

/-- 'laws.FnLeatTop', WHERE WHAT IT READS IS OF BULK AT MOST 1048576: true; the input reads as it did. -/
def fnLeatTopUptoRow : OpenClaim := { program := "ytlgmmibncoedgaa", sum := "a5d797c8c5a8b05622b8f5facf06ef917d23381717bb25ae9f10937ae5e28b03", func := "loop.example/headrace/laws.FnLeatTop", spec := "fnLeatTop", unfollowed := true, recurses := true, apart := false, narrowed := true }
def FnLeatTopUptoSaid : Prop := fnLeatTopUptoRow.holds Try.pinned (OpenSpec.upto fnLeatTopSpec)

/-- 'laws.FnSplitPieces', WHERE WHAT IT READS IS OF BULK AT MOST 1048576: true; the input reads as it did. -/
def fnSplitPiecesUptoRow : OpenClaim := { program := "ytlgmmibncoedgaa", sum := "a5d797c8c5a8b05622b8f5facf06ef917d23381717bb25ae9f10937ae5e28b03", func := "loop.example/headrace/laws.FnSplitPieces", spec := "fnSplitPieces", unfollowed := true, recurses := true, apart := false, narrowed := true }
def FnSplitPiecesUptoSaid : Prop := fnSplitPiecesUptoRow.holds Try.pinned (OpenSpec.upto fnSplitPiecesSpec)

/-- 'laws.FnSplitFinds', WHERE WHAT IT READS IS OF BULK AT MOST 1048576: true; the input reads as it did. -/
def fnSplitFindsUptoRow : OpenClaim := { program := "ytlgmmibncoedgaa", sum := "a5d797c8c5a8b05622b8f5facf06ef917d23381717bb25ae9f10937ae5e28b03", func := "loop.example/headrace/laws.FnSplitFinds", spec := "fnSplitFinds", unfollowed := true, recurses := true, apart := false, narrowed := true }
def FnSplitFindsUptoSaid : Prop := fnSplitFindsUptoRow.holds Try.pinned (OpenSpec.upto fnSplitFindsSpec)

/-- 'laws.FnExactSplitSays', WHERE WHAT IT READS IS OF BULK AT MOST 1048576: true; the input reads as it did. -/
def fnExactSplitSaysUptoRow : OpenClaim := { program := "ytlgmmibncoedgaa", sum := "a5d797c8c5a8b05622b8f5facf06ef917d23381717bb25ae9f10937ae5e28b03", func := "loop.example/headrace/laws.FnExactSplitSays", spec := "fnExactSplitSays", unfollowed := true, recurses := true, apart := false, narrowed := true }
def FnExactSplitSaysUptoSaid : Prop := fnExactSplitSaysUptoRow.holds Try.pinned (OpenSpec.upto fnExactSplitSaysSpec)

end Rows
end Go.Proofs.Ytlgmmibncoedgaa
