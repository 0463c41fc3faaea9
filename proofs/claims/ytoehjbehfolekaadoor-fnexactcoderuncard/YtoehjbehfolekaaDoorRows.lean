/-
  NARROWER THAN 'FOR EVERY INPUT', by the rows' own cells (each row's printed sentence says how): FnExactCodeRun: laid.
  DERIVED. THE GIVEN ROWS OF THIS SEAT. 1 by the template 'for every input the law returns true; each argument reads behind the call as it read before'; 0 by the template 'total and deterministic' (their statements: YtoehjbehfolekaaDoorTotals.lean).
  GIVEN WITH THE SEED: the statements are not yours to turn. If you find one false, say at which input.
  Laid BY PROGRAM, IN A SANDBOX (cutbox-rows.mjs): the forced cells as the released guide's own fill.sh prints them over the translation 285bd00034fbf508… (all of the seat's roots in one cut). By AI agents, Wed Nov 11 2026. No macro, syntax, notation, axiom, sorry.
-/
import Derived.Test.YtoehjbehfolekaaDoorChecked
import GoSem.Claim
import GoSem.ClaimJoined
import GoSem.ClaimMapViews
import Derived.JoinedTies
import Derived.KernelRfl
namespace Go.Proofs.YtoehjbehfolekaaDoor
/- THE CELL 'sum', in the pinned program and in every row, IS THE sha256 OF THE DUMP (.gsa) THAT YtoehjbehfolekaaDoorProg.lean LOADS. Nothing in Lean hashes anything: it is a label: what it is worth is what the hold of that sum in a sandbox is worth. -/
noncomputable def Tryd.pinned : Pinned := { name := "ytoehjbehfolekaadoor", sum := "285bd00034fbf5085f091ab25356d0bf976a7ee6a4451cef90f8dc31e1d27860", checked := Tryd.checked }
namespace Rows
def none {H : Type} : Left H := { results := [], args := [] }

/- WHAT THE LISTED PACKAGE-LEVEL VARIABLES READ AS WHEN THE CALL BEGINS. Each datum BY PROGRAM (the guide's laid-datum.mjs) off the statement by which the dump's own 'gosem.cut.vars' lays the variable. In a bare row this is a premise. The card (YtoehjbehfolekaaDoorCards.lean) ties it to the program's text. -/
def laid_loop_example_headrace_impl_shapes {H : Type} : DataW H := .agg [.agg [.lit (.int .i64 0), .lit (.int .i64 0), .lit (.string [])], .agg [.lit (.int .i64 0), .lit (.int .i64 7), .lit (.string [])], .agg [.lit (.int .i64 0), .lit (.int .i64 7), .lit (.string [])], .agg [.lit (.int .i64 1), .lit (.int .i64 6), .lit (.string [45])], .agg [.lit (.int .i64 1), .lit (.int .i64 6), .lit (.string [110, 111, 116])], .agg [.lit (.int .i64 2), .lit (.int .i64 5), .lit (.string [42])], .agg [.lit (.int .i64 2), .lit (.int .i64 5), .lit (.string [47])], .agg [.lit (.int .i64 2), .lit (.int .i64 5), .lit (.string [37])], .agg [.lit (.int .i64 2), .lit (.int .i64 4), .lit (.string [43])], .agg [.lit (.int .i64 2), .lit (.int .i64 4), .lit (.string [45])], .agg [.lit (.int .i64 2), .lit (.int .i64 3), .lit (.string [61])], .agg [.lit (.int .i64 2), .lit (.int .i64 3), .lit (.string [33, 61])], .agg [.lit (.int .i64 2), .lit (.int .i64 3), .lit (.string [60])], .agg [.lit (.int .i64 2), .lit (.int .i64 3), .lit (.string [60, 61])], .agg [.lit (.int .i64 2), .lit (.int .i64 3), .lit (.string [62])], .agg [.lit (.int .i64 2), .lit (.int .i64 3), .lit (.string [62, 61])], .agg [.lit (.int .i64 2), .lit (.int .i64 2), .lit (.string [97, 110, 100])], .agg [.lit (.int .i64 2), .lit (.int .i64 1), .lit (.string [111, 114])], .agg [.lit (.int .i64 2), .lit (.int .i64 7), .lit (.string [109, 105, 110])], .agg [.lit (.int .i64 2), .lit (.int .i64 7), .lit (.string [109, 97, 120])], .agg [.lit (.int .i64 1), .lit (.int .i64 7), .lit (.string [97, 98, 115])], .agg [.lit (.int .i64 3), .lit (.int .i64 0), .lit (.string [105, 102])], .agg [.lit (.int .i64 2), .lit (.int .i64 0), .lit (.string [108, 101, 116])], .agg [.lit (.int .i64 3), .lit (.int .i64 0), .lit (.string [114, 101, 112])]]
def laid_loop_example_headrace_impl_signWords {H : Type} : DataW H := .agg [.lit (.string []), .lit (.string []), .lit (.string []), .lit (.string [110, 101, 103]), .lit (.string [110, 111, 116]), .lit (.string [109, 117, 108]), .lit (.string [100, 105, 118]), .lit (.string [109, 111, 100]), .lit (.string [97, 100, 100]), .lit (.string [115, 117, 98]), .lit (.string [101, 113]), .lit (.string [110, 101]), .lit (.string [108, 116]), .lit (.string [108, 101]), .lit (.string [103, 116]), .lit (.string [103, 101]), .lit (.string []), .lit (.string []), .lit (.string [109, 105, 110]), .lit (.string [109, 97, 120]), .lit (.string [97, 98, 115])]

/-- 'laws.FnExactCodeRun': WHATEVER THE INPUT: true; the input reads as it did. -/
def fnExactCodeRunSpec : ChangeSpec := { name := "fnExactCodeRun", vars := ["loop.example/headrace/impl.signWords", "loop.example/headrace/impl.shapes"], fn := fun _ => fun
  | [d1, d2, g1, g2] => { results := [.lit (.bool true)], args := [d1, d2], vars := [g1, g2] }
  | _ => none }
def fnExactCodeRunRow : OpenClaim := { program := "ytoehjbehfolekaadoor", sum := "285bd00034fbf5085f091ab25356d0bf976a7ee6a4451cef90f8dc31e1d27860", func := "loop.example/headrace/laws.FnExactCodeRun", spec := "fnExactCodeRun", unfollowed := true, recurses := true, named := ["loop.example/headrace/impl.signWords", "loop.example/headrace/impl.shapes"], apart := false, laid := [("loop.example/headrace/impl.shapes", laid_loop_example_headrace_impl_shapes), ("loop.example/headrace/impl.signWords", laid_loop_example_headrace_impl_signWords)] }
def FnExactCodeRunSaid : Prop := fnExactCodeRunRow.holds Tryd.pinned (OpenSpec.ofChange fnExactCodeRunSpec)

/-- ITS FALSE NEIGHBOUR: 'it returns false'. Refute it at one input. -/
def fnExactCodeRunWrong : ChangeSpec := { name := "fnExactCodeRun", vars := ["loop.example/headrace/impl.signWords", "loop.example/headrace/impl.shapes"], fn := fun _ => fun
  | [d1, d2, g1, g2] => { results := [.lit (.bool false)], args := [d1, d2], vars := [g1, g2] }
  | _ => none }
def FnExactCodeRunWrongFalsely : Prop := fnExactCodeRunRow.holds Tryd.pinned (OpenSpec.ofChange fnExactCodeRunWrong)

/- THE SECOND FORM. 'bulk': how many values and letters a reading holds, each counted each time it is reached (what is shared counts as often as it is met; a slice's spare places count too). A statement '..UptoSaid' is the law's where the arguments, and the package variables that the reading takes, are together of bulk at most 1048576: NARROWER than '..Said'. Prove '..Said' where nothing that the law and all that it calls make is longer than what came in: it says more and counts as full. Else prove '..UptoSaid'. A law counts once. -/
mutual
def uptoBulk {H : Type} : DataW H → Nat
  | .lit (.string bytes) => bytes.length + 1
  | .lit _ => 1
  | .nil => 1
  | .ptr d => uptoBulk d + 1
  | .slice elems spare => uptoBulkAll elems + uptoBulkAll spare + 1
  | .agg parts => uptoBulkAll parts + 1
  | .iface _ d => uptoBulk d + 1
  | .map entries => uptoBulkEntries entries + 1
  | .held _ => 1
def uptoBulkAll {H : Type} : List (DataW H) → Nat
  | [] => 0
  | d :: r => uptoBulk d + uptoBulkAll r
def uptoBulkEntries {H : Type} : List (Lit × DataW H) → Nat
  | [] => 0
  | x :: r => uptoBulkEntry x + uptoBulkEntries r
def uptoBulkEntry {H : Type} : Lit × DataW H → Nat
  | (.string bytes, d) => bytes.length + uptoBulk d + 1
  | (_, d) => uptoBulk d + 1
 end
def uptoSmall : (H : Type) → List (DataW H) → Bool := fun _ ds => decide (uptoBulkAll ds ≤ 1048576)
def OpenSpec.upto (s : _root_.Go.ChangeSpec) : _root_.Go.OpenSpec := { _root_.Go.OpenSpec.ofChange s with cond := some uptoSmall }

/-- 'laws.FnExactCodeRun', WHERE WHAT IT READS IS OF BULK AT MOST 1048576: true; the input reads as it did. -/
def fnExactCodeRunUptoRow : OpenClaim := { program := "ytoehjbehfolekaadoor", sum := "285bd00034fbf5085f091ab25356d0bf976a7ee6a4451cef90f8dc31e1d27860", func := "loop.example/headrace/laws.FnExactCodeRun", spec := "fnExactCodeRun", unfollowed := true, recurses := true, named := ["loop.example/headrace/impl.signWords", "loop.example/headrace/impl.shapes"], apart := false, laid := [("loop.example/headrace/impl.shapes", laid_loop_example_headrace_impl_shapes), ("loop.example/headrace/impl.signWords", laid_loop_example_headrace_impl_signWords)], narrowed := true }
def FnExactCodeRunUptoSaid : Prop := fnExactCodeRunUptoRow.holds Tryd.pinned (OpenSpec.upto fnExactCodeRunSpec)

end Rows
end Go.Proofs.YtoehjbehfolekaaDoor
