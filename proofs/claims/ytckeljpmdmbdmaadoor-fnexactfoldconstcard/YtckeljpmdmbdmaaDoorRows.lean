/-
  NARROWER THAN 'FOR EVERY INPUT', by the rows' own cells (each row's printed sentence says how): FnExactFoldConst: laid · FnExactFoldTree: laid · FnExactCodeMake: laid.
  DERIVED. THE GIVEN ROWS OF THIS SEAT. 3 by the template 'for every input the law returns true; each argument reads behind the call as it read before'; 0 by the template 'total and deterministic' (their statements: YtckeljpmdmbdmaaDoorTotals.lean).
  GIVEN WITH THE SEED: the statements are not yours to turn. If you find one false, say at which input.
  Laid BY PROGRAM, IN A SANDBOX (cutbox-rows.mjs): the forced cells as the released guide's own fill.sh prints them over the translation 430f40e4008f9aa2… (all of the seat's roots in one cut). By AI agents, Wed Nov 11 2026. No macro, syntax, notation, axiom, sorry.
-/
import Derived.Test.YtckeljpmdmbdmaaDoorChecked
import GoSem.Claim
import GoSem.ClaimJoined
import GoSem.ClaimMapViews
import Derived.JoinedTies
import Derived.KernelRfl
namespace Go.Proofs.YtckeljpmdmbdmaaDoor
/- THE CELL 'sum', in the pinned program and in every row, IS THE sha256 OF THE DUMP (.gsa) THAT YtckeljpmdmbdmaaDoorProg.lean LOADS. Nothing in Lean hashes anything: it is a label: what it is worth is what the hold of that sum in a sandbox is worth. -/
noncomputable def Tryd.pinned : Pinned := { name := "ytckeljpmdmbdmaadoor", sum := "430f40e4008f9aa2347fc2f3d8efae5033840781435c5357a1683aebcdae7705", checked := Tryd.checked }
namespace Rows
def none {H : Type} : Left H := { results := [], args := [] }

/- WHAT THE LISTED PACKAGE-LEVEL VARIABLES READ AS WHEN THE CALL BEGINS. Each datum BY PROGRAM (the guide's laid-datum.mjs) off the statement by which the dump's own 'gosem.cut.vars' lays the variable. In a bare row this is a premise. The card (YtckeljpmdmbdmaaDoorCards.lean) ties it to the program's text. -/
def laid_loop_example_headrace_impl_shapes {H : Type} : DataW H := .agg [.agg [.lit (.int .i64 0), .lit (.int .i64 0), .lit (.string [])], .agg [.lit (.int .i64 0), .lit (.int .i64 7), .lit (.string [])], .agg [.lit (.int .i64 0), .lit (.int .i64 7), .lit (.string [])], .agg [.lit (.int .i64 1), .lit (.int .i64 6), .lit (.string [45])], .agg [.lit (.int .i64 1), .lit (.int .i64 6), .lit (.string [110, 111, 116])], .agg [.lit (.int .i64 2), .lit (.int .i64 5), .lit (.string [42])], .agg [.lit (.int .i64 2), .lit (.int .i64 5), .lit (.string [47])], .agg [.lit (.int .i64 2), .lit (.int .i64 5), .lit (.string [37])], .agg [.lit (.int .i64 2), .lit (.int .i64 4), .lit (.string [43])], .agg [.lit (.int .i64 2), .lit (.int .i64 4), .lit (.string [45])], .agg [.lit (.int .i64 2), .lit (.int .i64 3), .lit (.string [61])], .agg [.lit (.int .i64 2), .lit (.int .i64 3), .lit (.string [33, 61])], .agg [.lit (.int .i64 2), .lit (.int .i64 3), .lit (.string [60])], .agg [.lit (.int .i64 2), .lit (.int .i64 3), .lit (.string [60, 61])], .agg [.lit (.int .i64 2), .lit (.int .i64 3), .lit (.string [62])], .agg [.lit (.int .i64 2), .lit (.int .i64 3), .lit (.string [62, 61])], .agg [.lit (.int .i64 2), .lit (.int .i64 2), .lit (.string [97, 110, 100])], .agg [.lit (.int .i64 2), .lit (.int .i64 1), .lit (.string [111, 114])], .agg [.lit (.int .i64 2), .lit (.int .i64 7), .lit (.string [109, 105, 110])], .agg [.lit (.int .i64 2), .lit (.int .i64 7), .lit (.string [109, 97, 120])], .agg [.lit (.int .i64 1), .lit (.int .i64 7), .lit (.string [97, 98, 115])], .agg [.lit (.int .i64 3), .lit (.int .i64 0), .lit (.string [105, 102])], .agg [.lit (.int .i64 2), .lit (.int .i64 0), .lit (.string [108, 101, 116])], .agg [.lit (.int .i64 3), .lit (.int .i64 0), .lit (.string [114, 101, 112])]]

/-- 'laws.FnExactFoldConst': WHATEVER THE INPUT: true; the input reads as it did. -/
def fnExactFoldConstSpec : ChangeSpec := { name := "fnExactFoldConst", vars := ["loop.example/headrace/impl.shapes"], fn := fun _ => fun
  | [d, g1] => { results := [.lit (.bool true)], args := [d], vars := [g1] }
  | _ => none }
def fnExactFoldConstRow : OpenClaim := { program := "ytckeljpmdmbdmaadoor", sum := "430f40e4008f9aa2347fc2f3d8efae5033840781435c5357a1683aebcdae7705", func := "loop.example/headrace/laws.FnExactFoldConst", spec := "fnExactFoldConst", unfollowed := true, recurses := true, named := ["loop.example/headrace/impl.shapes"], apart := false, laid := [("loop.example/headrace/impl.shapes", laid_loop_example_headrace_impl_shapes)] }
def FnExactFoldConstSaid : Prop := fnExactFoldConstRow.holds Tryd.pinned (OpenSpec.ofChange fnExactFoldConstSpec)

/-- ITS FALSE NEIGHBOUR: 'it returns false'. Refute it at one input. -/
def fnExactFoldConstWrong : ChangeSpec := { name := "fnExactFoldConst", vars := ["loop.example/headrace/impl.shapes"], fn := fun _ => fun
  | [d, g1] => { results := [.lit (.bool false)], args := [d], vars := [g1] }
  | _ => none }
def FnExactFoldConstWrongFalsely : Prop := fnExactFoldConstRow.holds Tryd.pinned (OpenSpec.ofChange fnExactFoldConstWrong)

/-- 'laws.FnExactFoldTree': WHATEVER THE INPUT: true; the input reads as it did. -/
def fnExactFoldTreeSpec : ChangeSpec := { name := "fnExactFoldTree", vars := ["loop.example/headrace/impl.shapes"], fn := fun _ => fun
  | [d, g1] => { results := [.lit (.bool true)], args := [d], vars := [g1] }
  | _ => none }
def fnExactFoldTreeRow : OpenClaim := { program := "ytckeljpmdmbdmaadoor", sum := "430f40e4008f9aa2347fc2f3d8efae5033840781435c5357a1683aebcdae7705", func := "loop.example/headrace/laws.FnExactFoldTree", spec := "fnExactFoldTree", unfollowed := true, recurses := true, named := ["loop.example/headrace/impl.shapes"], apart := false, laid := [("loop.example/headrace/impl.shapes", laid_loop_example_headrace_impl_shapes)] }
def FnExactFoldTreeSaid : Prop := fnExactFoldTreeRow.holds Tryd.pinned (OpenSpec.ofChange fnExactFoldTreeSpec)

/-- ITS FALSE NEIGHBOUR: 'it returns false'. Refute it at one input. -/
def fnExactFoldTreeWrong : ChangeSpec := { name := "fnExactFoldTree", vars := ["loop.example/headrace/impl.shapes"], fn := fun _ => fun
  | [d, g1] => { results := [.lit (.bool false)], args := [d], vars := [g1] }
  | _ => none }
def FnExactFoldTreeWrongFalsely : Prop := fnExactFoldTreeRow.holds Tryd.pinned (OpenSpec.ofChange fnExactFoldTreeWrong)

/-- 'laws.FnExactCodeMake': WHATEVER THE INPUT: true; the input reads as it did. -/
def fnExactCodeMakeSpec : ChangeSpec := { name := "fnExactCodeMake", vars := ["loop.example/headrace/impl.shapes"], fn := fun _ => fun
  | [d, g1] => { results := [.lit (.bool true)], args := [d], vars := [g1] }
  | _ => none }
def fnExactCodeMakeRow : OpenClaim := { program := "ytckeljpmdmbdmaadoor", sum := "430f40e4008f9aa2347fc2f3d8efae5033840781435c5357a1683aebcdae7705", func := "loop.example/headrace/laws.FnExactCodeMake", spec := "fnExactCodeMake", unfollowed := true, recurses := true, named := ["loop.example/headrace/impl.shapes"], apart := false, laid := [("loop.example/headrace/impl.shapes", laid_loop_example_headrace_impl_shapes)] }
def FnExactCodeMakeSaid : Prop := fnExactCodeMakeRow.holds Tryd.pinned (OpenSpec.ofChange fnExactCodeMakeSpec)

/-- ITS FALSE NEIGHBOUR: 'it returns false'. Refute it at one input. -/
def fnExactCodeMakeWrong : ChangeSpec := { name := "fnExactCodeMake", vars := ["loop.example/headrace/impl.shapes"], fn := fun _ => fun
  | [d, g1] => { results := [.lit (.bool false)], args := [d], vars := [g1] }
  | _ => none }
def FnExactCodeMakeWrongFalsely : Prop := fnExactCodeMakeRow.holds Tryd.pinned (OpenSpec.ofChange fnExactCodeMakeWrong)

/- THE SECOND FORM. 'bulk': how many values and letters a reading holds, each counted each time it is reached (what is shared counts as often as it is met; a slice's spare places count too). A statement '..UptoSaid' is the law's where the arguments, and the package variables that the reading takes, are together of bulk at most 1048576: NARROWER than '..Said'. Prove '..Said' where nothing that the law and all that it calls make is longer than what came in: it says more and counts as full. Else prove '..UptoSaid'. A law counts once. -/
mutual
def uptoBulk {H : Type} : DataW H → Nat
  | .lit (.string bytes) => bytes.length + 1
  | .lit _ => 1
  | .nil => 1
  | .ptr d => uptoBulk d + 1
  | .slice elems spare => uptoBulkAll elems + uptoBulkAll spare + 1
  | .agg parts => uptoBulkAll parts + 1
  | .iface _ d => uptoBulk d + 1
  | .map entries => uptoBulkEntries entries + 1
  | .held _ => 1
def uptoBulkAll {H : Type} : List (DataW H) → Nat
  | [] => 0
  | d :: r => uptoBulk d + uptoBulkAll r
def uptoBulkEntries {H : Type} : List (Lit × DataW H) → Nat
  | [] => 0
  | x :: r => uptoBulkEntry x + uptoBulkEntries r
def uptoBulkEntry {H : Type} : Lit × DataW H → Nat
  | (.string bytes, d) => bytes.length + uptoBulk d + 1
  | (_, d) => uptoBulk d + 1
 end
def uptoSmall : (H : Type) → List (DataW H) → Bool := fun _ ds => decide (uptoBulkAll ds ≤ 1048576)
def OpenSpec.upto (s : _root_.Go.ChangeSpec) : _root_.Go.OpenSpec := { _root_.Go.OpenSpec.ofChange s with cond := some uptoSmall }

/-- 'laws.FnExactFoldConst', WHERE WHAT IT READS IS OF BULK AT MOST 1048576: true; the input reads as it did. -/
def fnExactFoldConstUptoRow : OpenClaim := { program := "ytckeljpmdmbdmaadoor", sum := "430f40e4008f9aa2347fc2f3d8efae5033840781435c5357a1683aebcdae7705", func := "loop.example/headrace/laws.FnExactFoldConst", spec := "fnExactFoldConst", unfollowed := true, recurses := true, named := ["loop.example/headrace/impl.shapes"], apart := false, laid := [("loop.example/headrace/impl.shapes", laid_loop_example_headrace_impl_shapes)], narrowed := true }
def FnExactFoldConstUptoSaid : Prop := fnExactFoldConstUptoRow.holds Tryd.pinned (OpenSpec.upto fnExactFoldConstSpec)

/-- 'laws.FnExactFoldTree', WHERE WHAT IT READS IS OF BULK AT MOST 1048576: true; the input reads as it did. -/
def fnExactFoldTreeUptoRow : OpenClaim := { program := "ytckeljpmdmbdmaadoor", sum := "430f40e4008f9aa2347fc2f3d8efae5033840781435c5357a1683aebcdae7705", func := "loop.example/headrace/laws.FnExactFoldTree", spec := "fnExactFoldTree", unfollowed := true, recurses := true, named := ["loop.example/headrace/impl.shapes"], apart := false, laid := [("loop.example/headrace/impl.shapes", laid_loop_example_headrace_impl_shapes)], narrowed := true }
def FnExactFoldTreeUptoSaid : Prop := fnExactFoldTreeUptoRow.holds Tryd.pinned (OpenSpec.upto fnExactFoldTreeSpec)

/-- 'laws.FnExactCodeMake', WHERE WHAT IT READS IS OF BULK AT MOST 1048576: true; the input reads as it did. -/
def fnExactCodeMakeUptoRow : OpenClaim := { program := "ytckeljpmdmbdmaadoor", sum := "430f40e4008f9aa2347fc2f3d8efae5033840781435c5357a1683aebcdae7705", func := "loop.example/headrace/laws.FnExactCodeMake", spec := "fnExactCodeMake", unfollowed := true, recurses := true, named := ["loop.example/headrace/impl.shapes"], apart := false, laid := [("loop.example/headrace/impl.shapes", laid_loop_example_headrace_impl_shapes)], narrowed := true }
def FnExactCodeMakeUptoSaid : Prop := fnExactCodeMakeUptoRow.holds Tryd.pinned (OpenSpec.upto fnExactCodeMakeSpec)

end Rows
end Go.Proofs.YtckeljpmdmbdmaaDoor
