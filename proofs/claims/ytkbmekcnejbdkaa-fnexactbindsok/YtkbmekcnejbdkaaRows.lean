/-
  No cell of these rows narrows 'for every input' (looked for: loops, veiled, ifaces, maps, wideKeys, modest, calm, conditions, laid).
  DERIVED. THE GIVEN ROWS OF THIS SEAT. 3 by the template 'for every input the law returns true; each argument reads behind the call as it read before'; 0 by the template 'total and deterministic' (their statements: YtkbmekcnejbdkaaTotals.lean).
  GIVEN WITH THE SEED: the statements are not yours to turn. If you find one false, say at which input.
  Laid BY PROGRAM, IN A SANDBOX (cutbox-rows.mjs): the forced cells as the released guide's own fill.sh prints them over the translation 7448fd68e2cdfb67… (all of the seat's roots in one cut). By AI agents, Wed Nov 11 2026. No macro, syntax, notation, axiom, sorry.
-/
import Derived.Test.YtkbmekcnejbdkaaChecked
import GoSem.Claim
import GoSem.ClaimJoined
import GoSem.ClaimMapViews
import Derived.JoinedTies
import Derived.KernelRfl
namespace Go.Proofs.Ytkbmekcnejbdkaa
/- THE CELL 'sum', in the pinned program and in every row, IS THE sha256 OF THE DUMP (.gsa) THAT YtkbmekcnejbdkaaProg.lean LOADS. Nothing in Lean hashes anything: it is a label: what it is worth is what the hold of that sum in a sandbox is worth. -/
noncomputable def Try.pinned : Pinned := { name := "ytkbmekcnejbdkaa", sum := "7448fd68e2cdfb67432497f6bf75f60ae2ef07299acc6582cc119ebba87bd673", checked := Try.checked }
namespace Rows
def none {H : Type} : Left H := { results := [], args := [] }

/-- 'laws.FnOps': WHATEVER THE INPUT: true; the input reads as it did. -/
def fnOpsSpec : ChangeSpec := { name := "fnOps", fn := fun _ => fun
  | [d] => { results := [.lit (.bool true)], args := [d] }
  | _ => none }
def fnOpsRow : OpenClaim := { program := "ytkbmekcnejbdkaa", sum := "7448fd68e2cdfb67432497f6bf75f60ae2ef07299acc6582cc119ebba87bd673", func := "loop.example/headrace/laws.FnOps", spec := "fnOps", unfollowed := true, recurses := true, apart := false }
def FnOpsSaid : Prop := fnOpsRow.holds Try.pinned (OpenSpec.ofChange fnOpsSpec)

/-- ITS FALSE NEIGHBOUR: 'it returns false'. Refute it at one input. -/
def fnOpsWrong : ChangeSpec := { name := "fnOps", fn := fun _ => fun
  | [d] => { results := [.lit (.bool false)], args := [d] }
  | _ => none }
def FnOpsWrongFalsely : Prop := fnOpsRow.holds Try.pinned (OpenSpec.ofChange fnOpsWrong)

/-- 'laws.FnExactBindsOk': WHATEVER THE INPUT: true; the input reads as it did. -/
def fnExactBindsOkSpec : ChangeSpec := { name := "fnExactBindsOk", fn := fun _ => fun
  | [d] => { results := [.lit (.bool true)], args := [d] }
  | _ => none }
def fnExactBindsOkRow : OpenClaim := { program := "ytkbmekcnejbdkaa", sum := "7448fd68e2cdfb67432497f6bf75f60ae2ef07299acc6582cc119ebba87bd673", func := "loop.example/headrace/laws.FnExactBindsOk", spec := "fnExactBindsOk", apart := false }
def FnExactBindsOkSaid : Prop := fnExactBindsOkRow.holds Try.pinned (OpenSpec.ofChange fnExactBindsOkSpec)

/-- ITS FALSE NEIGHBOUR: 'it returns false'. Refute it at one input. -/
def fnExactBindsOkWrong : ChangeSpec := { name := "fnExactBindsOk", fn := fun _ => fun
  | [d] => { results := [.lit (.bool false)], args := [d] }
  | _ => none }
def FnExactBindsOkWrongFalsely : Prop := fnExactBindsOkRow.holds Try.pinned (OpenSpec.ofChange fnExactBindsOkWrong)

/-- 'laws.FnExactMeanOp': WHATEVER THE INPUT: true; the input reads as it did. -/
def fnExactMeanOpSpec : ChangeSpec := { name := "fnExactMeanOp", fn := fun _ => fun
  | [d1, d2, d3] => { results := [.lit (.bool true)], args := [d1, d2, d3] }
  | _ => none }
def fnExactMeanOpRow : OpenClaim := { program := "ytkbmekcnejbdkaa", sum := "7448fd68e2cdfb67432497f6bf75f60ae2ef07299acc6582cc119ebba87bd673", func := "loop.example/headrace/laws.FnExactMeanOp", spec := "fnExactMeanOp", unfollowed := true, recurses := true, apart := false }
def FnExactMeanOpSaid : Prop := fnExactMeanOpRow.holds Try.pinned (OpenSpec.ofChange fnExactMeanOpSpec)

/-- ITS FALSE NEIGHBOUR: 'it returns false'. Refute it at one input. -/
def fnExactMeanOpWrong : ChangeSpec := { name := "fnExactMeanOp", fn := fun _ => fun
  | [d1, d2, d3] => { results := [.lit (.bool false)], args := [d1, d2, d3] }
  | _ => none }
def FnExactMeanOpWrongFalsely : Prop := fnExactMeanOpRow.holds Try.pinned (OpenSpec.ofChange fnExactMeanOpWrong)

/- THE SECOND FORM. 'bulk': how many values and letters a reading holds, each counted each time it is reached (what is shared counts as often as it is met; a slice's spare places count too). A statement '..UptoSaid' is the law's where the arguments, and the package variables that the reading takes, are together of bulk at most 1048576: NARROWER than '..Said'. Prove '..Said' where nothing that the law and all that it calls make is longer than what came in: it says more and counts as full. Else prove '..UptoSaid'. A law counts once. -/
mutual
def uptoBulk {H : Type} : DataW H → Nat
  | .lit (.string bytes) => bytes.length + 1
  | .lit _ => 1
  | .nil => 1
  | .ptr d => uptoBulk d + 1
  | .slice elems spare => uptoBulkAll elems + uptoBulkAll spare + 1
  | .agg parts => uptoBulkAll parts + 1
  | .iface _ d => uptoBulk d + 1
  | .map entries => uptoBulkEntries entries + 1
  | .held _ => 1
def uptoBulkAll {H : Type} : List (DataW H) → Nat
  | [] => 0
  | d :: r => uptoBulk d + uptoBulkAll r
def uptoBulkEntries {H : Type} : List (Lit × DataW H) → Nat
  | [] => 0
  | x :: r => uptoBulkEntry x + uptoBulkEntries r
def uptoBulkEntry {H : Type} : Lit × DataW H → Nat
  | (.string bytes, d) => bytes.length + uptoBulk d + 1
  | (_, d) => uptoBulk d + 1
 end
def uptoSmall : (H : Type) → List (DataW H) → Bool := fun _ ds => decide (uptoBulkAll ds ≤ 1048576)
def OpenSpec.upto (s : _root_.Go.ChangeSpec) : _root_.Go.OpenSpec := { _root_.Go.OpenSpec.ofChange s with cond := some uptoSmall }

/-- 'laws.FnOps', WHERE WHAT IT READS IS OF BULK AT MOST 1048576: true; the input reads as it did. -/
def fnOpsUptoRow : OpenClaim := { program := "ytkbmekcnejbdkaa", sum := "7448fd68e2cdfb67432497f6bf75f60ae2ef07299acc6582cc119ebba87bd673", func := "loop.example/headrace/laws.FnOps", spec := "fnOps", unfollowed := true, recurses := true, apart := false, narrowed := true }
def FnOpsUptoSaid : Prop := fnOpsUptoRow.holds Try.pinned (OpenSpec.upto fnOpsSpec)

/-- 'laws.FnExactBindsOk', WHERE WHAT IT READS IS OF BULK AT MOST 1048576: true; the input reads as it did. -/
def fnExactBindsOkUptoRow : OpenClaim := { program := "ytkbmekcnejbdkaa", sum := "7448fd68e2cdfb67432497f6bf75f60ae2ef07299acc6582cc119ebba87bd673", func := "loop.example/headrace/laws.FnExactBindsOk", spec := "fnExactBindsOk", apart := false, narrowed := true }
def FnExactBindsOkUptoSaid : Prop := fnExactBindsOkUptoRow.holds Try.pinned (OpenSpec.upto fnExactBindsOkSpec)

/-- 'laws.FnExactMeanOp', WHERE WHAT IT READS IS OF BULK AT MOST 1048576: true; the input reads as it did. -/
def fnExactMeanOpUptoRow : OpenClaim := { program := "ytkbmekcnejbdkaa", sum := "7448fd68e2cdfb67432497f6bf75f60ae2ef07299acc6582cc119ebba87bd673", func := "loop.example/headrace/laws.FnExactMeanOp", spec := "fnExactMeanOp", unfollowed := true, recurses := true, apart := false, narrowed := true }
def FnExactMeanOpUptoSaid : Prop := fnExactMeanOpUptoRow.holds Try.pinned (OpenSpec.upto fnExactMeanOpSpec)

end Rows
end Go.Proofs.Ytkbmekcnejbdkaa
