/-
  No cell of these rows narrows 'for every input' (looked for: loops, veiled, ifaces, maps, wideKeys, modest, calm, conditions, laid).
  DERIVED. THE GIVEN ROWS OF THIS SEAT. 3 by the template 'for every input the law returns true; each argument reads behind the call as it read before'; 0 by the template 'total and deterministic' (their statements: YtinmmmclgnnkhaaTotals.lean).
  GIVEN WITH THE SEED: the statements are not yours to turn. If you find one false, say at which input.
  Laid BY PROGRAM, IN A SANDBOX (cutbox-rows.mjs): the forced cells as the released guide's own fill.sh prints them over the translation a25e0509ca74a5bd… (all of the seat's roots in one cut). By AI agents, Wed Nov 11 2026. No macro, syntax, notation, axiom, sorry.
-/
import Derived.Test.YtinmmmclgnnkhaaChecked
import GoSem.Claim
import GoSem.ClaimJoined
import GoSem.ClaimMapViews
import Derived.JoinedTies
import Derived.KernelRfl
namespace Go.Proofs.Ytinmmmclgnnkhaa
/- THE CELL 'sum', in the pinned program and in every row, IS THE sha256 OF THE DUMP (.gsa) THAT YtinmmmclgnnkhaaProg.lean LOADS. Nothing in Lean hashes anything: it is a label: what it is worth is what the hold of that sum in a sandbox is worth. -/
noncomputable def Try.pinned : Pinned := { name := "ytinmmmclgnnkhaa", sum := "a25e0509ca74a5bd9c141aabe41822b1639584ee97673a467c09154b7e7a2286", checked := Try.checked }
namespace Rows
def none {H : Type} : Left H := { results := [], args := [] }

/-- 'laws.FnExactBodyKey': WHATEVER THE INPUT: true; the input reads as it did. -/
def fnExactBodyKeySpec : ChangeSpec := { name := "fnExactBodyKey", fn := fun _ => fun
  | [d] => { results := [.lit (.bool true)], args := [d] }
  | _ => none }
def fnExactBodyKeyRow : OpenClaim := { program := "ytinmmmclgnnkhaa", sum := "a25e0509ca74a5bd9c141aabe41822b1639584ee97673a467c09154b7e7a2286", func := "loop.example/headrace/laws.FnExactBodyKey", spec := "fnExactBodyKey", apart := false }
def FnExactBodyKeySaid : Prop := fnExactBodyKeyRow.holds Try.pinned (OpenSpec.ofChange fnExactBodyKeySpec)

/-- ITS FALSE NEIGHBOUR: 'it returns false'. Refute it at one input. -/
def fnExactBodyKeyWrong : ChangeSpec := { name := "fnExactBodyKey", fn := fun _ => fun
  | [d] => { results := [.lit (.bool false)], args := [d] }
  | _ => none }
def FnExactBodyKeyWrongFalsely : Prop := fnExactBodyKeyRow.holds Try.pinned (OpenSpec.ofChange fnExactBodyKeyWrong)

/-- 'laws.FnExactBodyNameOk': WHATEVER THE INPUT: true; the input reads as it did. -/
def fnExactBodyNameOkSpec : ChangeSpec := { name := "fnExactBodyNameOk", fn := fun _ => fun
  | [d] => { results := [.lit (.bool true)], args := [d] }
  | _ => none }
def fnExactBodyNameOkRow : OpenClaim := { program := "ytinmmmclgnnkhaa", sum := "a25e0509ca74a5bd9c141aabe41822b1639584ee97673a467c09154b7e7a2286", func := "loop.example/headrace/laws.FnExactBodyNameOk", spec := "fnExactBodyNameOk", apart := false }
def FnExactBodyNameOkSaid : Prop := fnExactBodyNameOkRow.holds Try.pinned (OpenSpec.ofChange fnExactBodyNameOkSpec)

/-- ITS FALSE NEIGHBOUR: 'it returns false'. Refute it at one input. -/
def fnExactBodyNameOkWrong : ChangeSpec := { name := "fnExactBodyNameOk", fn := fun _ => fun
  | [d] => { results := [.lit (.bool false)], args := [d] }
  | _ => none }
def FnExactBodyNameOkWrongFalsely : Prop := fnExactBodyNameOkRow.holds Try.pinned (OpenSpec.ofChange fnExactBodyNameOkWrong)

/-- 'laws.FnExactTreeEnd': WHATEVER THE INPUT: true; the input reads as it did. -/
def fnExactTreeEndSpec : ChangeSpec := { name := "fnExactTreeEnd", fn := fun _ => fun
  | [d1, d2] => { results := [.lit (.bool true)], args := [d1, d2] }
  | _ => none }
def fnExactTreeEndRow : OpenClaim := { program := "ytinmmmclgnnkhaa", sum := "a25e0509ca74a5bd9c141aabe41822b1639584ee97673a467c09154b7e7a2286", func := "loop.example/headrace/laws.FnExactTreeEnd", spec := "fnExactTreeEnd", apart := false }
def FnExactTreeEndSaid : Prop := fnExactTreeEndRow.holds Try.pinned (OpenSpec.ofChange fnExactTreeEndSpec)

/-- ITS FALSE NEIGHBOUR: 'it returns false'. Refute it at one input. -/
def fnExactTreeEndWrong : ChangeSpec := { name := "fnExactTreeEnd", fn := fun _ => fun
  | [d1, d2] => { results := [.lit (.bool false)], args := [d1, d2] }
  | _ => none }
def FnExactTreeEndWrongFalsely : Prop := fnExactTreeEndRow.holds Try.pinned (OpenSpec.ofChange fnExactTreeEndWrong)

/- THE SECOND FORM. 'bulk': how many values and letters a reading holds, each counted each time it is reached (what is shared counts as often as it is met; a slice's spare places count too). A statement '..UptoSaid' is the law's where the arguments, and the package variables that the reading takes, are together of bulk at most 1048576: NARROWER than '..Said'. Prove '..Said' where nothing that the law and all that it calls make is longer than what came in: it says more and counts as full. Else prove '..UptoSaid'. A law counts once. -/
mutual
def uptoBulk {H : Type} : DataW H → Nat
  | .lit (.string bytes) => bytes.length + 1
  | .lit _ => 1
  | .nil => 1
  | .ptr d => uptoBulk d + 1
  | .slice elems spare => uptoBulkAll elems + uptoBulkAll spare + 1
  | .agg parts => uptoBulkAll parts + 1
  | .iface _ d => uptoBulk d + 1
  | .map entries => uptoBulkEntries entries + 1
  | .held _ => 1
def uptoBulkAll {H : Type} : List (DataW H) → Nat
  | [] => 0
  | d :: r => uptoBulk d + uptoBulkAll r
def uptoBulkEntries {H : Type} : List (Lit × DataW H) → Nat
  | [] => 0
  | x :: r => uptoBulkEntry x + uptoBulkEntries r
def uptoBulkEntry {H : Type} : Lit × DataW H → Nat
  | (.string bytes, d) => bytes.length + uptoBulk d + 1
  | (_, d) => uptoBulk d + 1
 end
def uptoSmall : (H : Type) → List (DataW H) → Bool := fun _ ds => decide (uptoBulkAll ds ≤ 1048576)
def OpenSpec.upto (s : _root_.Go.ChangeSpec) : _root_.Go.OpenSpec := { _root_.Go.OpenSpec.ofChange s with cond := some uptoSmall }

/-- 'laws.FnExactBodyKey', WHERE WHAT IT READS IS OF BULK AT MOST 1048576: true; the input reads as it did. -/
def fnExactBodyKeyUptoRow : OpenClaim := { program := "ytinmmmclgnnkhaa", sum := "a25e0509ca74a5bd9c141aabe41822b1639584ee97673a467c09154b7e7a2286", func := "loop.example/headrace/laws.FnExactBodyKey", spec := "fnExactBodyKey", apart := false, narrowed := true }
def FnExactBodyKeyUptoSaid : Prop := fnExactBodyKeyUptoRow.holds Try.pinned (OpenSpec.upto fnExactBodyKeySpec)

/-- 'laws.FnExactBodyNameOk', WHERE WHAT IT READS IS OF BULK AT MOST 1048576: true; the input reads as it did. -/
def fnExactBodyNameOkUptoRow : OpenClaim := { program := "ytinmmmclgnnkhaa", sum := "a25e0509ca74a5bd9c141aabe41822b1639584ee97673a467c09154b7e7a2286", func := "loop.example/headrace/laws.FnExactBodyNameOk", spec := "fnExactBodyNameOk", apart := false, narrowed := true }
def FnExactBodyNameOkUptoSaid : Prop := fnExactBodyNameOkUptoRow.holds Try.pinned (OpenSpec.upto fnExactBodyNameOkSpec)

/-- 'laws.FnExactTreeEnd', WHERE WHAT IT READS IS OF BULK AT MOST 1048576: true; the input reads as it did. -/
def fnExactTreeEndUptoRow : OpenClaim := { program := "ytinmmmclgnnkhaa", sum := "a25e0509ca74a5bd9c141aabe41822b1639584ee97673a467c09154b7e7a2286", func := "loop.example/headrace/laws.FnExactTreeEnd", spec := "fnExactTreeEnd", apart := false, narrowed := true }
def FnExactTreeEndUptoSaid : Prop := fnExactTreeEndUptoRow.holds Try.pinned (OpenSpec.upto fnExactTreeEndSpec)

end Rows
end Go.Proofs.Ytinmmmclgnnkhaa
