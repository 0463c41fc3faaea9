/-
  No cell of these rows narrows 'for every input' (looked for: loops, veiled, ifaces, maps, wideKeys, modest, calm, conditions, laid).
  DERIVED. THE GIVEN ROWS OF THIS SEAT. 4 by the template 'for every input the law returns true; each argument reads behind the call as it read before'; 0 by the template 'total and deterministic' (their statements: YtcgalkfpmhbonaaTotals.lean).
  GIVEN WITH THE SEED: the statements are not yours to turn. If you find one false, say at which input.
  Laid BY PROGRAM, IN A SANDBOX (cutbox-rows.mjs): the forced cells as the released guide's own fill.sh prints them over the translation 79ca301b10510941… (all of the seat's roots in one cut). By AI agents, Wed Nov 11 2026. No macro, syntax, notation, axiom, sorry.
-/
import Derived.Test.YtcgalkfpmhbonaaChecked
import GoSem.Claim
import GoSem.ClaimJoined
import GoSem.ClaimMapViews
import Derived.JoinedTies
import Derived.KernelRfl
namespace Go.Proofs.Ytcgalkfpmhbonaa
/- THE CELL 'sum', in the pinned program and in every row, IS THE sha256 OF THE DUMP (.gsa) THAT YtcgalkfpmhbonaaProg.lean LOADS. Nothing in Lean hashes anything: it is a label: what it is worth is what the hold of that sum in a sandbox is worth. -/
noncomputable def Try.pinned : Pinned := { name := "ytcgalkfpmhbonaa", sum := "79ca301b10510941c432c115f42b3d4e907802c5d27c1a5374e8c1896fdc9c83", checked := Try.checked }
namespace Rows
def none {H : Type} : Left H := { results := [], args := [] }

/-- 'laws.FnExactStampOk': WHATEVER THE INPUT: true; the input reads as it did. -/
def fnExactStampOkSpec : ChangeSpec := { name := "fnExactStampOk", fn := fun _ => fun
  | [d] => { results := [.lit (.bool true)], args := [d] }
  | _ => none }
def fnExactStampOkRow : OpenClaim := { program := "ytcgalkfpmhbonaa", sum := "79ca301b10510941c432c115f42b3d4e907802c5d27c1a5374e8c1896fdc9c83", func := "loop.example/headrace/laws.FnExactStampOk", spec := "fnExactStampOk", apart := false }
def FnExactStampOkSaid : Prop := fnExactStampOkRow.holds Try.pinned (OpenSpec.ofChange fnExactStampOkSpec)

/-- ITS FALSE NEIGHBOUR: 'it returns false'. Refute it at one input. -/
def fnExactStampOkWrong : ChangeSpec := { name := "fnExactStampOk", fn := fun _ => fun
  | [d] => { results := [.lit (.bool false)], args := [d] }
  | _ => none }
def FnExactStampOkWrongFalsely : Prop := fnExactStampOkRow.holds Try.pinned (OpenSpec.ofChange fnExactStampOkWrong)

/-- 'laws.FnExactStampGet': WHATEVER THE INPUT: true; the input reads as it did. -/
def fnExactStampGetSpec : ChangeSpec := { name := "fnExactStampGet", fn := fun _ => fun
  | [d1, d2] => { results := [.lit (.bool true)], args := [d1, d2] }
  | _ => none }
def fnExactStampGetRow : OpenClaim := { program := "ytcgalkfpmhbonaa", sum := "79ca301b10510941c432c115f42b3d4e907802c5d27c1a5374e8c1896fdc9c83", func := "loop.example/headrace/laws.FnExactStampGet", spec := "fnExactStampGet", apart := false }
def FnExactStampGetSaid : Prop := fnExactStampGetRow.holds Try.pinned (OpenSpec.ofChange fnExactStampGetSpec)

/-- ITS FALSE NEIGHBOUR: 'it returns false'. Refute it at one input. -/
def fnExactStampGetWrong : ChangeSpec := { name := "fnExactStampGet", fn := fun _ => fun
  | [d1, d2] => { results := [.lit (.bool false)], args := [d1, d2] }
  | _ => none }
def FnExactStampGetWrongFalsely : Prop := fnExactStampGetRow.holds Try.pinned (OpenSpec.ofChange fnExactStampGetWrong)

/-- 'laws.FnExactStampAgree': WHATEVER THE INPUT: true; the input reads as it did. -/
def fnExactStampAgreeSpec : ChangeSpec := { name := "fnExactStampAgree", fn := fun _ => fun
  | [d1, d2] => { results := [.lit (.bool true)], args := [d1, d2] }
  | _ => none }
def fnExactStampAgreeRow : OpenClaim := { program := "ytcgalkfpmhbonaa", sum := "79ca301b10510941c432c115f42b3d4e907802c5d27c1a5374e8c1896fdc9c83", func := "loop.example/headrace/laws.FnExactStampAgree", spec := "fnExactStampAgree", unfollowed := true, recurses := true, apart := false }
def FnExactStampAgreeSaid : Prop := fnExactStampAgreeRow.holds Try.pinned (OpenSpec.ofChange fnExactStampAgreeSpec)

/-- ITS FALSE NEIGHBOUR: 'it returns false'. Refute it at one input. -/
def fnExactStampAgreeWrong : ChangeSpec := { name := "fnExactStampAgree", fn := fun _ => fun
  | [d1, d2] => { results := [.lit (.bool false)], args := [d1, d2] }
  | _ => none }
def FnExactStampAgreeWrongFalsely : Prop := fnExactStampAgreeRow.holds Try.pinned (OpenSpec.ofChange fnExactStampAgreeWrong)

/-- 'laws.FnExactStampOrder': WHATEVER THE INPUT: true; the input reads as it did. -/
def fnExactStampOrderSpec : ChangeSpec := { name := "fnExactStampOrder", fn := fun _ => fun
  | [d1, d2] => { results := [.lit (.bool true)], args := [d1, d2] }
  | _ => none }
def fnExactStampOrderRow : OpenClaim := { program := "ytcgalkfpmhbonaa", sum := "79ca301b10510941c432c115f42b3d4e907802c5d27c1a5374e8c1896fdc9c83", func := "loop.example/headrace/laws.FnExactStampOrder", spec := "fnExactStampOrder", unfollowed := true, recurses := true, apart := false }
def FnExactStampOrderSaid : Prop := fnExactStampOrderRow.holds Try.pinned (OpenSpec.ofChange fnExactStampOrderSpec)

/-- ITS FALSE NEIGHBOUR: 'it returns false'. Refute it at one input. -/
def fnExactStampOrderWrong : ChangeSpec := { name := "fnExactStampOrder", fn := fun _ => fun
  | [d1, d2] => { results := [.lit (.bool false)], args := [d1, d2] }
  | _ => none }
def FnExactStampOrderWrongFalsely : Prop := fnExactStampOrderRow.holds Try.pinned (OpenSpec.ofChange fnExactStampOrderWrong)

/- THE SECOND FORM. 'bulk': how many values and letters a reading holds, each counted each time it is reached (what is shared counts as often as it is met; a slice's spare places count too). A statement '..UptoSaid' is the law's where the arguments, and the package variables that the reading takes, are together of bulk at most 1048576: NARROWER than '..Said'. Prove '..Said' where nothing that the law and all that it calls make is longer than what came in: it says more and counts as full. Else prove '..UptoSaid'. A law counts once. -/
mutual
def uptoBulk {H : Type} : DataW H → Nat
  | .lit (.string bytes) => bytes.length + 1
  | .lit _ => 1
  | .nil => 1
  | .ptr d => uptoBulk d + 1
  | .slice elems spare => uptoBulkAll elems + uptoBulkAll spare + 1
  | .agg parts => uptoBulkAll parts + 1
  | .iface _ d => uptoBulk d + 1
  | .map entries => uptoBulkEntries entries + 1
  | .held _ => 1
def uptoBulkAll {H : Type} : List (DataW H) → Nat
  | [] => 0
  | d :: r => uptoBulk d + uptoBulkAll r
def uptoBulkEntries {H : Type} : List (Lit × DataW H) → Nat
  | [] => 0
  | x :: r => uptoBulkEntry x + uptoBulkEntries r
def uptoBulkEntry {H : Type} : Lit × DataW H → Nat
  | (.string bytes, d) => bytes.length + uptoBulk d + 1
  | (_, d) => uptoBulk d + 1
 end
def uptoSmall : (H : Type) → List (DataW H) → Bool := fun _ ds => decide (uptoBulkAll ds ≤ 1048576)
def OpenSpec.upto (s : _root_.Go.ChangeSpec) : _root_.Go.OpenSpec := { _root_.Go.OpenSpec.ofChange s with cond := some uptoSmall }

/-- 'laws.FnExactStampOk', WHERE WHAT IT READS IS OF BULK AT MOST 1048576: true; the input reads as it did. -/
def fnExactStampOkUptoRow : OpenClaim := { program := "ytcgalkfpmhbonaa", sum := "79ca301b10510941c432c115f42b3d4e907802c5d27c1a5374e8c1896fdc9c83", func := "loop.example/headrace/laws.FnExactStampOk", spec := "fnExactStampOk", apart := false, narrowed := true }
def FnExactStampOkUptoSaid : Prop := fnExactStampOkUptoRow.holds Try.pinned (OpenSpec.upto fnExactStampOkSpec)

/-- 'laws.FnExactStampGet', WHERE WHAT IT READS IS OF BULK AT MOST 1048576: true; the input reads as it did. -/
def fnExactStampGetUptoRow : OpenClaim := { program := "ytcgalkfpmhbonaa", sum := "79ca301b10510941c432c115f42b3d4e907802c5d27c1a5374e8c1896fdc9c83", func := "loop.example/headrace/laws.FnExactStampGet", spec := "fnExactStampGet", apart := false, narrowed := true }
def FnExactStampGetUptoSaid : Prop := fnExactStampGetUptoRow.holds Try.pinned (OpenSpec.upto fnExactStampGetSpec)

/-- 'laws.FnExactStampAgree', WHERE WHAT IT READS IS OF BULK AT MOST 1048576: true; the input reads as it did. -/
def fnExactStampAgreeUptoRow : OpenClaim := { program := "ytcgalkfpmhbonaa", sum := "79ca301b10510941c432c115f42b3d4e907802c5d27c1a5374e8c1896fdc9c83", func := "loop.example/headrace/laws.FnExactStampAgree", spec := "fnExactStampAgree", unfollowed := true, recurses := true, apart := false, narrowed := true }
def FnExactStampAgreeUptoSaid : Prop := fnExactStampAgreeUptoRow.holds Try.pinned (OpenSpec.upto fnExactStampAgreeSpec)

/-- 'laws.FnExactStampOrder', WHERE WHAT IT READS IS OF BULK AT MOST 1048576: true; the input reads as it did. -/
def fnExactStampOrderUptoRow : OpenClaim := { program := "ytcgalkfpmhbonaa", sum := "79ca301b10510941c432c115f42b3d4e907802c5d27c1a5374e8c1896fdc9c83", func := "loop.example/headrace/laws.FnExactStampOrder", spec := "fnExactStampOrder", unfollowed := true, recurses := true, apart := false, narrowed := true }
def FnExactStampOrderUptoSaid : Prop := fnExactStampOrderUptoRow.holds Try.pinned (OpenSpec.upto fnExactStampOrderSpec)

end Rows
end Go.Proofs.Ytcgalkfpmhbonaa
