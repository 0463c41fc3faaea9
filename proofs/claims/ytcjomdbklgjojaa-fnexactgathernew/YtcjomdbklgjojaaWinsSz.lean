/-
  How much lists of windows hold in all.
-/
import Derived.Test.YtcjomdbklgjojaaWins
set_option linter.unusedVariables false
namespace Go.Proofs.Ytcjomdbklgjojaa
open Go.RowKit Go.Maps Go.Deep

def RetMarkW (ns : List MarkV) (left0 : Int) (e : Ending) : Prop := ∃ r : Int, e = .returned (.int .i64 r) ∧ r ≤ left0 ∧ (0 ≤ r → MarkSmall ns ∧ r + (ns.length : Int) ≤ left0)
def wTo (ns : List ItemV) (k : Nat) : Nat := ((ns.take k).map (fun x => x.a1.length)).sum
theorem wTo_step (ns : List ItemV) (k : Nat) (h : k < ns.length) : wTo ns (k + 1) = wTo ns k + ns[k].a1.length := by
  unfold wTo
  rw [List.take_succ_eq_append_getElem h, List.map_append, List.sum_append]
  simp
def wItemS (ns : List ItemV) : Nat := ns.length + wTo ns ns.length
def wwTo (ns : List (List ItemV)) (k : Nat) : Nat := ((ns.take k).map wItemS).sum
theorem wwTo_step (ns : List (List ItemV)) (k : Nat) (h : k < ns.length) : wwTo ns (k + 1) = wwTo ns k + wItemS ns[k] := by
  unfold wwTo
  rw [List.take_succ_eq_append_getElem h, List.map_append, List.sum_append]
  simp
def wItemSS (ns : List (List ItemV)) : Nat := ns.length + wwTo ns ns.length
def SmallItemSSF (ns : List (List ItemV)) : Prop := SmallItemSS ns ∧ wItemSS ns ≤ 1048576
end Go.Proofs.Ytcjomdbklgjojaa
