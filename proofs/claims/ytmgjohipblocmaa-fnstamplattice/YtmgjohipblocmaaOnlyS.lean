/-
  StampOnly of the specification.
-/
import Derived.Test.YtmgjohipblocmaaStampI
import Derived.Test.YtmgjohipblocmaaMarkApp
import Derived.Test.YtmgjohipblocmaaStrRows
import Derived.Test.YtmgjohipblocmaaLater
import Derived.OwnWalk
set_option linter.unusedVariables false
namespace Go.Proofs.Ytmgjohipblocmaa
open Go.RowKit Go.Maps Go.Deep

def hasB (names : List ByteArray) (s : ByteArray) : Bool := names.any fun t => decide (t = s)
theorem hasB_take (names : List ByteArray) (s : ByteArray) (k : Nat) (h : k < names.length) : hasB (names.take (k + 1)) s = (hasB (names.take k) s || decide (names[k] = s)) := by
  unfold hasB
  rw [List.take_succ_eq_append_getElem h, List.any_append]
  simp
def onlyL (names : List ByteArray) (ns : List MarkV) : List MarkV := ns.filter fun x => hasB names x.a0
def onlyV (ns : List MarkV) (names : List ByteArray) : List MarkV := if mstampB ns then onlyL names ns else []
theorem onlyL_take (names : List ByteArray) (ns : List MarkV) (k : Nat) (h : k < ns.length) : onlyL names (ns.take (k + 1)) = if hasB names ns[k].a0 then onlyL names (ns.take k) ++ [ns[k]] else onlyL names (ns.take k) := by
  unfold onlyL
  rw [List.take_succ_eq_append_getElem h, List.filter_append]
  cases hh : hasB names ns[k].a0 <;> simp [hh]
theorem onlyL_len (names : List ByteArray) (ns : List MarkV) : (onlyL names ns).length ≤ ns.length := List.length_filter_le _ _
def RetOnly (ns : List MarkV) (names : List ByteArray) (w : World) (e : Ending) (w' : World) : Prop := ∃ v, e = .returned v ∧ Hid (MkRow w.heap.size w' v (onlyV ns names)) ∧ Below w.heap.size w w'
theorem onlyLen12 {ns : List MarkV} (h : mstampB ns = true) : ns.length ≤ 12 := by
  simp [mstampB] at h
  exact h.1
end Go.Proofs.Ytmgjohipblocmaa
