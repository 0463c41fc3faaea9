/-
  The version that marks have of a source: the first one tells; both sides' ways to find it.
-/
import Derived.Test.YteonbigmggeneaaDoorStampMath
import Derived.Test.YteonbigmggeneaaDoorMarkRowsOwn
import Derived.Test.YteonbigmggeneaaDoorBoxes
import Derived.BigQuiet
import Derived.Deep.QuietTactic
import Derived.Handy
set_option linter.unusedVariables false
namespace Go.Proofs.YteonbigmggeneaaDoor
open Go.RowKit Go.Maps Go.Deep

def getV : List MarkV → ByteArray → Int
  | [], _ => 0
  | x :: xs, s => if x.a0 = s then x.a1 else getV xs s
theorem getV_hit (ns : List MarkV) (s : ByteArray) (k : Nat) (hk : k < ns.length) (he : ns[k].a0 = s) (hn : ∀ j (h : j < ns.length), j < k → ns[j].a0 ≠ s) : getV ns s = ns[k].a1 := by
  induction ns generalizing k with
  | nil => simp at hk
  | cons x xs ih =>
    cases k with
    | zero => simp at he; simp [getV, he]
    | succ k =>
      have h0 := hn 0 (by simp) (by omega)
      simp at h0
      simp only [getV, if_neg h0]
      simp only [List.getElem_cons_succ]
      exact ih k (by simpa using hk) (by simpa using he) (fun j h hj => by have := hn (j + 1) (by simpa using h) (by omega); simpa using this)
theorem getV_miss (ns : List MarkV) (s : ByteArray) (hn : ∀ j (h : j < ns.length), ns[j].a0 ≠ s) : getV ns s = 0 := by
  induction ns with
  | nil => rfl
  | cons x xs ih =>
    have h0 := hn 0 (by simp)
    simp at h0
    simp only [getV, if_neg h0]
    exact ih (fun j h => by have := hn (j + 1) (by simpa using h); simpa using this)
end Go.Proofs.YteonbigmggeneaaDoor
