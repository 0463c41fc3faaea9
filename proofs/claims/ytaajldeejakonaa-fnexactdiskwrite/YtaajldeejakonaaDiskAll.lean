/-
  DiskAll of both sides.
-/
import Derived.Test.YtaajldeejakonaaDisks
import Derived.Test.YtaajldeejakonaaByFuncs
set_option linter.unusedVariables false
namespace Go.Proofs.Ytaajldeejakonaa
open Go.RowKit Go.Maps Go.Deep

theorem disk_small {d : DiskV} (h : diskOkB d = true) : d.safe.length + d.soft.length ≤ 8000 := by
  simp [diskOkB] at h
  omega
def allB (d : DiskV) : Bool := diskOkB d && !d.down
def allV (d : DiskV) : List UInt8 := if allB d then d.safe ++ d.soft else []
theorem allV_yes {d : DiskV} (h : diskOkB d = true) (hd : d.down = false) : allV d = d.safe ++ d.soft ∧ allB d = true := by simp [allV, allB, h, hd]
theorem allV_no {d : DiskV} (h : allB d = false) : allV d = [] := by simp [allV, h]
theorem allB_down {d : DiskV} (hd : d.down = true) : allB d = false := by simp [allB, hd]
theorem allB_bad {d : DiskV} (hd : diskOkB d = false) : allB d = false := by simp [allB, hd]


def RetAll (d : DiskV) (w : World) (e : Ending) (w' : World) : Prop := ∃ a n c, e = .returned (.tuple #[.slice a n c, .bool (allB d)]) ∧ Hid (n = (allV d).length) ∧ ByRow w.heap.size w' (.slice a n c) (allV d) ∧ Below w.heap.size w w'
theorem retAll_no (d : DiskV) (w w' : World) (h : allB d = false) (hb : Below w.heap.size w w') : RetAll d w (.returned (.tuple #[.slice none 0 0, .bool false])) w' := by
  refine ⟨none, 0, 0, ?_, ?_, ?_, hb⟩
  · rw [h]
  · rw [allV_no h]; exact hide rfl
  · rw [allV_no h]; exact ByRow.nil _ _
end Go.Proofs.Ytaajldeejakonaa
