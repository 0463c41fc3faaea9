/-
  The disk at work is cut.
-/
import Derived.Test.YtaajldeejakonaaAttemptRun
import Derived.Test.YtaajldeejakonaaDiskCut
set_option linter.unusedVariables false
namespace Go.Proofs.Ytaajldeejakonaa
open Go.RowKit Go.Maps Go.Deep

def cutW (w : World) (g : Nat) (at' : Int) : World := (w.alloc (.cells #[.pointer (some ⟨g, 0, none⟩)] 47)).alloc (.cells #[.int .i64 at'] 3)
theorem cutW_size (w : World) (g : Nat) (at' : Int) : (cutW w g at').heap.size = w.heap.size + 1 + 1 := by simp [cutW]
theorem cutW_up (w : World) (g : Nat) (at' : Int) : Below w.heap.size w (cutW w g at') := ((Below.refl _ _).alloc (Nat.le_refl _) _).alloc (by simp) _
theorem cutW_cells (w : World) (g : Nat) (at' : Int) : (cutW w g at').cell? ⟨w.heap.size, 0, none⟩ = some (.pointer (some ⟨g, 0, none⟩)) ∧ (cutW w g at').cell? ⟨w.heap.size + 1, 0, none⟩ = some (.int .i64 at') := by
  unfold cutW
  refine ⟨?_, ?_⟩
  · rw [World.cell?_alloc_past _ _ _ (by simp), World.cell?_alloc_at _ _ _ _ (by simp)]
    rfl
  · rw [World.cell?_alloc_at _ _ _ _ (by simp)]
    rfl
def cutOut (d : DiskV) (at' : Nat) : DiskV := if d.down then d else if d.fuse = 0 then fellD d else cutD d at'
def cutCode (d : DiskV) : Int := if d.down then 2 else if d.fuse = 0 then 2 else 0
def RetCut (B g : Nat) (d : DiskV) (at' : Nat) (w : World) (e : Ending) (w' : World) : Prop := e = .returned (.int .i64 (cutCode d)) ∧ ∃ v v1, Drive B w' g v v1 (cutOut d at') ∧ Below B w w'
end Go.Proofs.Ytaajldeejakonaa
