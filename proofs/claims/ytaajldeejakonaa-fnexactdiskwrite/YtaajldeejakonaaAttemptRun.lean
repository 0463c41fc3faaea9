/-
  The attempt itself, around a closure that is done or gives up.
-/
import Derived.Test.YtaajldeejakonaaAttempts
set_option linter.unusedVariables false
namespace Go.Proofs.Ytaajldeejakonaa
open Go.RowKit Go.Maps Go.Deep

/-- a disk at work behind an attempt -/
def Drove (B g : Nat) (v1 : Value) (D : DiskV) (w w' : World) : Prop := ∃ v, Drive B w' g v v1 D ∧ Below B w w'
/-- the world in which the closure is called -/
def attW (w : World) (g : Nat) : World := (w.alloc (.cells #[.pointer (some ⟨g, 0, none⟩)] 47)).alloc (.cells #[.int .i64 0] 3)
theorem attW_size (w : World) (g : Nat) : (attW w g).heap.size = w.heap.size + 1 + 1 := by simp [attW]
theorem attW_up (w : World) (g : Nat) : Below w.heap.size w (attW w g) := ((Below.refl _ _).alloc (Nat.le_refl _) _).alloc (by simp) _
theorem attW_gw (w : World) (g : Nat) : (attW w g).cell? ⟨w.heap.size, 0, none⟩ = some (.pointer (some ⟨g, 0, none⟩)) := by
  unfold attW
  rw [World.cell?_alloc_past _ _ _ (by simp), World.cell?_alloc_at _ _ _ _ (by simp)]
  rfl
theorem attW_gc (w : World) (g : Nat) : (attW w g).heap[w.heap.size + 1]? = some (.cells #[.int .i64 0] 3) ∧ (attW w g).cell? ⟨w.heap.size + 1, 0, none⟩ = some (.int .i64 0) ∧ (attW w g).frozen? ⟨w.heap.size + 1, 0, none⟩ = false := by
  have h := boxF_new (w.alloc (.cells #[.pointer (some ⟨g, 0, none⟩)] 47)) [.int .i64 0] 3
  have hs : (w.alloc (.cells #[.pointer (some ⟨g, 0, none⟩)] 47)).heap.size = w.heap.size + 1 := by simp
  rw [hs] at h
  refine ⟨?_, h.1.at 0 _ rfl, h.2 0 (by simp)⟩
  have := heap_alloc_new (w.alloc (.cells #[.pointer (some ⟨g, 0, none⟩)] 47)) (.cells #[.int .i64 0] 3)
  rw [hs] at this
  exact this
theorem tIntBy : 3 ≠ 5 := by decide
end Go.Proofs.Ytaajldeejakonaa
