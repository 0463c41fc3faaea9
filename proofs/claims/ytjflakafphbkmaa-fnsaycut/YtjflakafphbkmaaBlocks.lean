/-
  Whole blocks in memory, kept from world to world; a row of bytes never lies in a block of another type.
-/
import Derived.Test.YtjflakafphbkmaaNumBytes
set_option linter.unusedVariables false
namespace Go.Proofs.Ytjflakafphbkmaa
open Go.RowKit Go.Maps Go.Deep

def BlockIs (w : World) (g : Nat) (o : Obj) : Prop := w.heap[g]? = some o
theorem BlockIs.lt {w : World} {g : Nat} {o : Obj} (h : BlockIs w g o) : g < w.heap.size := (Array.getElem?_eq_some_iff.1 h).1
theorem block_new (w : World) (o : Obj) : BlockIs (w.alloc o) w.heap.size o := by unfold BlockIs; first | exact heap_alloc_new w o | exact World.heap_alloc_new w o
theorem BlockIs.turn {S : List Nat} {w w' : World} {g : Nat} {o : Obj} (h : BlockIs w g o) (ht : Turn S w w') (hS : g ∉ S) : BlockIs w' g o := (ht.block g h.lt hS).trans h
theorem BlockIs.below {B : Nat} {w w' : World} {g : Nat} {o : Obj} (h : BlockIs w g o) (hb : Below B w w') (hB : g < B) : BlockIs w' g o := (hb.block g hB).trans h
theorem BlockIs.up {w w' : World} {g : Nat} {o : Obj} (h : BlockIs w g o) (hb : Below w.heap.size w w') : BlockIs w' g o := h.below hb h.lt
theorem BlockIs.alloc {w : World} {g : Nat} {o : Obj} (h : BlockIs w g o) (o' : Obj) : BlockIs (w.alloc o') g o := h.up ((Below.refl _ _).alloc (Nat.le_refl _) _)
theorem BlockIs.grown {w w' : World} {g : Nat} {o : Obj} {row : Option Nat} (h : BlockIs w g o) (hg : w.grownBy w' row) (hr : row ≠ some g) : BlockIs w' g o := (hg.block g h.lt (fun e => hr e.symm)).trans h
theorem BlockIs.cell {w : World} {g : Nat} {arr : Array Value} {T : TypeId} (h : BlockIs w g (.cells arr T)) (i : Nat) (v : Value) (hv : arr[i]? = some v) : w.cell? ⟨g, i, none⟩ = some v := by
  unfold BlockIs at h
  simp [World.cell?, h, hv]
theorem BlockIs.apart {B : Nat} {w : World} {v : Value} {bs : List UInt8} {g : Nat} {arr : Array Value} {T : TypeId} (h : BlockIs w g (.cells arr T)) (hr : ByRow B w v bs) (hT : T ≠ 5) : v.ownBlock ≠ some g := by
  intro e
  rcases hr with ⟨_, ⟨rfl, h0⟩ | ⟨g', cap, cur, rfl, hB, hg, hnc, _⟩⟩
  · simp [Value.ownBlock] at e
  · simp [Value.ownBlock] at e
    subst e
    unfold BlockIs at h
    rw [hg] at h
    simp at h
    exact hT h.2.symm
theorem ownL_not {v : Value} {g : Nat} (h : v.ownBlock ≠ some g) : g ∉ ownL v := by
  intro hm
  exact h (by simpa [ownL] using hm)
end Go.Proofs.Ytjflakafphbkmaa
