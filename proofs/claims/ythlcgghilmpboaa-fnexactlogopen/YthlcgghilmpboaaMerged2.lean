/-
  The disk at work is written to.
-/
/-
  DiskWrite of the program.
-/
/-
  DiskWrite of the program, at its face.
-/
/-
  DiskWrite of the specification.
-/
/-
  DiskWrite of the specification, at no bytes, and at any.
-/
/-
  DiskSync of the program.
-/
import Derived.Test.YthlcgghilmpboaaWriteAct
import Derived.Test.YthlcgghilmpboaaMerged8
import Derived.Test.YthlcgghilmpboaaSpecBurn
set_option linter.unusedVariables false
namespace Go.Proofs.Ythlcgghilmpboaa
open Go.RowKit Go.Maps Go.Deep

/-- a row to be read whose block lies below B -/
def ByLow (B : Nat) (w : World) (v : Value) (bs : List UInt8) : Prop := ∃ a cap, v = .slice a bs.length cap ∧ (bs = [] ∨ ∃ rb off, a = some ⟨rb, off, none⟩ ∧ rb < B ∧ ByAt w rb off bs)
theorem ByLow.of {B : Nat} {w0 w : World} {v : Value} {bs : List UInt8} (h : ByRd w0 v bs) (hB : w0.heap.size ≤ B) (hb : Below w0.heap.size w0 w) : ByLow B w v bs := by
  obtain ⟨a, cap, rfl, h, _⟩ := h
  refine ⟨a, cap, rfl, ?_⟩
  rcases h with h | ⟨rb, off, e, hlt, hc⟩
  · exact .inl h
  · exact .inr ⟨rb, off, e, by omega, fun i hi => (hb.cell (by exact hlt)).trans (hc i hi)⟩
theorem ByLow.up {B : Nat} {w w' : World} {v : Value} {bs : List UInt8} (h : ByLow B w v bs) (hb : Below B w w') : ByLow B w' v bs := by
  obtain ⟨a, cap, rfl, h⟩ := h
  refine ⟨a, cap, rfl, ?_⟩
  rcases h with h | ⟨rb, off, e, hlt, hc⟩
  · exact .inl h
  · exact .inr ⟨rb, off, e, hlt, fun i hi => (hb.cell (by exact hlt)).trans (hc i hi)⟩
def actD (d : DiskV) (bs : List UInt8) : DiskV := if goneB d bs = true then fellD (atD d bs d.fuse.toNat) else atD d bs bs.length
def actC (d : DiskV) (bs : List UInt8) : Int := if goneB d bs = true then 2 else 0
def ActEnd (B g : Nat) (d : DiskV) (bs : List UInt8) (w : World) (e : Ending) (w' : World) : Prop := e = .returned (.int .i64 (actC d bs)) ∧ Hid (∃ v v', Drive B w' g v v' (actD d bs) ∧ Below B w w')
end Go.Proofs.Ythlcgghilmpboaa

set_option linter.unusedVariables false
namespace Go.Proofs.Ythlcgghilmpboaa
open Go.RowKit Go.Maps Go.Deep

def wrW (w : World) (g : Nat) (v : Value) : World := (w.alloc (.cells #[.pointer (some ⟨g, 0, none⟩)] 74)).alloc (.cells #[v] 22)
theorem wrW_size (w : World) (g : Nat) (v : Value) : (wrW w g v).heap.size = w.heap.size + 1 + 1 := by simp [wrW]
theorem wrW_up (w : World) (g : Nat) (v : Value) : Below w.heap.size w (wrW w g v) := ((Below.refl _ _).alloc (Nat.le_refl _) _).alloc (by simp) _
theorem wrW_cells (w : World) (g : Nat) (v : Value) : (wrW w g v).cell? ⟨w.heap.size, 0, none⟩ = some (.pointer (some ⟨g, 0, none⟩)) ∧ (wrW w g v).cell? ⟨w.heap.size + 1, 0, none⟩ = some v := by
  unfold wrW
  refine ⟨?_, ?_⟩
  · rw [World.cell?_alloc_past _ _ _ (by simp), World.cell?_alloc_at _ _ _ _ (by simp)]
    rfl
  · rw [World.cell?_alloc_at _ _ _ _ (by simp)]
    rfl
def wrOut (d : DiskV) (bs : List UInt8) : DiskV := if d.down = true then d else if 8000 < d.safe.length + d.soft.length + bs.length then d else actD d bs
def wrCode (d : DiskV) (bs : List UInt8) : Int := if d.down = true then 2 else if 8000 < d.safe.length + d.soft.length + bs.length then 3 else actC d bs
def RetWr (B g : Nat) (d : DiskV) (bs : List UInt8) (w : World) (e : Ending) (w' : World) : Prop := e = .returned (.int .i64 (wrCode d bs)) ∧ ∃ v v1, Drive B w' g v v1 (wrOut d bs) ∧ Below B w w'
end Go.Proofs.Ythlcgghilmpboaa

set_option linter.unusedVariables false
namespace Go.Proofs.Ythlcgghilmpboaa
open Go.RowKit Go.Maps Go.Deep

def wrV (d : DiskV) (bs : List UInt8) : DiskV := if diskOkB d = true then wrOut d bs else noDisk
def wrI (d : DiskV) (bs : List UInt8) : Int := if diskOkB d = true then wrCode d bs else 1
end Go.Proofs.Ythlcgghilmpboaa

set_option linter.unusedVariables false
namespace Go.Proofs.Ythlcgghilmpboaa
open Go.RowKit Go.Maps Go.Deep

theorem Drive.put4 {B : Nat} {w : World} {g : Nat} {v0 v1 u0 u1 : Value} {D E : DiskV} (h : Drive B w g v0 v1 D) (T : TwoRows B w u0 u1 E.safe E.soft) (n0 : ∀ k, u0.ownBlock = some k → k ≠ g) (n1 : ∀ k, u1.ownBlock = some k → k ≠ g) :
    Drive B ((((w.setCell ⟨g, 0, none⟩ u0).setCell ⟨g, 1, none⟩ u1).setCell ⟨g, 2, none⟩ (.int .i64 E.fuse)).setCell ⟨g, 3, none⟩ (.bool E.down)) g u0 u1 E ∧ Turn [g] w ((((w.setCell ⟨g, 0, none⟩ u0).setCell ⟨g, 1, none⟩ u1).setCell ⟨g, 2, none⟩ (.int .i64 E.fuse)).setCell ⟨g, 3, none⟩ (.bool E.down)) := by
  obtain ⟨h0, h1, h2, h3, hfr, ht⟩ := fill4 w g u0 u1 (.int .i64 E.fuse) (.bool E.down) (fun i hi => match i, hi with | 0, _ => ⟨_, h.c0⟩ | 1, _ => ⟨_, h.c1⟩ | 2, _ => ⟨_, h.c2⟩ | 3, _ => ⟨_, h.c3⟩)
  exact ⟨⟨h.le, Nat.lt_of_lt_of_le h.lt ht.size, h0, h1, h2, h3, fun i hi => (hfr i).trans (h.soft i hi), T.1.turn ht (fun k hk hm => n0 k hk (by simpa using hm)), T.2.1.turn ht (fun k hk hm => n1 k hk (by simpa using hm)), n0, n1, T.2.2⟩, ht⟩
theorem Drive.rdV {B : Nat} {w : World} {g : Nat} {v0 v1 : Value} {D : DiskV} (h : Drive B w g v0 v1 D) : DiskRd w (.agg #[v0, v1, .int .i64 D.fuse, .bool D.down]) D := ⟨_, _, rfl, h.r0.rd, h.r1.rd⟩
/-- from a disk of one's own in a block to what is handed back -/
theorem ret_drive {res : DiskV} {b : Int} {B g : Nat} {w w4 W : World} {v0 v1 : Value} (D : Drive B w4 g v0 v1 res) (hB : w.heap.size + 1 < B) (bw : Below w.heap.size w w4) (ht : Turn [w.heap.size + 1] w4 W) : RetDiskI res b w (.returned (.tuple #[.agg #[v0, v1, .int .i64 res.fuse, .bool res.down], .int .i64 b])) W :=
  retDiskI_two (B := B) (TwoRows.turn ⟨D.r0, D.r1, D.n01⟩ ht (fun k hk => by simp at hk; omega)) (by omega) (bw.trans (ht.below bw.size (fun k hk => by simp at hk; omega)))
theorem ret_two {res : DiskV} {b : Int} {B : Nat} {w w4 W : World} {v0 v1 : Value} (T : TwoRows B w4 v0 v1 res.safe res.soft) (hB : w.heap.size + 1 < B) (bw : Below w.heap.size w w4) (ht : Turn [w.heap.size + 1] w4 W) : RetDiskI res b w (.returned (.tuple #[.agg #[v0, v1, .int .i64 res.fuse, .bool res.down], .int .i64 b])) W :=
  retDiskI_two (B := B) (TwoRows.turn T ht (fun k hk => by simp at hk; omega)) (by omega) (bw.trans (ht.below bw.size (fun k hk => by simp at hk; omega)))
end Go.Proofs.Ythlcgghilmpboaa

set_option linter.unusedVariables false
namespace Go.Proofs.Ythlcgghilmpboaa
open Go.RowKit Go.Maps Go.Deep

theorem small_wrV {d : DiskV} {bs : List UInt8} (h : SmallDisk d) : SmallDisk (wrV d bs) := by
  unfold wrV
  split
  · rename_i hb
    have := disk_small (d := d) hb
    unfold wrOut
    split
    · exact h
    · split
      · exact h
      · unfold actD
        split
        · simp only [SmallDisk, fellD, atD, List.length_append, List.length_take, List.length_nil]
          omega
        · simp only [SmallDisk, atD, List.length_append, List.length_take]
          omega
  · simp [SmallDisk, noDisk]
end Go.Proofs.Ythlcgghilmpboaa

set_option linter.unusedVariables false
namespace Go.Proofs.Ythlcgghilmpboaa
open Go.RowKit Go.Maps Go.Deep

def syncV (d : DiskV) : DiskV := if diskOkB d then cutOut d (d.safe.length + d.soft.length) else noDisk
def syncI (d : DiskV) : Int := if diskOkB d then cutCode d else 1
theorem sync_no {d : DiskV} (h : diskOkB d = false) : syncV d = noDisk ∧ syncI d = 1 := by simp [syncV, syncI, h]
end Go.Proofs.Ythlcgghilmpboaa
