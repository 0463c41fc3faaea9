/-
  DiskFall and DiskRise of both sides.
-/
/-
  DiskCut of the program, at its face.
-/
import Derived.Test.YthlcgghilmpboaaDrives
import Derived.Test.YthlcgghilmpboaaMerged6
import Derived.Test.YthlcgghilmpboaaDriveCut
set_option linter.unusedVariables false
namespace Go.Proofs.Ythlcgghilmpboaa
open Go.RowKit Go.Maps Go.Deep

def noDisk : DiskV := ⟨[], [], 0, false⟩
def fallB (d : DiskV) (keep : Int) : Bool := diskOkB d && !d.down && decide (0 ≤ keep)
def fallV (d : DiskV) (keep : Int) : DiskV := if fallB d keep then ⟨d.safe ++ d.soft.take keep.toNat, [], -1, true⟩ else noDisk
def riseB (d : DiskV) (fuse : Int) : Bool := diskOkB d && d.down && decide (-1 ≤ fuse) && decide (fuse ≤ 400)
def riseV (d : DiskV) (fuse : Int) : DiskV := if riseB d fuse then ⟨d.safe, [], fuse, false⟩ else noDisk

/-- a disk of one's own, and a bool, are handed back -/
def RetDiskB (res : DiskV) (b : Bool) (w : World) (e : Ending) (w' : World) : Prop := ∃ v S, e = .returned (.tuple #[v, .bool b]) ∧ Hid (DiskOwn S w' v res) ∧ Hid (∀ k ∈ S, w.heap.size ≤ k) ∧ Below w.heap.size w w'
theorem retDisk_no {w w' : World} (hb : Below w.heap.size w w') : RetDiskB noDisk false w (.returned (.tuple #[.agg #[.slice none 0 0, .slice none 0 0, .int .i64 0, .bool false], .bool false])) w' :=
  ⟨_, [], rfl, ⟨_, _, [], [], rfl, rfl, ByOwn.nil _ _ _, ByOwn.nil _ _ _, by simp⟩, by intro k hk; simp at hk, hb⟩
/-- one row, and nothing behind it -/
theorem retDisk_row {res : DiskV} {b : Bool} {w w' : World} {a : Option Addr} {n c : Nat} (hr : ByRow w.heap.size w' (.slice a n c) res.safe) (h0 : res.soft = []) (hb : Below w.heap.size w w') :
    RetDiskB res b w (.returned (.tuple #[.agg #[.slice a n c, .slice none 0 0, .int .i64 res.fuse, .bool res.down], .bool b])) w' := by
  obtain ⟨S, h1, h2, _⟩ := hr.own
  exact ⟨_, S ++ [], rfl, ⟨_, _, S, [], rfl, rfl, h1, by rw [h0]; exact ByOwn.nil _ _ _, by simp⟩, by intro k hk; simp at hk; exact h2 k hk, hb⟩

theorem TwoRows.turn {B : Nat} {S : List Nat} {w w' : World} {v0 v1 : Value} {xs ys : List UInt8} (h : TwoRows B w v0 v1 xs ys) (ht : Turn S w w') (hS : ∀ k ∈ S, k < B) : TwoRows B w' v0 v1 xs ys :=
  ⟨h.1.turn ht (fun k hk hm => by have := h.1.ge k hk; have := hS k hm; omega), h.2.1.turn ht (fun k hk hm => by have := h.2.1.ge k hk; have := hS k hm; omega), h.2.2⟩
theorem retDisk_two {res : DiskV} {b : Bool} {B : Nat} {w w' : World} {v0 v1 : Value} (h : TwoRows B w' v0 v1 res.safe res.soft) (hB : w.heap.size ≤ B) (hb : Below w.heap.size w w') :
    RetDiskB res b w (.returned (.tuple #[.agg #[v0, v1, .int .i64 res.fuse, .bool res.down], .bool b])) w' := by
  obtain ⟨S, h1, h2, h3⟩ := h.1.own
  obtain ⟨T, k1, k2, k3⟩ := h.2.1.own
  exact ⟨_, S ++ T, rfl, ⟨_, _, S, T, rfl, rfl, h1, k1, fun k hk hm => h.2.2 k (h3 k hk) (k3 k hm)⟩, by intro k hk; rcases List.mem_append.1 hk with hk | hk; exact Nat.le_trans hB (h2 k hk); exact Nat.le_trans hB (k2 k hk), hb⟩

theorem BoxF.below {B : Nat} {w w' : World} {g : Nat} {xs : List Value} (h : BoxF w g xs) (hb : Below B w w') (hg : g < B) : BoxF w' g xs :=
  ⟨⟨Nat.lt_of_lt_of_le h.1.1 hb.size, fun i v hv => (hb.cell (by exact hg)).trans (h.1.2 i v hv)⟩, fun i hi => (hb.frozen (by exact hg)).trans (h.2 i hi)⟩
theorem drive_new {d : DiskV} {B : Nat} {w : World} {v0 v1 : Value} (h : TwoRows B w v0 v1 d.safe d.soft) (hB : B ≤ w.heap.size) (T : TypeId) : Drive B (w.alloc (.cells #[v0, v1, .int .i64 d.fuse, .bool d.down] T)) w.heap.size v0 v1 d := by
  have hb := (Below.refl w.heap.size w).alloc (Nat.le_refl _) (.cells #[v0, v1, .int .i64 d.fuse, .bool d.down] T)
  obtain ⟨⟨c0, c1, c2, c3⟩, f0, f1, f2, f3⟩ := (boxF_new4 w v0 v1 (.int .i64 d.fuse) (.bool d.down) T).four
  exact ⟨hB, by simp, c0, c1, c2, c3, fun i hi => match i, hi with | 0, _ => f0 | 1, _ => f1 | 2, _ => f2 | 3, _ => f3, h.1.up hb, h.2.1.up hb, fun k hk e => by have := h.1.lt k hk; omega, fun k hk e => by have := h.2.1.lt k hk; omega, h.2.2⟩
theorem cut_in {w : World} {a : Option Addr} {m c : Nat} {bs : List UInt8} (h : ByRd w (.slice a m c) bs) (n : Nat) (hn : n ≤ bs.length) : ByRd w (.slice a n c) (bs.take n) := by
  obtain ⟨a', c', e, hin, hcap⟩ := h
  simp only [Value.slice.injEq] at e
  obtain ⟨rfl, rfl, rfl⟩ := e
  refine ⟨a, c, by simp [Nat.min_eq_left hn], ?_, by simp; omega⟩
  rcases hin with rfl | ⟨b, off, e, hb, hc⟩
  · exact .inl (by simp)
  · exact .inr ⟨b, off, e, hb, fun i hi => by
      simp at hi
      rw [List.getElem_take]
      exact hc i (by omega)⟩

end Go.Proofs.Ythlcgghilmpboaa

set_option linter.unusedVariables false
namespace Go.Proofs.Ythlcgghilmpboaa
open Go.RowKit Go.Maps Go.Deep

def cutGood (d : DiskV) (at' : Int) : Bool := diskOkB d && decide (0 ≤ at') && decide (at' ≤ (d.safe.length + d.soft.length : Nat))
def cutV (d : DiskV) (at' : Int) : DiskV := if cutGood d at' then cutOut d at'.toNat else noDisk
def cutI (d : DiskV) (at' : Int) : Int := if cutGood d at' then cutCode d else 1
/-- a disk of one's own, and a number, are handed back -/
def RetDiskI (res : DiskV) (b : Int) (w : World) (e : Ending) (w' : World) : Prop := ∃ v S, e = .returned (.tuple #[v, .int .i64 b]) ∧ Hid (DiskOwn S w' v res) ∧ Hid (∀ k ∈ S, w.heap.size ≤ k) ∧ Below w.heap.size w w'
theorem retDiskI_no {b : Int} {w w' : World} (hb : Below w.heap.size w w') : RetDiskI noDisk b w (.returned (.tuple #[.agg #[.slice none 0 0, .slice none 0 0, .int .i64 0, .bool false], .int .i64 b])) w' :=
  ⟨_, [], rfl, ⟨_, _, [], [], rfl, rfl, ByOwn.nil _ _ _, ByOwn.nil _ _ _, by simp⟩, by intro k hk; simp at hk, hb⟩
theorem retDiskI_two {res : DiskV} {b : Int} {B : Nat} {w w' : World} {v0 v1 : Value} (h : TwoRows B w' v0 v1 res.safe res.soft) (hB : w.heap.size ≤ B) (hb : Below w.heap.size w w') :
    RetDiskI res b w (.returned (.tuple #[.agg #[v0, v1, .int .i64 res.fuse, .bool res.down], .int .i64 b])) w' := by
  obtain ⟨S, h1, h2, h3⟩ := h.1.own
  obtain ⟨T, k1, k2, k3⟩ := h.2.1.own
  exact ⟨_, S ++ T, rfl, ⟨_, _, S, T, rfl, rfl, h1, k1, fun k hk hm => h.2.2 k (h3 k hk) (k3 k hm)⟩, by intro k hk; rcases List.mem_append.1 hk with hk | hk; exact Nat.le_trans hB (h2 k hk); exact Nat.le_trans hB (k2 k hk), hb⟩
theorem cut_no {d : DiskV} {at' : Int} (h : cutGood d at' = false) : cutV d at' = noDisk ∧ cutI d at' = 1 := by simp [cutV, cutI, h]
theorem diskOk_fuse {d : DiskV} (h : diskOkB d = true) : -1 ≤ d.fuse ∧ d.fuse ≤ 400 := by
  simp only [diskOkB, Bool.and_eq_true, decide_eq_true_eq] at h
  exact ⟨h.1.1.2, h.1.2⟩
end Go.Proofs.Ythlcgghilmpboaa
