/-
  DiskCut of the program, at its face.
-/
import Derived.Test.YtbbaiabcapbdoaaDriveCut
import Derived.Test.YtbbaiabcapbdoaaDiskFall
set_option linter.unusedVariables false
namespace Go.Proofs.Ytbbaiabcapbdoaa
open Go.RowKit Go.Maps Go.Deep

def cutGood (d : DiskV) (at' : Int) : Bool := diskOkB d && decide (0 ≤ at') && decide (at' ≤ (d.safe.length + d.soft.length : Nat))
def cutV (d : DiskV) (at' : Int) : DiskV := if cutGood d at' then cutOut d at'.toNat else noDisk
def cutI (d : DiskV) (at' : Int) : Int := if cutGood d at' then cutCode d else 1
/-- a disk of one's own, and a number, are handed back -/
def RetDiskI (res : DiskV) (b : Int) (w : World) (e : Ending) (w' : World) : Prop := ∃ v S, e = .returned (.tuple #[v, .int .i64 b]) ∧ Hid (DiskOwn S w' v res) ∧ Hid (∀ k ∈ S, w.heap.size ≤ k) ∧ Below w.heap.size w w'
theorem retDiskI_no {b : Int} {w w' : World} (hb : Below w.heap.size w w') : RetDiskI noDisk b w (.returned (.tuple #[.agg #[.slice none 0 0, .slice none 0 0, .int .i64 0, .bool false], .int .i64 b])) w' :=
  ⟨_, [], rfl, ⟨_, _, [], [], rfl, rfl, ByOwn.nil _ _ _, ByOwn.nil _ _ _, by simp⟩, by intro k hk; simp at hk, hb⟩
theorem retDiskI_two {res : DiskV} {b : Int} {B : Nat} {w w' : World} {v0 v1 : Value} (h : TwoRows B w' v0 v1 res.safe res.soft) (hB : w.heap.size ≤ B) (hb : Below w.heap.size w w') :
    RetDiskI res b w (.returned (.tuple #[.agg #[v0, v1, .int .i64 res.fuse, .bool res.down], .int .i64 b])) w' := by
  obtain ⟨S, h1, h2, h3⟩ := h.1.own
  obtain ⟨T, k1, k2, k3⟩ := h.2.1.own
  exact ⟨_, S ++ T, rfl, ⟨_, _, S, T, rfl, rfl, h1, k1, fun k hk hm => h.2.2 k (h3 k hk) (k3 k hm)⟩, by intro k hk; rcases List.mem_append.1 hk with hk | hk; exact Nat.le_trans hB (h2 k hk); exact Nat.le_trans hB (k2 k hk), hb⟩
theorem cut_no {d : DiskV} {at' : Int} (h : cutGood d at' = false) : cutV d at' = noDisk ∧ cutI d at' = 1 := by simp [cutV, cutI, h]
theorem diskOk_fuse {d : DiskV} (h : diskOkB d = true) : -1 ≤ d.fuse ∧ d.fuse ≤ 400 := by
  simp only [diskOkB, Bool.and_eq_true, decide_eq_true_eq] at h
  exact ⟨h.1.1.2, h.1.2⟩
end Go.Proofs.Ytbbaiabcapbdoaa
