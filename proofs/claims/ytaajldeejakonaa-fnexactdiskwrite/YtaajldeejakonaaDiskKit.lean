/-
  The laws' helpers over disks, in the form in which the walks of exact laws take them.
-/
import Derived.Test.YtaajldeejakonaaDiskLaw
import Derived.Test.YtaajldeejakonaaByKit
set_option linter.unusedVariables false
namespace Go.Proofs.Ytaajldeejakonaa
open Go.RowKit Go.Maps Go.Deep

def SmallDisk (d : DiskV) : Prop := d.safe.length ≤ 1048576 ∧ d.soft.length ≤ 1048576
def nDisk (d : DiskV) : Nat := d.safe.length + d.soft.length
theorem nDisk_le {d : DiskV} (h : SmallDisk d) : nDisk d ≤ 100000000 := by unfold SmallDisk at h; unfold nDisk; omega
theorem DiskRd.form {w : World} {v : Value} {d : DiskV} (h : DiskRd w v d) : ∃ a0 n0 c0 a1 n1 c1 fs dn, v = .agg #[.slice a0 n0 c0, .slice a1 n1 c1, .int .i64 fs, .bool dn] := by
  obtain ⟨v0, v1, rfl, h0, h1⟩ := h
  obtain ⟨a0, c0, rfl⟩ := h0.len
  obtain ⟨a1, c1, rfl⟩ := h1.len
  exact ⟨_, _, _, _, _, _, _, _, rfl⟩
theorem szDisk_kit (d : DiskV) (v : Value) (w : World) (hf : DiskFit d) (h : DiskRd w v d) :
    Calls Try.prog 4 #[v, .int .i64 1048576] w fun e w' => ∃ q : Int, e = .returned (.int .i64 q) ∧ Hid (0 ≤ q → SmallDisk d) ∧ Below w.heap.size w w' := by
  obtain ⟨v0, v1, rfl, ⟨a0, c0, rfl, _⟩, ⟨a1, c1, rfl, _⟩⟩ := h
  exact szDisk_any d a0 a1 c0 c1 w hf
theorem toDisk_kit (d : DiskV) (v : Value) (w : World) (hs : SmallDisk d) (h : DiskRd w v d) :
    Calls Try.prog 6 #[v] w fun e w' => ∃ v S, e = .returned v ∧ Hid (DiskOwn S w' v d) ∧ Hid (∀ k ∈ S, w.heap.size ≤ k) ∧ Below w.heap.size w w' := toDisk_any d v w hs.1 hs.2 h
theorem eqDisk_kit (d : DiskV) (v v' : Value) (w : World) (hs : SmallDisk d) (h : DiskRd w v d) (h' : DiskRd w v' d) :
    Calls Try.prog 9 #[v, v'] w fun e w' => e = .returned (.bool true) ∧ Below w.heap.size w w' := eqDisk_same d v v' w (by have := hs.1; unfold maxLen; omega) (by have := hs.2; unfold maxLen; omega) h h'
def marksDisk (k : Nat) (d : DiskV) : DiskV := diskMarks k d
theorem markDisk_kit (S : List Nat) (d : DiskV) (v : Value) (w : World) (k n : Nat) (K : Int) (hK : K = (k : Int)) (hn : nDisk d = n) (hk : k ≤ 1000000000) (hs : SmallDisk d) (h : DiskOwn S w v d) :
    Calls Try.prog 11 #[v, .int .i64 K] w fun e w' => e = .returned (.int .i64 (K + (n : Int))) ∧ Hid (DiskOwn S w' v (marksDisk k d) ∧ Turn S w w') := by
  subst hK hn
  have := markDisk_any S w v d k hk hs.1 hs.2 h
  rw [Nat.add_assoc] at this
  exact this
theorem heldDisk_kit (d : DiskV) (v : Value) (w : World) (k n : Nat) (K : Int) (hK : K = (k : Int)) (hn : nDisk d = n) (hk : k ≤ 1000000000) (hs : SmallDisk d) (h : DiskRd w v (marksDisk k d)) :
    Calls Try.prog 13 #[v, .int .i64 K] w fun e w' => e = .returned (.int .i64 (K + (n : Int))) ∧ Below w.heap.size w w' := by
  subst hK hn
  have := heldDisk_any w v d k hk hs.1 hs.2 h
  rw [Nat.add_assoc] at this
  exact this
end Go.Proofs.Ytaajldeejakonaa
