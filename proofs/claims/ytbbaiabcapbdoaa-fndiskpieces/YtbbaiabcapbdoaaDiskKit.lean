/-
  The laws' helpers over disks, in the form in which the walks of exact laws take them.
-/
import Derived.Test.YtbbaiabcapbdoaaDiskLaw
import Derived.Test.YtbbaiabcapbdoaaByKit
set_option linter.unusedVariables false
namespace Go.Proofs.Ytbbaiabcapbdoaa
open Go.RowKit Go.Maps Go.Deep

def SmallDisk (d : DiskV) : Prop := d.safe.length ≤ 1048576 ∧ d.soft.length ≤ 1048576
def nDisk (d : DiskV) : Nat := d.safe.length + d.soft.length
theorem nDisk_le {d : DiskV} (h : SmallDisk d) : nDisk d ≤ 100000000 := by unfold SmallDisk at h; unfold nDisk; omega
theorem DiskRd.form {w : World} {v : Value} {d : DiskV} (h : DiskRd w v d) : ∃ a0 n0 c0 a1 n1 c1 fs dn, v = .agg #[.slice a0 n0 c0, .slice a1 n1 c1, .int .i64 fs, .bool dn] := by
  obtain ⟨v0, v1, rfl, h0, h1⟩ := h
  obtain ⟨a0, c0, rfl⟩ := h0.len
  obtain ⟨a1, c1, rfl⟩ := h1.len
  exact ⟨_, _, _, _, _, _, _, _, rfl⟩
end Go.Proofs.Ytbbaiabcapbdoaa
