/-
  Two disks that are the same are told as the same. (Made by wip/mkdisklaws.py.)
-/
import Derived.Test.YtbbaiabcapbdoaaDisks
import Derived.Test.YtbbaiabcapbdoaaDiskKit
import Derived.Test.YtbbaiabcapbdoaaByReader
import Derived.Test.YtbbaiabcapbdoaaBoxes
import Derived.Handy
set_option linter.unusedVariables false
namespace Go.Proofs.Ytbbaiabcapbdoaa
open Go.RowKit Go.Maps Go.Deep

set_option maxHeartbeats 3200000 in
theorem peDisk_same (d : DiskV) (v v' : Value) (w : World) (h : DiskRd w v d) (h' : DiskRd w v' d) : Calls Try.prog 8 #[v, v'] w fun e w' => e = .returned (.bool true) ∧ Below w.heap.size w w' := by
  have HC := hide (fun (W : World) (b : Below w.heap.size w W) => And.intro (h.up b) (h'.up b))
  obtain ⟨v0, v1, rfl, h0, h1⟩ := h
  obtain ⟨u0, u1, rfl, k0, k1⟩ := h'
  obtain ⟨p0, p2, rfl⟩ := h0.len
  obtain ⟨p3, p5, rfl⟩ := h1.len
  obtain ⟨q0, q2, rfl⟩ := k0.len
  obtain ⟨q3, q5, rfl⟩ := k1.len
  have CV := hide (fun (W : World) (b : Below w.heap.size w W) => show _ ∧ _ ∧ _ ∧ _ from ⟨conv_back (h0.up b), conv_back (h1.up b), conv_back (k0.up b), conv_back (k1.up b)⟩)
  clear h0 h1 k0 k1 HC
  have x0 := boxF_new4 w (.slice p0 d.safe.length p2) (.slice p3 d.soft.length p5) (.int .i64 d.fuse) (.bool d.down) 24
  have b0 := (Below.refl w.heap.size w).alloc (Nat.le_refl _) (.cells #[.slice p0 d.safe.length p2, .slice p3 d.soft.length p5, .int .i64 d.fuse, .bool d.down] 24)
  have b1 := b0.alloc (by simp) (.cells #[.slice q0 d.safe.length q2, .slice q3 d.soft.length q5, .int .i64 d.fuse, .bool d.down] 24)
  obtain ⟨cv0, cv1, cv2, cv3⟩ := unhide CV _ b1
  have HB := hide b1
  clear x0 b0 b1 CV
  go_enter Try.func8, Try.ntmps8
  go_wp2_with fail
  go_ret
  exact ⟨rfl, unhide HB⟩
end Go.Proofs.Ytbbaiabcapbdoaa
