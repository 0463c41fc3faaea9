/-
  FrameBytes of the specification.
-/
import Derived.Test.YtongnlbdpfhngaaFrameMath
import Derived.Handy
set_option linter.unusedVariables false
namespace Go.Proofs.Ytongnlbdpfhngaa
open Go.RowKit Go.Maps Go.Deep

theorem byRow1 (w : World) (c : UInt8) (B : Nat) (hB : B ≤ w.heap.size) : ByRow B (w.alloc (.cells #[.int .u8 (c.toNat : Int)] 5)) (.slice (some ⟨w.heap.size, 0, none⟩) 1 1) [c] := by
  have := World.ownsRow_lit (size := 1) (base := B) (e := 5) w #[.int .u8 (c.toNat : Int)] 1 hB (by unfold maxLen; omega) rfl
  unfold ByRow
  simp only [List.map, byV]
  exact this
theorem hd_len (body : List UInt8) : (frameHd body).length = 3 := by simp [frameHd, beL_length]
theorem frameL_len (body : List UInt8) : (frameL body).length ≤ 1000 := by
  unfold frameL
  split
  · rename_i h
    simp [frameFitB] at h
    simp [hd_len, beL_length]
    omega
  · simp
end Go.Proofs.Ytongnlbdpfhngaa
