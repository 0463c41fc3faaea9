/-
  FrameSize of both sides.
-/
import Derived.Test.YtmblbnookfhgdaaFrameMath
set_option linter.unusedVariables false
namespace Go.Proofs.Ytmblbnookfhgdaa
open Go.RowKit Go.Maps Go.Deep

theorem sz_none : frameSz [] = 0 := rfl
theorem sz_mark {bs : List UInt8} (h : 1 ≤ bs.length) (h2 : byN bs 0 ≠ 245) : frameSz bs = -1 := by simp [frameSz, h, h2]
theorem sz_few {bs : List UInt8} (h2 : byN bs 0 = 245) (h3 : bs.length < 3) : frameSz bs = 0 := by simp [frameSz, h2, h3]
theorem sz_else {bs : List UInt8} (h2 : byN bs 0 = 245) (h3 : ¬ bs.length < 3) : frameSz bs = if 1 ≤ headN bs ∧ headN bs ≤ 260 then headN bs + 5 else -1 := by simp [frameSz, h2, h3]
theorem headN_range (bs : List UInt8) : 0 ≤ headN bs ∧ headN bs ≤ 65535 := by
  have := byN_lt bs 1
  have := byN_lt bs 2
  unfold headN
  omega
end Go.Proofs.Ytmblbnookfhgdaa
