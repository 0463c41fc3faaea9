/-
  FrameRead of the specification.
-/
import Derived.Test.YtmblbnookfhgdaaFrameSz
import Derived.BigQuiet
import Derived.Deep.QuietTactic
import Derived.Handy
set_option linter.unusedVariables false
namespace Go.Proofs.Ytmblbnookfhgdaa
open Go.RowKit Go.Maps Go.Deep

theorem frameOut_len (bs : List UInt8) : (frameOut bs).length ≤ bs.length := by
  unfold frameOut frameBody
  split
  · simp; omega
  · simp
theorem sz_cases (bs : List UInt8) : frameSz bs = -1 ∨ frameSz bs = 0 ∨ (6 ≤ frameSz bs ∧ frameSz bs ≤ 265) := by
  unfold frameSz
  split
  · exact .inl rfl
  · split
    · exact .inr (.inl rfl)
    · split
      · right; right; omega
      · exact .inl rfl
theorem ok_no {bs : List UInt8} (h : frameSz bs < 1 ∨ frameSz bs ≠ bs.length) : frameOk bs = false := by
  unfold frameOk
  rcases sz_cases bs with e | e | e
  · simp; omega
  · simp; omega
  · simp; omega
end Go.Proofs.Ytmblbnookfhgdaa
