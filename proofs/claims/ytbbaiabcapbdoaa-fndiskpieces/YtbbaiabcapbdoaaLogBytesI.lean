/-
  LogBytes of the program; both sides at any list.
-/
import Derived.Test.YtbbaiabcapbdoaaLogBytes
set_option linter.unusedVariables false
namespace Go.Proofs.Ytbbaiabcapbdoaa
open Go.RowKit Go.Maps Go.Deep

theorem log_long {rs : List RecV} (h : ¬ rs.length ≤ 200) : logOkB rs = false ∧ logOut rs = [] := ret_log_no (by simp [logAll, h])
theorem specLog_any (rs : List RecV) (v : Value) (w : World) (hs : SmallRecS rs) (h : RecSRd w v rs) : Calls Try.prog 32 #[v] w fun e w' => RetLog rs w e w' := by
  obtain ⟨a, c, rfl, h⟩ := h
  by_cases hl : rs.length ≤ 200
  · rcases h with rfl | ⟨b, off, rfl, hb, hc⟩
    · go_enter Try.func32, Try.ntmps32
      go_wp2
      refine wp_loop_rounds 1 ?_
      rw [rounds_succ]
      go_wp2
      go_ret2
      exact ⟨none, 0, 0, rfl, ByRow.nil _ _, Below.refl _ _⟩
    · exact specLog_row w b off c rs hl hb hc hs.2
  · have HE := hide (log_long hl)
    have hl2 : 200 < (rs.length : Int) := by omega
    have hl3 := hs.1.1
    clear hs h hl
    generalize rs.length = n at *
    go_enter Try.func32, Try.ntmps32
    go_wp2_with fail
    go_ret2
    exact ⟨none, 0, 0, by rw [(unhide HE).1]; rfl, by rw [(unhide HE).2]; exact ByRow.nil _ _, Below.refl _ _⟩
end Go.Proofs.Ytbbaiabcapbdoaa
