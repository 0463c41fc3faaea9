/-
  WindowOk of the program.
-/
import Derived.Test.YtpnpgieeiblpfaaWinOf
set_option linter.unusedVariables false
namespace Go.Proofs.Ytpnpgieeiblpfaa
open Go.RowKit Go.Maps Go.Deep

theorem retWin_form {w : World} {ns : List ItemV} {e : Ending} {w' : World} (h : RetWin w ns e w') : ∃ p, e = .returned (.tuple #[p, .bool (windowB orderOut ns)]) := by
  rcases h with ⟨h1, h2⟩ | ⟨h1, g, xs, h2, _⟩
  · exact ⟨_, by rw [h1]; exact h2⟩
  · exact ⟨_, by rw [h1]; exact h2⟩
set_option maxHeartbeats 1600000 in
theorem implWindow_any (ns : List ItemV) (v : Value) (w : World) (hs : SmallItemS ns) (h : ItemSRd w v ns) : Calls Try.prog 62 #[v] w fun e w' => e = .returned (.bool (windowB orderOut ns)) ∧ Below w.heap.size w w' := by
  have HW := hide (fun W (b : Below w.heap.size w W) => windowOf_any ns v W hs (h.up b))
  obtain ⟨a, n, c, rfl⟩ := h.form
  clear h hs
  go_enter Try.func62, Try.ntmps62
  go_wp2_with fail
  refine (unhide HW _ (Below.refl _ _)).mono ?_
  rintro e w1 ⟨HR, b1⟩
  obtain ⟨p, rfl⟩ := retWin_form (unhide HR)
  have B1 := hide b1
  clear b1 HR
  obtain ⟨r, HRR⟩ : ∃ r, Hid (windowB orderOut ns = r) := ⟨_, rfl⟩
  rw [unhide HRR]
  go_wp2_with fail
  go_ret
  exact ⟨ret_bool (unhide HRR).symm, unhide B1⟩
theorem specWindow_ok (ns : List ItemV) (v : Value) (w : World) (hs : SmallItemS ns) (h : ItemSRd w v ns) : Calls Try.prog 48 #[v] w fun e w' => e = .returned (.bool (windowB orderOut ns)) ∧ Below w.heap.size w w' := specWindow_any orderOut ordSaid ns v w hs h
end Go.Proofs.Ytpnpgieeiblpfaa
