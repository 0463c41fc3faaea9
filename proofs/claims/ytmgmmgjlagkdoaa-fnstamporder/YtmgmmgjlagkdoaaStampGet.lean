/-
  StampGet of both sides.
-/
import Derived.Test.YtmgmmgjlagkdoaaStampI
import Derived.Test.YtmgmmgjlagkdoaaStampGetM
set_option linter.unusedVariables false
namespace Go.Proofs.Ytmgmmgjlagkdoaa
open Go.RowKit Go.Maps Go.Deep

def getOut (ns : List MarkV) (s : ByteArray) : Int := if mstampB ns then getV ns s else 0
theorem specGet_any (ns : List MarkV) (v : Value) (s : ByteArray) (w : World) (hs : SmallMarkS ns) (_ : s.size ≤ 1048576) (h : MarkSRd w v ns) : Calls Try.prog 11 #[v, .string s] w fun e w' => e = .returned (.int .i64 (getOut ns s)) ∧ Below w.heap.size w w' := by
  have HO := hide (fun W (b : Below w.heap.size w W) => specStampOk_any ns v W hs (h.up b))
  have HG := hide (fun W (b : Below w.heap.size w W) => l13Get_any ns v s W hs (h.up b))
  obtain ⟨a, n, c, rfl⟩ := h.form
  clear h hs
  unfold getOut
  cases hb : mstampB ns
  all_goals
    rw [hb] at HO
    clear hb
    go_enter Try.func11, Try.ntmps11
    go_wp2_with fail
    refine (unhide HO _ (Below.refl _ _)).mono ?_
    rintro e w1 ⟨rfl, b1⟩
    have B1 := hide b1
    clear b1
    go_wp2_with fail
  · go_ret
    exact ⟨rfl, unhide B1⟩
  · refine (unhide HG _ (unhide B1)).mono ?_
    rintro e w2 ⟨rfl, hw⟩
    rw [hw]
    clear hw
    go_wp2_with fail
    go_ret
    exact ⟨rfl, unhide B1⟩
theorem implGet_any (ns : List MarkV) (v : Value) (s : ByteArray) (w : World) (hs : SmallMarkS ns) (_ : s.size ≤ 1048576) (h : MarkSRd w v ns) : Calls Try.prog 10 #[v, .string s] w fun e w' => e = .returned (.int .i64 (getOut ns s)) ∧ Below w.heap.size w w' := by
  have HO := hide (fun W (b : Below w.heap.size w W) => implStampOk_any ns v W hs (h.up b))
  have HG := hide (fun W (b : Below w.heap.size w W) => verIn_any ns v s W hs (h.up b))
  obtain ⟨a, n, c, rfl⟩ := h.form
  clear h hs
  unfold getOut
  cases hb : mstampB ns
  all_goals
    rw [hb] at HO
    clear hb
    go_enter Try.func10, Try.ntmps10
    go_wp2_with fail
    refine (unhide HO _ (Below.refl _ _)).mono ?_
    rintro e w1 ⟨rfl, b1⟩
    have B1 := hide b1
    clear b1
    go_wp2_with fail
  · go_ret
    exact ⟨rfl, unhide B1⟩
  · refine (unhide HG _ (unhide B1)).mono ?_
    rintro e w2 ⟨rfl, b2⟩
    have B2 := hide ((unhide B1).trans (b2.mono (unhide B1).size))
    clear b2
    go_wp2_with fail
    go_ret
    exact ⟨rfl, unhide B2⟩
end Go.Proofs.Ytmgmmgjlagkdoaa
