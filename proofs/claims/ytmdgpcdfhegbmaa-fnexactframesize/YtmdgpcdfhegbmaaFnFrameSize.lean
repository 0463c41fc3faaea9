/-
  Proved: at every list of bytes the law on FrameSize answers true, and the list reads afterwards as before: the program tells how long a frame is by its head as the specification does, and writes into no argument. No condition.
-/
import Derived.Test.YtmdgpcdfhegbmaaFrameSzI
import Derived.Test.YtmdgpcdfhegbmaaByArg
import Derived.Test.YtmdgpcdfhegbmaaRows
import Derived.WalkKit
import Derived.ProofKit
import Derived.OpenShut
namespace Go.Proofs.Ytmdgpcdfhegbmaa.fnExactFrameSize
open Go.ChangeShapes Go.WideShapes Go.ChangeAt Go.RowKit Go.Deep Go.Maps
set_option linter.unusedVariables false

set_option maxHeartbeats 1600000 in
theorem walk (a : Option Addr) (cap : Nat) (bs : List UInt8) (w : World) (hl : bs.length ≤ maxLen) (hn : ByIn w a bs) :
    Calls Try.prog 3 #[.slice a bs.length cap] w fun e w' => e = .returned (.bool true) ∧ Below w.heap.size w w' := by
  have HN := hide hn
  have HL := hide hl
  unfold maxLen at hl
  clear hn
  by_cases h0 : (bs.length : Int) ≤ 1048576
  · have h1 : bs.length ≤ 1048576 := by omega
    go_enter Try.func3, Try.ntmps3
    go_wp2_with fail
    refine (toByteS_own w a cap bs h1 (unhide HN)).mono ?_
    rintro e w1 ⟨rfl, m1, z1, b1⟩
    have M1 := hide m1
    have B1 := hide b1
    clear m1 b1
    go_wp2_with fail
    refine (specSz_any _ bs w1 h1 (unhide M1).rd).mono ?_
    rintro e w2 ⟨rfl, hw⟩
    subst hw
    go_wp2_with fail
    refine (toByteS_own _ a cap bs h1 ((unhide HN).up (unhide B1))).mono ?_
    rintro e w3 ⟨rfl, m3, z3, b3⟩
    have M3 := hide m3
    have B3 := hide ((unhide B1).trans (b3.mono (unhide B1).size))
    clear m3 b3
    go_wp2_with fail
    refine (implSz_any _ bs w3 h1 (unhide M3).rd).mono ?_
    rintro e w4 ⟨rfl, b4⟩
    have M4 := hide ((unhide M3).up b4)
    have B4 := hide ((unhide B3).trans (b4.mono (unhide B3).size))
    clear b4
    go_wp2_with fail
    refine (toByteS_own _ a cap bs h1 ((unhide HN).up (unhide B4))).mono ?_
    rintro e w5 ⟨rfl, m5, z5, b5⟩
    have M5 := hide m5
    have M35 := hide ((unhide M4).up b5)
    have B5 := hide ((unhide B4).trans (b5.mono (unhide B4).size))
    clear m5 b5
    go_wp2_with fail
    refine (eqByteS_same _ _ _ bs (unhide HL) (unhide M35).rd (unhide M5).rd).mono ?_
    rintro e w6 ⟨rfl, b6⟩
    have B6 := hide ((unhide B5).trans (b6.mono (unhide B5).size))
    clear b6
    go_wp2_with fail
    go_ret
    exact ⟨rfl, unhide B6⟩
  · go_enter Try.func3, Try.ntmps3
    go_wp2_with fail
    go_ret
    exact ⟨rfl, Below.refl _ _⟩

theorem own : ownKnob Try.prog.godebug = none := by kernel_rfl
theorem laidOut : laidOutB Try.prog = true := by kernel_rfl

set_option maxRecDepth 100000 in
theorem lifted (os : Os) (started : os.Started) (H : Type) (enc : TypeId × Value → H) :
    ReturnsInHanded {} Try.checked os 3 .any (Rows.fnExactFrameSizeSpec.pre6 enc Try.prog Try.f3 Rows.fnExactFrameSizeRow.domain false) (Rows.fnExactFrameSizeSpec.post enc Try.prog Try.f3 false true false false) := by
  refine returnsInHanded_of_change (C := Try.checked) own started (by kernel_rfl) Try.func3
    (ChangeSpec.witness6 (enc := enc) (C := Try.checked) false ⟨#[], #[.slice none 0 0], []⟩ 8 (by kernel_rfl) (by kernel_rfl) (by kernel_rfl) (by kernel_rfl)) ?_
  intro W base args ds gs before hval0 hW hcnd _
  have hval : ∀ (j : Nat) t v, Try.f3.params[j]? = some t → args[j]? = some v → Value.okWide Try.prog W .any base t v := hval0
  have hW' := hW
  obtain ⟨p, q, hA0, hV, rfl, hfz, hnd⟩ := hW
  have hA : DataW.TrodAll enc Try.prog W 0 (fun _ => true) true Try.f3.params.toList args.toList ds p := hA0
  rw [Try.params3] at hA hval
  obtain ⟨v0, d0, rfl, rfl, h0⟩ := trodAll_one hA
  obtain ⟨rfl, rfl⟩ := trodVars_none hV
  obtain ⟨a0, len0, cap0, rfl⟩ := okWide_slice Try.underlying22 (hval 0 22 v0 rfl rfl)
  obtain ⟨bs, rfl, hl, hlc, hn⟩ := open_byteS h0
  have k0 := h0
  have lt0 : ∀ x ∈ p, x.block < W.heap.size := by obtain ⟨m, hm⟩ := k0; exact DataW.trod_lt m _ _ _ hm
  clear hA0 hval0
  refine (walk a0 cap0 bs W hl hn).mono fun e W' ⟨he, bel⟩ => ?_
  subst he
  exact ⟨_, rfl, _, _, _, [], _, [], hW', trodAll_mk1 (shut_bool Try.underlying4 _), trodAll_mk1 (Below.trod laidOut (by kernel_rfl) (of_decide_eq_true (by kernel_rfl)) k0 bel lt0), rfl, bel.frame _, fun h => by cases h⟩

theorem over : Rows.fnExactFrameSizeRow.holds Try.pinned (OpenSpec.ofChange Rows.fnExactFrameSizeSpec) :=
  OpenClaim.holds_of_wide 3 Try.f3 rfl rfl rfl rfl rfl rfl rfl ⟨rfl, rfl, rfl, rfl, rfl⟩ rfl rfl rfl rfl rfl (by kernel_rfl) Try.func3 (by kernel_rfl)
    (of_decide_eq_true (by kernel_rfl)) (by unfold Func.isWrapper; first | (rw [if_pos (by decide +kernel)]; kernel_rfl) | (rw [if_neg (by decide +kernel)]; exact ⟨rfl, rfl⟩))
    (fun os started H enc _ => lifted os started H enc)

end Go.Proofs.Ytmdgpcdfhegbmaa.fnExactFrameSize

namespace Go.Proofs.Ytmdgpcdfhegbmaa
theorem fnExactFrameSize_holds : Rows.FnExactFrameSizeSaid :=
  fnExactFrameSize.over
end Go.Proofs.Ytmdgpcdfhegbmaa
