/-
  Proved: at every list of bytes the law on SplitSays answers true, and the list reads afterwards as before: the program tells the words of a whole stream as the specification does, and its answer owns its memory. No condition.
-/
import Derived.Test.YtlgmmibncoedgaaMerged58
import Derived.Test.YtlgmmibncoedgaaMerged51
import Derived.Test.YtlgmmibncoedgaaSayRowM
import Derived.Test.YtlgmmibncoedgaaMerged7
import Derived.Test.YtlgmmibncoedgaaMerged5
import Derived.Test.YtlgmmibncoedgaaRows
import Derived.WalkKit
import Derived.ProofKit
import Derived.OpenShut
import Derived.Handy
namespace Go.Proofs.Ytlgmmibncoedgaa.fnExactSplitSays
open Go.ChangeShapes Go.WideShapes Go.ChangeAt Go.RowKit Go.Deep Go.Maps
set_option linter.unusedVariables false

theorem spec_kit (bs : List UInt8) (v : Value) (w : World) (hs : SmallByteS bs) (h : ByRd w v bs) :
    Calls Try.prog 21 #[v] w fun e w' => ∃ v, e = .returned (.tuple #[v, .int .i64 (saysI bs)]) ∧ Hid (SaySRd w' v (saysOut bs)) ∧ Below w.heap.size w w' := by
  refine (specSays_any bs v w hs h).mono ?_
  rintro e w' ⟨v, S, rfl, h1, _, h2⟩
  exact ⟨v, rfl, hide (unhide h1).rd, h2⟩

set_option maxHeartbeats 12800000 in
theorem walk (bs : List UInt8) (v_bs : Value) (w : World) (hf_bs : ByFit bs) (hr_bs : ByRd w v_bs bs) :
    Calls Try.prog 6 #[v_bs] w fun e w' => e = .returned (.bool true) ∧ Below w.heap.size w w' := by
  have HF_bs := hide hf_bs
  clear hf_bs
  have HR_bs := hide hr_bs
  obtain ⟨p_bs0, p_bs1, p_bs2, rfl⟩ := hr_bs.form
  clear hr_bs
  go_enter Try.func6, Try.ntmps6
  have B00 := hide (Below.refl w.heap.size w)
  by_cases hl_bs : (p_bs1 : Int) ≤ 1048576
  rotate_left
  · go_wp2_with fail
    go_ret
    exact ⟨rfl, by go_grown⟩
  have HS1 := hide (small_of_len (unhide HR_bs) hl_bs)
  obtain ⟨N_bs, HN_bs⟩ : ∃ N, Hid (nByteS bs = N) := ⟨_, rfl⟩
  have NL_bs : N_bs ≤ 100000000 := by rw [← unhide HN_bs]; exact nByteS_le (unhide HS1)
  have HRS0 := hide (show SmallSayS (saysOut bs) from small_says bs)
  obtain ⟨M_0, HM_0⟩ : ∃ N, Hid (nSayS (saysOut bs) = N) := ⟨_, rfl⟩
  have ML_0 : M_0 ≤ 100000000 := by rw [← unhide HM_0]; exact nSayS_le (unhide HRS0)
  go_wp2_with fail
  refine (toByteS_kit bs _ w (unhide HS1) ((unhide HR_bs).up (unhide B00))).mono ?_
  rintro e w2 ⟨v3, S4, rfl, O5, L6, b7⟩
  have B8 := hide ((unhide B00).trans (b7.mono (unhide B00).size))
  clear B00
  have Z9 := hide (show w.heap.size ≤ w2.heap.size from b7.size)
  clear b7
  have H10 := hide (unhide O5).lt
  go_wp2_with fail
  refine (spec_kit bs _ w2 (unhide HS1) (unhide O5).rd).mono ?_
  rintro e w11 ⟨v13, rfl, U14, b12⟩
  clear O5
  have B15 := hide ((unhide B8).trans (b12.mono (unhide B8).size))
  clear B8
  have Z16 := hide (show w2.heap.size ≤ w11.heap.size from b12.size)
  clear b12
  obtain ⟨q_w0_0, q_w0_1, q_w0_2, rfl⟩ := (unhide U14).form
  have BU17 := hide (Below.refl w11.heap.size w11)
  go_wp2_with fail
  refine (toByteS_kit bs _ w11 (unhide HS1) ((unhide HR_bs).up (unhide B15))).mono ?_
  rintro e w18 ⟨v19, S20, rfl, O21, L22, b23⟩
  have B24 := hide ((unhide B15).trans (b23.mono (unhide B15).size))
  clear B15
  have BU25 := hide ((unhide BU17).trans (b23.mono (unhide BU17).size))
  clear BU17
  have Z26 := hide (show w11.heap.size ≤ w18.heap.size from b23.size)
  clear b23
  have H27 := hide (unhide O21).lt
  obtain ⟨r_bs0, r_bs1, r_bs2, rfl⟩ := (unhide O21).rd.form
  go_wp2_with fail
  refine (implSays_any bs _ w18 (unhide HS1) (unhide O21).rd).mono ?_
  rintro e w28 ⟨v30, S31, rfl, O32, L33, b29⟩
  have B34 := hide ((unhide B24).trans (b29.mono (unhide B24).size))
  clear B24
  have BU35 := hide ((unhide BU25).trans (b29.mono (unhide BU25).size))
  clear BU25
  have O36 := hide ((unhide O21).up b29)
  clear O21
  have Z37 := hide (show w18.heap.size ≤ w28.heap.size from b29.size)
  clear b29
  obtain ⟨q_g0_0, q_g0_1, q_g0_2, rfl⟩ := (unhide O32).rd.form
  have H38 := hide (unhide O32).lt
  go_wp2_with fail
  refine (eqSayS_kit (saysOut bs) _ _ w28 (unhide HRS0) (unhide O32).rd ((unhide U14).up (unhide BU35))).mono ?_
  rintro e w39 ⟨rfl, b40⟩
  have B41 := hide ((unhide B34).trans (b40.mono (unhide B34).size))
  clear B34
  have BU42 := hide ((unhide BU35).trans (b40.mono (unhide BU35).size))
  clear BU35
  have O43 := hide ((unhide O36).up b40)
  clear O36
  have O44 := hide ((unhide O32).up b40)
  clear O32
  have Z45 := hide (show w28.heap.size ≤ w39.heap.size from b40.size)
  clear b40
  go_wp2_with fail
  refine (toByteS_kit bs _ w39 (unhide HS1) ((unhide HR_bs).up (unhide B41))).mono ?_
  rintro e w46 ⟨v47, S48, rfl, O49, L50, b51⟩
  have B52 := hide ((unhide B41).trans (b51.mono (unhide B41).size))
  clear B41
  have BU53 := hide ((unhide BU42).trans (b51.mono (unhide BU42).size))
  clear BU42
  have O54 := hide ((unhide O43).up b51)
  clear O43
  have O55 := hide ((unhide O44).up b51)
  clear O44
  have Z56 := hide (show w39.heap.size ≤ w46.heap.size from b51.size)
  clear b51
  have H57 := hide (unhide O49).lt
  go_wp2_with fail
  refine (eqByteS_kit bs _ _ w46 (unhide HS1) (unhide O54).rd (unhide O49).rd).mono ?_
  rintro e w58 ⟨rfl, b59⟩
  have B60 := hide ((unhide B52).trans (b59.mono (unhide B52).size))
  clear B52
  have BU61 := hide ((unhide BU53).trans (b59.mono (unhide BU53).size))
  clear BU53
  have O62 := hide ((unhide O54).up b59)
  clear O54
  have O63 := hide ((unhide O55).up b59)
  clear O55
  have Z64 := hide (show w46.heap.size ≤ w58.heap.size from b59.size)
  clear b59
  go_wp2_with fail
  refine (markByteS_kit S20 (bs) _ w58 (1) N_bs (1) (by omega) (unhide HN_bs) (by omega) (unhide HS1) (unhide O62)).mono ?_
  rintro e w65 ⟨rfl, P66⟩
  have t67 := (unhide P66).2
  have B68 := hide ((unhide B60).trans (t67.below (unhide B60).size (fun k hk => by have z := unhide L22 k hk; have y := unhide H27 k hk; have z0 := unhide Z9; have z1 := unhide Z16; have z2 := unhide Z26; have z3 := unhide Z37; have z4 := unhide Z45; have z5 := unhide Z56; have z6 := unhide Z64; omega)))
  clear B60
  have BU69 := hide ((unhide BU61).trans (t67.below (unhide BU61).size (fun k hk => by have z := unhide L22 k hk; have y := unhide H27 k hk; have z0 := unhide Z9; have z1 := unhide Z16; have z2 := unhide Z26; have z3 := unhide Z37; have z4 := unhide Z45; have z5 := unhide Z56; have z6 := unhide Z64; omega)))
  clear BU61
  have O70 := hide ((unhide O63).turn t67 (fun k hk hm => by have z := unhide L22 k hm; have y := unhide H27 k hm; have u := unhide L33 k hk; have v := unhide H38 k hk; have z0 := unhide Z9; have z1 := unhide Z16; have z2 := unhide Z26; have z3 := unhide Z37; have z4 := unhide Z45; have z5 := unhide Z56; have z6 := unhide Z64; omega))
  clear O63
  have Z71 := hide (show w58.heap.size ≤ w65.heap.size from t67.size)
  have O72 := hide (unhide P66).1
  clear P66 t67
  have nf72 : ¬ (1 + (N_bs : Int)) < 0 := by omega
  go_wp2_with fail
  refine (eqSayS_kit (saysOut bs) _ _ w65 (unhide HRS0) (unhide O70).rd ((unhide U14).up (unhide BU69))).mono ?_
  rintro e w73 ⟨rfl, b74⟩
  have B75 := hide ((unhide B68).trans (b74.mono (unhide B68).size))
  clear B68
  have BU76 := hide ((unhide BU69).trans (b74.mono (unhide BU69).size))
  clear BU69
  have O77 := hide ((unhide O72).up b74)
  clear O72
  have O78 := hide ((unhide O70).up b74)
  clear O70
  have Z79 := hide (show w65.heap.size ≤ w73.heap.size from b74.size)
  clear b74
  go_wp2_with fail
  refine (markSayS_kit S31 (saysOut bs) _ w73 (1) M_0 (1) (by omega) (unhide HM_0) (by omega) (unhide HRS0) (unhide O78)).mono ?_
  rintro e w80 ⟨rfl, P81⟩
  have t82 := (unhide P81).2
  have B83 := hide ((unhide B75).trans (t82.below (unhide B75).size (fun k hk => by have z := unhide L33 k hk; have y := unhide H38 k hk; have z0 := unhide Z9; have z1 := unhide Z16; have z2 := unhide Z26; have z3 := unhide Z37; have z4 := unhide Z45; have z5 := unhide Z56; have z6 := unhide Z64; have z7 := unhide Z71; have z8 := unhide Z79; omega)))
  clear B75
  have BU84 := hide ((unhide BU76).trans (t82.below (unhide BU76).size (fun k hk => by have z := unhide L33 k hk; have y := unhide H38 k hk; have z0 := unhide Z9; have z1 := unhide Z16; have z2 := unhide Z26; have z3 := unhide Z37; have z4 := unhide Z45; have z5 := unhide Z56; have z6 := unhide Z64; have z7 := unhide Z71; have z8 := unhide Z79; omega)))
  clear BU76
  have O85 := hide ((unhide O77).turn t82 (fun k hk hm => by have z := unhide L33 k hm; have y := unhide H38 k hm; have u := unhide L22 k hk; have v := unhide H27 k hk; have z0 := unhide Z9; have z1 := unhide Z16; have z2 := unhide Z26; have z3 := unhide Z37; have z4 := unhide Z45; have z5 := unhide Z56; have z6 := unhide Z64; have z7 := unhide Z71; have z8 := unhide Z79; omega))
  clear O77
  have Z86 := hide (show w73.heap.size ≤ w80.heap.size from t82.size)
  have O87 := hide (unhide P81).1
  clear P81 t82
  have nf87 : ¬ (1 + (M_0 : Int)) < 0 := by omega
  go_wp2_with fail
  refine (heldSayS_kit (saysOut bs) _ w80 (1) M_0 (1) (by omega) (unhide HM_0) (by omega) (unhide HRS0) (unhide O87).rd).mono ?_
  rintro e w88 ⟨rfl, b89⟩
  have B90 := hide ((unhide B83).trans (b89.mono (unhide B83).size))
  clear B83
  have BU91 := hide ((unhide BU84).trans (b89.mono (unhide BU84).size))
  clear BU84
  have O92 := hide ((unhide O85).up b89)
  clear O85
  have O93 := hide ((unhide O87).up b89)
  clear O87
  have Z94 := hide (show w80.heap.size ≤ w88.heap.size from b89.size)
  clear b89
  go_wp2_with fail
  refine (toByteS_kit bs _ w88 (unhide HS1) ((unhide HR_bs).up (unhide B90))).mono ?_
  rintro e w95 ⟨v96, S97, rfl, O98, L99, b100⟩
  have B101 := hide ((unhide B90).trans (b100.mono (unhide B90).size))
  clear B90
  have BU102 := hide ((unhide BU91).trans (b100.mono (unhide BU91).size))
  clear BU91
  have O103 := hide ((unhide O92).up b100)
  clear O92
  have O104 := hide ((unhide O93).up b100)
  clear O93
  have Z105 := hide (show w88.heap.size ≤ w95.heap.size from b100.size)
  clear b100
  have H106 := hide (unhide O98).lt
  go_wp2_with fail
  refine (implSays_any bs _ w95 (unhide HS1) (unhide O98).rd).mono ?_
  rintro e w107 ⟨v109, S110, rfl, O111, L112, b108⟩
  clear O98
  have B113 := hide ((unhide B101).trans (b108.mono (unhide B101).size))
  clear B101
  have BU114 := hide ((unhide BU102).trans (b108.mono (unhide BU102).size))
  clear BU102
  have O115 := hide ((unhide O103).up b108)
  clear O103
  have O116 := hide ((unhide O104).up b108)
  clear O104
  have Z117 := hide (show w95.heap.size ≤ w107.heap.size from b108.size)
  clear b108
  obtain ⟨q_h0_0, q_h0_1, q_h0_2, rfl⟩ := (unhide O111).rd.form
  have H118 := hide (unhide O111).lt
  go_wp2_with fail
  refine (eqSayS_kit (saysOut bs) _ _ w107 (unhide HRS0) (unhide O111).rd ((unhide U14).up (unhide BU114))).mono ?_
  rintro e w119 ⟨rfl, b120⟩
  have B121 := hide ((unhide B113).trans (b120.mono (unhide B113).size))
  clear B113
  have BU122 := hide ((unhide BU114).trans (b120.mono (unhide BU114).size))
  clear BU114
  have O123 := hide ((unhide O115).up b120)
  clear O115
  have O124 := hide ((unhide O116).up b120)
  clear O116
  have O125 := hide ((unhide O111).up b120)
  clear O111
  have Z126 := hide (show w107.heap.size ≤ w119.heap.size from b120.size)
  clear b120
  go_wp2_with fail
  refine (heldSayS_kit (saysOut bs) _ w119 (1) M_0 (1) (by omega) (unhide HM_0) (by omega) (unhide HRS0) (unhide O124).rd).mono ?_
  rintro e w127 ⟨rfl, b128⟩
  have B129 := hide ((unhide B121).trans (b128.mono (unhide B121).size))
  clear B121
  have BU130 := hide ((unhide BU122).trans (b128.mono (unhide BU122).size))
  clear BU122
  have O131 := hide ((unhide O123).up b128)
  clear O123
  have O132 := hide ((unhide O124).up b128)
  clear O124
  have O133 := hide ((unhide O125).up b128)
  clear O125
  have Z134 := hide (show w119.heap.size ≤ w127.heap.size from b128.size)
  clear b128
  go_wp2_with fail
  go_ret
  exact ⟨rfl, unhide B129⟩

theorem own : ownKnob Try.prog.godebug = none := by kernel_rfl
theorem laidOut : laidOutB Try.prog = true := by kernel_rfl

set_option maxRecDepth 100000 in
theorem lifted (os : Os) (started : os.Started) (H : Type) (enc : TypeId × Value → H) :
    ReturnsInHanded {} Try.checked os 6 .any (Rows.fnExactSplitSaysSpec.pre6 enc Try.prog Try.f6 Rows.fnExactSplitSaysRow.domain false) (Rows.fnExactSplitSaysSpec.post enc Try.prog Try.f6 false true false false) := by
  refine returnsInHanded_of_change (C := Try.checked) own started (by kernel_rfl) Try.func6
    (ChangeSpec.witness6 (enc := enc) (C := Try.checked) false ⟨#[], #[.slice none 0 0], []⟩ 8 (by kernel_rfl) (by kernel_rfl) (by kernel_rfl) (by kernel_rfl)) ?_
  intro W base args ds gs before hval0 hW hcnd _
  have hval : ∀ (j : Nat) t v, Try.f6.params[j]? = some t → args[j]? = some v → Value.okWide Try.prog W .any base t v := hval0
  have hW' := hW
  obtain ⟨p, q, hA0, hV, rfl, hfz, hnd⟩ := hW
  have hA : DataW.TrodAll enc Try.prog W 0 (fun _ => true) true Try.f6.params.toList args.toList ds p := hA0
  rw [Try.params6] at hA hval
  obtain ⟨v0, d0, rfl, rfl, h0⟩ := trodAll_one hA
  obtain ⟨rfl, rfl⟩ := trodVars_none hV
  obtain ⟨a0, len0, cap0, rfl⟩ := okWide_slice Try.underlying22 (hval 0 22 v0 rfl rfl)
  obtain ⟨bs, rfl, hl, hlc, hn⟩ := open_byteS h0
  have k0 := h0
  have lt0 : ∀ x ∈ p, x.block < W.heap.size := by obtain ⟨m, hm⟩ := k0; exact DataW.trod_lt m _ _ _ hm
  clear hA0 hval0
  refine (walk bs _ W hl ⟨a0, cap0, rfl, hn, hlc⟩).mono fun e W' ⟨he, bel⟩ => ?_
  subst he
  exact ⟨_, rfl, _, _, _, [], _, [], hW', trodAll_mk1 (shut_bool Try.underlying4 _), trodAll_mk1 (Below.trod laidOut (by kernel_rfl) (of_decide_eq_true (by kernel_rfl)) k0 bel lt0), rfl, bel.frame _, fun h => by cases h⟩

theorem over : Rows.fnExactSplitSaysRow.holds Try.pinned (OpenSpec.ofChange Rows.fnExactSplitSaysSpec) :=
  OpenClaim.holds_of_wide 6 Try.f6 rfl rfl rfl rfl rfl rfl rfl ⟨rfl, rfl, rfl, rfl, rfl⟩ rfl rfl rfl rfl rfl (by kernel_rfl) Try.func6 (by kernel_rfl)
    (of_decide_eq_true (by kernel_rfl)) (by unfold Func.isWrapper; first | (rw [if_pos (by decide +kernel)]; kernel_rfl) | (rw [if_neg (by decide +kernel)]; exact ⟨rfl, rfl⟩))
    (fun os started H enc _ => lifted os started H enc)

end Go.Proofs.Ytlgmmibncoedgaa.fnExactSplitSays

namespace Go.Proofs.Ytlgmmibncoedgaa
theorem fnExactSplitSays_holds : Rows.FnExactSplitSaysSaid :=
  fnExactSplitSays.over
end Go.Proofs.Ytlgmmibncoedgaa
