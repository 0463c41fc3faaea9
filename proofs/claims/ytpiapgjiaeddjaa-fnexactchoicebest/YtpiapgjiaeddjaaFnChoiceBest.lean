/-
  Proved: at every argument the law on ChoiceBest answers true, and the arguments read afterwards as before: the program finds the greatest choice that agrees as the specification does, and its answer owns its memory. No condition.
-/
import Derived.Test.YtpiapgjiaeddjaaBestS
import Derived.Test.YtpiapgjiaeddjaaImplBest
import Derived.Test.YtpiapgjiaeddjaaWinsFull
import Derived.Test.YtpiapgjiaeddjaaMerged52
import Derived.Test.YtpiapgjiaeddjaaRows
import Derived.WalkKit
import Derived.ProofKit
import Derived.OpenShut
import Derived.Handy
namespace Go.Proofs.Ytpiapgjiaeddjaa.fnExactChoiceBest
open Go.ChangeShapes Go.WideShapes Go.ChangeAt Go.RowKit Go.Deep Go.Maps
set_option linter.unusedVariables false

theorem spec_kit (ws : List (List ItemV)) (v : Value) (w : World) (hs : SmallItemSSF ws) (h : ItemSSRd w v ws) :
    Calls Try.prog 5 #[v] w fun e w' => ∃ v, e = .returned (.tuple #[v, .bool (bestB ws)]) ∧ Hid (IntSRd w' v (bestV ws)) ∧ Below w.heap.size w w' := specBest_any ws v w hs.1 h
theorem impl_kit (ws : List (List ItemV)) (v : Value) (w : World) (hs : SmallItemSSF ws) (h : ItemSSRd w v ws) :
    Calls Try.prog 7 #[v] w fun e w' => ∃ v S, e = .returned (.tuple #[v, .bool (bestB ws)]) ∧ Hid (IntSOwn S w' v (bestV ws)) ∧ Hid (∀ k ∈ S, w.heap.size ≤ k) ∧ Below w.heap.size w w' := implBest_any ws v w hs.1 h

set_option maxHeartbeats 12800000 in
theorem walk (ws : List (List ItemV)) (v_ws : Value) (w : World) (hf_ws : ItemSSFit ws) (hr_ws : ItemSSRd w v_ws ws) :
    Calls Try.prog 3 #[v_ws] w fun e w' => e = .returned (.bool true) ∧ Below w.heap.size w w' := by
  have HF_ws := hide hf_ws
  clear hf_ws
  have HR_ws := hide hr_ws
  obtain ⟨p_ws0, p_ws1, p_ws2, rfl⟩ := hr_ws.form
  clear hr_ws
  go_enter Try.func3, Try.ntmps3
  have B00 := hide (Below.refl w.heap.size w)
  go_wp2_with fail
  refine (szItemSSF_kit ws _ w (unhide HF_ws) ((unhide HR_ws).up (unhide B00))).mono ?_
  rintro e w1 ⟨q2, rfl, HQ3, b4⟩
  have B5 := hide ((unhide B00).trans (b4.mono (unhide B00).size))
  clear B00
  have Z6 := hide (show w.heap.size ≤ w1.heap.size from b4.size)
  clear b4
  by_cases hnegq2 : q2 < 0
  · go_wp2_with fail
    go_ret
    exact ⟨rfl, unhide B5⟩
  have HS7 := hide (unhide HQ3 (by omega))
  obtain ⟨N_ws, HN_ws⟩ : ∃ N, Hid (nItemSSF ws = N) := ⟨_, rfl⟩
  have NL_ws : N_ws ≤ 100000000 := by rw [← unhide HN_ws]; exact nItemSSF_le (unhide HS7)
  have HRS0 := hide (show SmallIntS (bestV ws) from small_best ws (unhide HS7).1)
  obtain ⟨M_0, HM_0⟩ : ∃ N, Hid (nIntS (bestV ws) = N) := ⟨_, rfl⟩
  have ML_0 : M_0 ≤ 100000000 := by rw [← unhide HM_0]; exact nIntS_le (unhide HRS0)
  go_wp2_with fail
  refine (toItemSSF_kit ws _ w1 (unhide HS7) ((unhide HR_ws).up (unhide B5))).mono ?_
  rintro e w8 ⟨v9, S10, rfl, O11, L12, b13⟩
  have B14 := hide ((unhide B5).trans (b13.mono (unhide B5).size))
  clear B5
  have Z15 := hide (show w1.heap.size ≤ w8.heap.size from b13.size)
  clear b13
  have H16 := hide (unhide O11).lt
  go_wp2_with fail
  refine (spec_kit ws _ w8 (unhide HS7) (unhide O11).rd).mono ?_
  rintro e w17 ⟨v19, rfl, U20, b18⟩
  clear O11
  have B21 := hide ((unhide B14).trans (b18.mono (unhide B14).size))
  clear B14
  have Z22 := hide (show w8.heap.size ≤ w17.heap.size from b18.size)
  clear b18
  obtain ⟨q_w0_0, q_w0_1, q_w0_2, rfl⟩ := (unhide U20).form
  have BU23 := hide (Below.refl w17.heap.size w17)
  go_wp2_with fail
  refine (toItemSSF_kit ws _ w17 (unhide HS7) ((unhide HR_ws).up (unhide B21))).mono ?_
  rintro e w24 ⟨v25, S26, rfl, O27, L28, b29⟩
  have B30 := hide ((unhide B21).trans (b29.mono (unhide B21).size))
  clear B21
  have BU31 := hide ((unhide BU23).trans (b29.mono (unhide BU23).size))
  clear BU23
  have Z32 := hide (show w17.heap.size ≤ w24.heap.size from b29.size)
  clear b29
  have H33 := hide (unhide O27).lt
  obtain ⟨r_ws0, r_ws1, r_ws2, rfl⟩ := (unhide O27).rd.form
  go_wp2_with fail
  refine (impl_kit ws _ w24 (unhide HS7) (unhide O27).rd).mono ?_
  rintro e w34 ⟨v36, S37, rfl, O38, L39, b35⟩
  have B40 := hide ((unhide B30).trans (b35.mono (unhide B30).size))
  clear B30
  have BU41 := hide ((unhide BU31).trans (b35.mono (unhide BU31).size))
  clear BU31
  have O42 := hide ((unhide O27).up b35)
  clear O27
  have Z43 := hide (show w24.heap.size ≤ w34.heap.size from b35.size)
  clear b35
  obtain ⟨q_g0_0, q_g0_1, q_g0_2, rfl⟩ := (unhide O38).rd.form
  have H44 := hide (unhide O38).lt
  go_wp2_with fail
  refine (eqIntS_kit (bestV ws) _ _ w34 (unhide HRS0) (unhide O38).rd ((unhide U20).up (unhide BU41))).mono ?_
  rintro e w45 ⟨rfl, b46⟩
  have B47 := hide ((unhide B40).trans (b46.mono (unhide B40).size))
  clear B40
  have BU48 := hide ((unhide BU41).trans (b46.mono (unhide BU41).size))
  clear BU41
  have O49 := hide ((unhide O42).up b46)
  clear O42
  have O50 := hide ((unhide O38).up b46)
  clear O38
  have Z51 := hide (show w34.heap.size ≤ w45.heap.size from b46.size)
  clear b46
  go_wp2_with fail
  refine (toItemSSF_kit ws _ w45 (unhide HS7) ((unhide HR_ws).up (unhide B47))).mono ?_
  rintro e w52 ⟨v53, S54, rfl, O55, L56, b57⟩
  have B58 := hide ((unhide B47).trans (b57.mono (unhide B47).size))
  clear B47
  have BU59 := hide ((unhide BU48).trans (b57.mono (unhide BU48).size))
  clear BU48
  have O60 := hide ((unhide O49).up b57)
  clear O49
  have O61 := hide ((unhide O50).up b57)
  clear O50
  have Z62 := hide (show w45.heap.size ≤ w52.heap.size from b57.size)
  clear b57
  have H63 := hide (unhide O55).lt
  go_wp2_with fail
  refine (eqItemSSF_kit ws _ _ w52 (unhide HS7) (unhide O60).rd (unhide O55).rd).mono ?_
  rintro e w64 ⟨rfl, b65⟩
  have B66 := hide ((unhide B58).trans (b65.mono (unhide B58).size))
  clear B58
  have BU67 := hide ((unhide BU59).trans (b65.mono (unhide BU59).size))
  clear BU59
  have O68 := hide ((unhide O60).up b65)
  clear O60
  have O69 := hide ((unhide O61).up b65)
  clear O61
  have Z70 := hide (show w52.heap.size ≤ w64.heap.size from b65.size)
  clear b65
  go_wp2_with fail
  refine (markItemSSF_kit S26 (ws) _ w64 (1) N_ws (1) (by omega) (unhide HN_ws) (by omega) (unhide HS7) (unhide O68)).mono ?_
  rintro e w71 ⟨rfl, P72⟩
  have t73 := (unhide P72).2
  have B74 := hide ((unhide B66).trans (t73.below (unhide B66).size (fun k hk => by have z := unhide L28 k hk; have y := unhide H33 k hk; have z0 := unhide Z6; have z1 := unhide Z15; have z2 := unhide Z22; have z3 := unhide Z32; have z4 := unhide Z43; have z5 := unhide Z51; have z6 := unhide Z62; have z7 := unhide Z70; omega)))
  clear B66
  have BU75 := hide ((unhide BU67).trans (t73.below (unhide BU67).size (fun k hk => by have z := unhide L28 k hk; have y := unhide H33 k hk; have z0 := unhide Z6; have z1 := unhide Z15; have z2 := unhide Z22; have z3 := unhide Z32; have z4 := unhide Z43; have z5 := unhide Z51; have z6 := unhide Z62; have z7 := unhide Z70; omega)))
  clear BU67
  have O76 := hide ((unhide O69).turn t73 (fun k hk hm => by have z := unhide L28 k hm; have y := unhide H33 k hm; have u := unhide L39 k hk; have v := unhide H44 k hk; have z0 := unhide Z6; have z1 := unhide Z15; have z2 := unhide Z22; have z3 := unhide Z32; have z4 := unhide Z43; have z5 := unhide Z51; have z6 := unhide Z62; have z7 := unhide Z70; omega))
  clear O69
  have Z77 := hide (show w64.heap.size ≤ w71.heap.size from t73.size)
  have O78 := hide (unhide P72).1
  clear P72 t73
  have nf78 : ¬ (1 + (N_ws : Int)) < 0 := by omega
  go_wp2_with fail
  refine (eqIntS_kit (bestV ws) _ _ w71 (unhide HRS0) (unhide O76).rd ((unhide U20).up (unhide BU75))).mono ?_
  rintro e w79 ⟨rfl, b80⟩
  have B81 := hide ((unhide B74).trans (b80.mono (unhide B74).size))
  clear B74
  have BU82 := hide ((unhide BU75).trans (b80.mono (unhide BU75).size))
  clear BU75
  have O83 := hide ((unhide O78).up b80)
  clear O78
  have O84 := hide ((unhide O76).up b80)
  clear O76
  have Z85 := hide (show w71.heap.size ≤ w79.heap.size from b80.size)
  clear b80
  go_wp2_with fail
  refine (markIntS_kit S37 (bestV ws) _ w79 (1) M_0 (1) (by omega) (unhide HM_0) (by omega) (unhide HRS0) (unhide O84)).mono ?_
  rintro e w86 ⟨rfl, P87⟩
  have t88 := (unhide P87).2
  have B89 := hide ((unhide B81).trans (t88.below (unhide B81).size (fun k hk => by have z := unhide L39 k hk; have y := unhide H44 k hk; have z0 := unhide Z6; have z1 := unhide Z15; have z2 := unhide Z22; have z3 := unhide Z32; have z4 := unhide Z43; have z5 := unhide Z51; have z6 := unhide Z62; have z7 := unhide Z70; have z8 := unhide Z77; have z9 := unhide Z85; omega)))
  clear B81
  have BU90 := hide ((unhide BU82).trans (t88.below (unhide BU82).size (fun k hk => by have z := unhide L39 k hk; have y := unhide H44 k hk; have z0 := unhide Z6; have z1 := unhide Z15; have z2 := unhide Z22; have z3 := unhide Z32; have z4 := unhide Z43; have z5 := unhide Z51; have z6 := unhide Z62; have z7 := unhide Z70; have z8 := unhide Z77; have z9 := unhide Z85; omega)))
  clear BU82
  have O91 := hide ((unhide O83).turn t88 (fun k hk hm => by have z := unhide L39 k hm; have y := unhide H44 k hm; have u := unhide L28 k hk; have v := unhide H33 k hk; have z0 := unhide Z6; have z1 := unhide Z15; have z2 := unhide Z22; have z3 := unhide Z32; have z4 := unhide Z43; have z5 := unhide Z51; have z6 := unhide Z62; have z7 := unhide Z70; have z8 := unhide Z77; have z9 := unhide Z85; omega))
  clear O83
  have Z92 := hide (show w79.heap.size ≤ w86.heap.size from t88.size)
  have O93 := hide (unhide P87).1
  clear P87 t88
  have nf93 : ¬ (1 + (M_0 : Int)) < 0 := by omega
  go_wp2_with fail
  refine (heldIntS_kit (bestV ws) _ w86 (1) M_0 (1) (by omega) (unhide HM_0) (by omega) (unhide HRS0) (unhide O93).rd).mono ?_
  rintro e w94 ⟨rfl, b95⟩
  have B96 := hide ((unhide B89).trans (b95.mono (unhide B89).size))
  clear B89
  have BU97 := hide ((unhide BU90).trans (b95.mono (unhide BU90).size))
  clear BU90
  have O98 := hide ((unhide O91).up b95)
  clear O91
  have O99 := hide ((unhide O93).up b95)
  clear O93
  have Z100 := hide (show w86.heap.size ≤ w94.heap.size from b95.size)
  clear b95
  go_wp2_with fail
  refine (toItemSSF_kit ws _ w94 (unhide HS7) ((unhide HR_ws).up (unhide B96))).mono ?_
  rintro e w101 ⟨v102, S103, rfl, O104, L105, b106⟩
  have B107 := hide ((unhide B96).trans (b106.mono (unhide B96).size))
  clear B96
  have BU108 := hide ((unhide BU97).trans (b106.mono (unhide BU97).size))
  clear BU97
  have O109 := hide ((unhide O98).up b106)
  clear O98
  have O110 := hide ((unhide O99).up b106)
  clear O99
  have Z111 := hide (show w94.heap.size ≤ w101.heap.size from b106.size)
  clear b106
  have H112 := hide (unhide O104).lt
  go_wp2_with fail
  refine (impl_kit ws _ w101 (unhide HS7) (unhide O104).rd).mono ?_
  rintro e w113 ⟨v115, S116, rfl, O117, L118, b114⟩
  clear O104
  have B119 := hide ((unhide B107).trans (b114.mono (unhide B107).size))
  clear B107
  have BU120 := hide ((unhide BU108).trans (b114.mono (unhide BU108).size))
  clear BU108
  have O121 := hide ((unhide O109).up b114)
  clear O109
  have O122 := hide ((unhide O110).up b114)
  clear O110
  have Z123 := hide (show w101.heap.size ≤ w113.heap.size from b114.size)
  clear b114
  obtain ⟨q_h0_0, q_h0_1, q_h0_2, rfl⟩ := (unhide O117).rd.form
  have H124 := hide (unhide O117).lt
  go_wp2_with fail
  refine (eqIntS_kit (bestV ws) _ _ w113 (unhide HRS0) (unhide O117).rd ((unhide U20).up (unhide BU120))).mono ?_
  rintro e w125 ⟨rfl, b126⟩
  have B127 := hide ((unhide B119).trans (b126.mono (unhide B119).size))
  clear B119
  have BU128 := hide ((unhide BU120).trans (b126.mono (unhide BU120).size))
  clear BU120
  have O129 := hide ((unhide O121).up b126)
  clear O121
  have O130 := hide ((unhide O122).up b126)
  clear O122
  have O131 := hide ((unhide O117).up b126)
  clear O117
  have Z132 := hide (show w113.heap.size ≤ w125.heap.size from b126.size)
  clear b126
  go_wp2_with fail
  refine (heldIntS_kit (bestV ws) _ w125 (1) M_0 (1) (by omega) (unhide HM_0) (by omega) (unhide HRS0) (unhide O130).rd).mono ?_
  rintro e w133 ⟨rfl, b134⟩
  have B135 := hide ((unhide B127).trans (b134.mono (unhide B127).size))
  clear B127
  have BU136 := hide ((unhide BU128).trans (b134.mono (unhide BU128).size))
  clear BU128
  have O137 := hide ((unhide O129).up b134)
  clear O129
  have O138 := hide ((unhide O130).up b134)
  clear O130
  have O139 := hide ((unhide O131).up b134)
  clear O131
  have Z140 := hide (show w125.heap.size ≤ w133.heap.size from b134.size)
  clear b134
  go_wp2_with fail
  go_ret
  exact ⟨rfl, unhide B135⟩

theorem own : ownKnob Try.prog.godebug = none := by kernel_rfl
theorem laidOut : laidOutB Try.prog = true := by kernel_rfl

set_option maxRecDepth 100000 in
theorem lifted (os : Os) (started : os.Started) (H : Type) (enc : TypeId × Value → H) :
    ReturnsInHanded {} Try.checked os 3 .any (Rows.fnExactChoiceBestSpec.pre6 enc Try.prog Try.f3 Rows.fnExactChoiceBestRow.domain false) (Rows.fnExactChoiceBestSpec.post enc Try.prog Try.f3 false true false false) := by
  refine returnsInHanded_of_change (C := Try.checked) own started (by kernel_rfl) Try.func3
    (ChangeSpec.witness6 (enc := enc) (C := Try.checked) false ⟨#[], #[.slice none 0 0], []⟩ 8 (by kernel_rfl) (by kernel_rfl) (by kernel_rfl) (by kernel_rfl)) ?_
  intro W base args ds gs before hval0 hW hcnd _
  have hval : ∀ (j : Nat) t v, Try.f3.params[j]? = some t → args[j]? = some v → Value.okWide Try.prog W .any base t v := hval0
  have hW' := hW
  obtain ⟨p, q, hA0, hV, rfl, hfz, hnd⟩ := hW
  have hA : DataW.TrodAll enc Try.prog W 0 (fun _ => true) true Try.f3.params.toList args.toList ds p := hA0
  rw [Try.params3] at hA hval
  obtain ⟨v0, vs0, d0, ds0, p0, q0, hargs, rfl, rfl, h0, r0⟩ := trodAll_cons hA
  obtain ⟨rfl, rfl, rfl⟩ := trodAll_nil r0
  obtain rfl : args = #[v0] := by cases args; simp_all
  obtain ⟨rfl, rfl⟩ := trodVars_none hV
  obtain ⟨a0, len0, cap0, rfl⟩ := okWide_slice Try.underlying22 (hval 0 22 v0 rfl rfl)
  have k0 := h0
  have lt0 : ∀ x ∈ p0, x.block < W.heap.size := by obtain ⟨m, hm⟩ := k0; exact DataW.trod_lt m _ _ _ hm
  obtain ⟨ns0, rfl, hl0, hn0, ho0⟩ := openItemSS h0
  clear hA0 hval0
  refine (walk ns0 _ W ⟨hl0, ho0⟩ ⟨a0, cap0, rfl, hn0⟩).mono fun e W' ⟨he, bel⟩ => ?_
  subst he
  exact ⟨_, rfl, _, _, _, [], _, [], hW', trodAll_mk1 (shut_bool Try.underlying4 _), (trodAll_cons_mk (Below.trod laidOut (by kernel_rfl) (of_decide_eq_true (by kernel_rfl)) k0 bel lt0) trodAll_mk0), rfl, bel.frame _, fun h => by cases h⟩

theorem over : Rows.fnExactChoiceBestRow.holds Try.pinned (OpenSpec.ofChange Rows.fnExactChoiceBestSpec) :=
  OpenClaim.holds_of_wide 3 Try.f3 rfl rfl rfl rfl rfl rfl rfl ⟨rfl, rfl, rfl, rfl, rfl⟩ rfl rfl rfl rfl rfl (by kernel_rfl) Try.func3 (by kernel_rfl)
    (of_decide_eq_true (by kernel_rfl)) (by unfold Func.isWrapper; first | (rw [if_pos (by decide +kernel)]; kernel_rfl) | (rw [if_neg (by decide +kernel)]; exact ⟨rfl, rfl⟩))
    (fun os started H enc _ => lifted os started H enc)

end Go.Proofs.Ytpiapgjiaeddjaa.fnExactChoiceBest

namespace Go.Proofs.Ytpiapgjiaeddjaa
theorem fnExactChoiceBest_holds : Rows.FnExactChoiceBestSaid :=
  fnExactChoiceBest.over
end Go.Proofs.Ytpiapgjiaeddjaa
