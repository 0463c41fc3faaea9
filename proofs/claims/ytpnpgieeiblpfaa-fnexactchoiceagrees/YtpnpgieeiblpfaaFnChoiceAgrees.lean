/-
  Proved: at every argument the law on ChoiceAgrees answers true, and the arguments read afterwards as before: the program tells whether the items at some places agree as the specification does, and writes into no argument. No condition.
-/
import Derived.Test.YtpnpgieeiblpfaaChoiceS2
import Derived.Test.YtpnpgieeiblpfaaChoiceI4
import Derived.Test.YtpnpgieeiblpfaaWinsOpen
import Derived.Test.YtpnpgieeiblpfaaRows
import Derived.WalkKit
import Derived.ProofKit
import Derived.OpenShut
import Derived.Handy
namespace Go.Proofs.Ytpnpgieeiblpfaa.fnExactChoiceAgrees
open Go.ChangeShapes Go.WideShapes Go.ChangeAt Go.RowKit Go.Deep Go.Maps
set_option linter.unusedVariables false


set_option maxHeartbeats 12800000 in
theorem walk (ws : List (List ItemV)) (v_ws : Value) (ps : List Int) (v_ps : Value) (w : World) (hf_ws : ItemSSFit ws) (hr_ws : ItemSSRd w v_ws ws) (hf_ps : IntSFit ps) (hr_ps : IntSRd w v_ps ps) :
    Calls Try.prog 3 #[v_ws, v_ps] w fun e w' => e = .returned (.bool true) ∧ Below w.heap.size w w' := by
  have HF_ws := hide hf_ws
  clear hf_ws
  have HR_ws := hide hr_ws
  obtain ⟨p_ws0, p_ws1, p_ws2, rfl⟩ := hr_ws.form
  clear hr_ws
  have HF_ps := hide hf_ps
  clear hf_ps
  have HR_ps := hide hr_ps
  obtain ⟨p_ps0, p_ps1, p_ps2, rfl⟩ := hr_ps.form
  clear hr_ps
  go_enter Try.func3, Try.ntmps3
  have B00 := hide (Below.refl w.heap.size w)
  by_cases hl_ps : (p_ps1 : Int) ≤ 1048576
  rotate_left
  · go_wp2_with fail
    go_ret
    exact ⟨rfl, by go_grown⟩
  have HS1 := hide (small_of_lenI (unhide HF_ps) (unhide HR_ps) hl_ps)
  go_wp2_with fail
  refine (szItemSS_kit ws _ w (unhide HF_ws) ((unhide HR_ws).up (unhide B00))).mono ?_
  rintro e w2 ⟨q3, rfl, HQ4, b5⟩
  have B6 := hide ((unhide B00).trans (b5.mono (unhide B00).size))
  clear B00
  have Z7 := hide (show w.heap.size ≤ w2.heap.size from b5.size)
  clear b5
  by_cases hnegq3 : q3 < 0
  · go_wp2_with fail
    go_ret
    exact ⟨rfl, unhide B6⟩
  have HS8 := hide (unhide HQ4 (by omega))
  obtain ⟨N_ws, HN_ws⟩ : ∃ N, Hid (nItemSS ws = N) := ⟨_, rfl⟩
  have NL_ws : N_ws ≤ 100000000 := by rw [← unhide HN_ws]; exact nItemSS_le (unhide HS8)
  obtain ⟨N_ps, HN_ps⟩ : ∃ N, Hid (nIntS ps = N) := ⟨_, rfl⟩
  have NL_ps : N_ps ≤ 100000000 := by rw [← unhide HN_ps]; exact nIntS_le (unhide HS1)
  go_wp2_with fail
  refine (toItemSS_kit ws _ w2 (unhide HS8) ((unhide HR_ws).up (unhide B6))).mono ?_
  rintro e w9 ⟨v10, S11, rfl, O12, L13, b14⟩
  have B15 := hide ((unhide B6).trans (b14.mono (unhide B6).size))
  clear B6
  have Z16 := hide (show w2.heap.size ≤ w9.heap.size from b14.size)
  clear b14
  have H17 := hide (unhide O12).lt
  go_wp2_with fail
  refine (toIntS_kit ps _ w9 (unhide HS1) ((unhide HR_ps).up (unhide B15))).mono ?_
  rintro e w18 ⟨v19, S20, rfl, O21, L22, b23⟩
  have B24 := hide ((unhide B15).trans (b23.mono (unhide B15).size))
  clear B15
  have O25 := hide ((unhide O12).up b23)
  clear O12
  have Z26 := hide (show w9.heap.size ≤ w18.heap.size from b23.size)
  clear b23
  have H27 := hide (unhide O21).lt
  go_wp2_with fail
  refine (specChoice_any ws _ ps _ w18 (unhide HS8) (unhide HS1) (unhide O25).rd (unhide O21).rd).mono ?_
  rintro e w28 ⟨rfl, b29⟩
  clear O25
  clear O21
  have B30 := hide ((unhide B24).trans (b29.mono (unhide B24).size))
  clear B24
  have Z31 := hide (show w18.heap.size ≤ w28.heap.size from b29.size)
  clear b29
  have BU32 := hide (Below.refl w28.heap.size w28)
  go_wp2_with fail
  refine (toItemSS_kit ws _ w28 (unhide HS8) ((unhide HR_ws).up (unhide B30))).mono ?_
  rintro e w33 ⟨v34, S35, rfl, O36, L37, b38⟩
  have B39 := hide ((unhide B30).trans (b38.mono (unhide B30).size))
  clear B30
  have BU40 := hide ((unhide BU32).trans (b38.mono (unhide BU32).size))
  clear BU32
  have Z41 := hide (show w28.heap.size ≤ w33.heap.size from b38.size)
  clear b38
  have H42 := hide (unhide O36).lt
  obtain ⟨r_ws0, r_ws1, r_ws2, rfl⟩ := (unhide O36).rd.form
  go_wp2_with fail
  refine (toIntS_kit ps _ w33 (unhide HS1) ((unhide HR_ps).up (unhide B39))).mono ?_
  rintro e w43 ⟨v44, S45, rfl, O46, L47, b48⟩
  have B49 := hide ((unhide B39).trans (b48.mono (unhide B39).size))
  clear B39
  have BU50 := hide ((unhide BU40).trans (b48.mono (unhide BU40).size))
  clear BU40
  have O51 := hide ((unhide O36).up b48)
  clear O36
  have Z52 := hide (show w33.heap.size ≤ w43.heap.size from b48.size)
  clear b48
  have H53 := hide (unhide O46).lt
  obtain ⟨r_ps0, r_ps1, r_ps2, rfl⟩ := (unhide O46).rd.form
  go_wp2_with fail
  refine (implChoice_any ws _ ps _ w43 (unhide HS8) (unhide HS1) (unhide O51).rd (unhide O46).rd).mono ?_
  rintro e w54 ⟨rfl, b55⟩
  have B56 := hide ((unhide B49).trans (b55.mono (unhide B49).size))
  clear B49
  have BU57 := hide ((unhide BU50).trans (b55.mono (unhide BU50).size))
  clear BU50
  have O58 := hide ((unhide O51).up b55)
  clear O51
  have O59 := hide ((unhide O46).up b55)
  clear O46
  have Z60 := hide (show w43.heap.size ≤ w54.heap.size from b55.size)
  clear b55
  go_wp2_with fail
  refine (toItemSS_kit ws _ w54 (unhide HS8) ((unhide HR_ws).up (unhide B56))).mono ?_
  rintro e w61 ⟨v62, S63, rfl, O64, L65, b66⟩
  have B67 := hide ((unhide B56).trans (b66.mono (unhide B56).size))
  clear B56
  have BU68 := hide ((unhide BU57).trans (b66.mono (unhide BU57).size))
  clear BU57
  have O69 := hide ((unhide O58).up b66)
  clear O58
  have O70 := hide ((unhide O59).up b66)
  clear O59
  have Z71 := hide (show w54.heap.size ≤ w61.heap.size from b66.size)
  clear b66
  have H72 := hide (unhide O64).lt
  go_wp2_with fail
  refine (eqItemSS_kit ws _ _ w61 (unhide HS8) (unhide O69).rd (unhide O64).rd).mono ?_
  rintro e w73 ⟨rfl, b74⟩
  have B75 := hide ((unhide B67).trans (b74.mono (unhide B67).size))
  clear B67
  have BU76 := hide ((unhide BU68).trans (b74.mono (unhide BU68).size))
  clear BU68
  have O77 := hide ((unhide O69).up b74)
  clear O69
  have O78 := hide ((unhide O70).up b74)
  clear O70
  have Z79 := hide (show w61.heap.size ≤ w73.heap.size from b74.size)
  clear b74
  go_wp2_with fail
  refine (toIntS_kit ps _ w73 (unhide HS1) ((unhide HR_ps).up (unhide B75))).mono ?_
  rintro e w80 ⟨v81, S82, rfl, O83, L84, b85⟩
  have B86 := hide ((unhide B75).trans (b85.mono (unhide B75).size))
  clear B75
  have BU87 := hide ((unhide BU76).trans (b85.mono (unhide BU76).size))
  clear BU76
  have O88 := hide ((unhide O77).up b85)
  clear O77
  have O89 := hide ((unhide O78).up b85)
  clear O78
  have Z90 := hide (show w73.heap.size ≤ w80.heap.size from b85.size)
  clear b85
  have H91 := hide (unhide O83).lt
  go_wp2_with fail
  refine (eqIntS_kit ps _ _ w80 (unhide HS1) (unhide O89).rd (unhide O83).rd).mono ?_
  rintro e w92 ⟨rfl, b93⟩
  have B94 := hide ((unhide B86).trans (b93.mono (unhide B86).size))
  clear B86
  have BU95 := hide ((unhide BU87).trans (b93.mono (unhide BU87).size))
  clear BU87
  have O96 := hide ((unhide O88).up b93)
  clear O88
  have O97 := hide ((unhide O89).up b93)
  clear O89
  have Z98 := hide (show w80.heap.size ≤ w92.heap.size from b93.size)
  clear b93
  go_wp2_with fail
  go_ret
  exact ⟨rfl, unhide B94⟩

theorem own : ownKnob Try.prog.godebug = none := by kernel_rfl
theorem laidOut : laidOutB Try.prog = true := by kernel_rfl

set_option maxRecDepth 100000 in
theorem lifted (os : Os) (started : os.Started) (H : Type) (enc : TypeId × Value → H) :
    ReturnsInHanded {} Try.checked os 3 .any (Rows.fnExactChoiceAgreesSpec.pre6 enc Try.prog Try.f3 Rows.fnExactChoiceAgreesRow.domain false) (Rows.fnExactChoiceAgreesSpec.post enc Try.prog Try.f3 false true false false) := by
  refine returnsInHanded_of_change (C := Try.checked) own started (by kernel_rfl) Try.func3
    (ChangeSpec.witness6 (enc := enc) (C := Try.checked) false ⟨#[], #[.slice none 0 0, .slice none 0 0], []⟩ 8 (by kernel_rfl) (by kernel_rfl) (by kernel_rfl) (by kernel_rfl)) ?_
  intro W base args ds gs before hval0 hW hcnd _
  have hval : ∀ (j : Nat) t v, Try.f3.params[j]? = some t → args[j]? = some v → Value.okWide Try.prog W .any base t v := hval0
  have hW' := hW
  obtain ⟨p, q, hA0, hV, rfl, hfz, hnd⟩ := hW
  have hA : DataW.TrodAll enc Try.prog W 0 (fun _ => true) true Try.f3.params.toList args.toList ds p := hA0
  rw [Try.params3] at hA hval
  obtain ⟨v0, vs0, d0, ds0, p0, q0, hargs, rfl, rfl, h0, r0⟩ := trodAll_cons hA
  obtain ⟨v1, vs1, d1, ds1, p1, q1, rfl, rfl, rfl, h1, r1⟩ := trodAll_cons r0
  obtain ⟨rfl, rfl, rfl⟩ := trodAll_nil r1
  obtain rfl : args = #[v0, v1] := by cases args; simp_all
  obtain ⟨rfl, rfl⟩ := trodVars_none hV
  obtain ⟨a0, len0, cap0, rfl⟩ := okWide_slice Try.underlying22 (hval 0 22 v0 rfl rfl)
  have k0 := h0
  have lt0 : ∀ x ∈ p0, x.block < W.heap.size := by obtain ⟨m, hm⟩ := k0; exact DataW.trod_lt m _ _ _ hm
  obtain ⟨ns0, rfl, hl0, hn0, ho0⟩ := openItemSS h0
  obtain ⟨a1, len1, cap1, rfl⟩ := okWide_slice Try.underlying23 (hval 1 23 v1 rfl rfl)
  have k1 := h1
  have lt1 : ∀ x ∈ p1, x.block < W.heap.size := by obtain ⟨m, hm⟩ := k1; exact DataW.trod_lt m _ _ _ hm
  obtain ⟨ns1, rfl, hl1, hn1, ho1⟩ := openIntS h1
  clear hA0 hval0
  refine (walk ns0 _ ns1 _ W ⟨hl0, ho0⟩ ⟨a0, cap0, rfl, hn0⟩ ⟨hl1, ho1⟩ ⟨a1, cap1, rfl, hn1⟩).mono fun e W' ⟨he, bel⟩ => ?_
  subst he
  exact ⟨_, rfl, _, _, _, [], _, [], hW', trodAll_mk1 (shut_bool Try.underlying4 _), (trodAll_cons_mk (Below.trod laidOut (by kernel_rfl) (of_decide_eq_true (by kernel_rfl)) k0 bel lt0) (trodAll_cons_mk (Below.trod laidOut (by kernel_rfl) (of_decide_eq_true (by kernel_rfl)) k1 bel lt1) trodAll_mk0)), rfl, bel.frame _, fun h => by cases h⟩

theorem over : Rows.fnExactChoiceAgreesRow.holds Try.pinned (OpenSpec.ofChange Rows.fnExactChoiceAgreesSpec) :=
  OpenClaim.holds_of_wide 3 Try.f3 rfl rfl rfl rfl rfl rfl rfl ⟨rfl, rfl, rfl, rfl, rfl⟩ rfl rfl rfl rfl rfl (by kernel_rfl) Try.func3 (by kernel_rfl)
    (of_decide_eq_true (by kernel_rfl)) (by unfold Func.isWrapper; first | (rw [if_pos (by decide +kernel)]; kernel_rfl) | (rw [if_neg (by decide +kernel)]; exact ⟨rfl, rfl⟩))
    (fun os started H enc _ => lifted os started H enc)

end Go.Proofs.Ytpnpgieeiblpfaa.fnExactChoiceAgrees

namespace Go.Proofs.Ytpnpgieeiblpfaa
theorem fnExactChoiceAgrees_holds : Rows.FnExactChoiceAgreesSaid :=
  fnExactChoiceAgrees.over
end Go.Proofs.Ytpnpgieeiblpfaa
