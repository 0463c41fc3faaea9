/-
  Proved: at every argument the law on SayOk answers true, and the argument reads afterwards as before: the program tells which words may be as the specification does, and writes into no argument. No condition.
-/
import Derived.Test.YtbpgadipdlogfaaSayOkI
import Derived.Test.YtbpgadipdlogfaaBoxes
import Derived.Test.YtbpgadipdlogfaaRows
import Derived.WalkKit
import Derived.ProofKit
import Derived.OpenShut
import Derived.Handy
namespace Go.Proofs.Ytbpgadipdlogfaa.fnExactSayOk
open Go.ChangeShapes Go.WideShapes Go.ChangeAt Go.RowKit Go.Deep Go.Maps
set_option linter.unusedVariables false


set_option maxHeartbeats 12800000 in
theorem walk (d : SayV) (v_d : Value) (w : World) (hf_d : SayFit d) (hr_d : SayRd w v_d d) :
    Calls Try.prog 5 #[v_d] w fun e w' => e = .returned (.bool true) ∧ Below w.heap.size w w' := by
  have HF_d := hide hf_d
  clear hf_d
  have HR_d := hide hr_d
  obtain ⟨p_d0, p_d1, p_d2, p_d3, p_d4, p_d5, p_d6, p_d7, rfl⟩ := hr_d.form
  clear hr_d
  go_enter Try.func5, Try.ntmps5
  obtain ⟨bx1, b2, zz3⟩ := boxNew6 w (.int .i64 p_d0) (.int .i64 p_d1) (.int .i64 p_d2) (.string p_d3) (.int .i64 p_d4) (.slice p_d5 p_d6 p_d7) 29
  go_wp2_with fail
  generalize w.alloc (.cells #[.int .i64 p_d0, .int .i64 p_d1, .int .i64 p_d2, .string p_d3, .int .i64 p_d4, .slice p_d5 p_d6 p_d7] 29) = W4 at *
  have B6 := hide b2
  have Z7 := hide (show w.heap.size < W4.heap.size from zz3)
  have BX5 := hide bx1
  clear bx1 b2 zz3
  refine (szSay_kit d _ W4 (unhide HF_d) ((unhide HR_d).up (unhide B6))).mono ?_
  rintro e w8 ⟨q9, rfl, HQ10, b11⟩
  have B12 := hide ((unhide B6).trans (b11.mono (unhide B6).size))
  clear B6
  have BX13 := hide ((unhide BX5).up b11)
  clear BX5
  have Z14 := hide (show W4.heap.size ≤ w8.heap.size from b11.size)
  clear b11
  by_cases hnegq9 : q9 < 0
  · go_wp2_with fail
    go_ret
    exact ⟨rfl, unhide B12⟩
  have HS15 := hide (unhide HQ10 (by omega))
  obtain ⟨N_d, HN_d⟩ : ∃ N, Hid (nSay d = N) := ⟨_, rfl⟩
  have NL_d : N_d ≤ 100000000 := by rw [← unhide HN_d]; exact nSay_le (unhide HS15)
  obtain ⟨x16, x17, x18, x19, x20, x21⟩ := (unhide BX13).six
  go_wp2_with fail
  clear x16 x17 x18 x19 x20 x21
  refine (toSay_kit d _ w8 (unhide HS15) ((unhide HR_d).up (unhide B12))).mono ?_
  rintro e w22 ⟨v23, S24, rfl, O25, L26, b27⟩
  have B28 := hide ((unhide B12).trans (b27.mono (unhide B12).size))
  clear B12
  have BX29 := hide ((unhide BX13).up b27)
  clear BX13
  have Z30 := hide (show w8.heap.size ≤ w22.heap.size from b27.size)
  clear b27
  have H31 := hide (unhide O25).lt
  obtain ⟨x32, x33, x34, x35, x36, x37⟩ := (unhide BX29).six
  go_wp2_with fail
  clear x32 x33 x34 x35 x36 x37
  refine (specSayOk_any d _ w22 (unhide HS15) (unhide O25).rd).mono ?_
  rintro e w38 ⟨rfl, b39⟩
  clear O25
  have B40 := hide ((unhide B28).trans (b39.mono (unhide B28).size))
  clear B28
  have BX41 := hide ((unhide BX29).up b39)
  clear BX29
  have Z42 := hide (show w22.heap.size ≤ w38.heap.size from b39.size)
  clear b39
  have BU43 := hide (Below.refl w38.heap.size w38)
  obtain ⟨x44, x45, x46, x47, x48, x49⟩ := (unhide BX41).six
  go_wp2_with fail
  clear x44 x45 x46 x47 x48 x49
  refine (toSay_kit d _ w38 (unhide HS15) ((unhide HR_d).up (unhide B40))).mono ?_
  rintro e w50 ⟨v51, S52, rfl, O53, L54, b55⟩
  have B56 := hide ((unhide B40).trans (b55.mono (unhide B40).size))
  clear B40
  have BU57 := hide ((unhide BU43).trans (b55.mono (unhide BU43).size))
  clear BU43
  have BX58 := hide ((unhide BX41).up b55)
  clear BX41
  have Z59 := hide (show w38.heap.size ≤ w50.heap.size from b55.size)
  clear b55
  have H60 := hide (unhide O53).lt
  obtain ⟨r_d0, r_d1, r_d2, r_d3, r_d4, r_d5, r_d6, r_d7, rfl⟩ := (unhide O53).rd.form
  obtain ⟨x61, x62, x63, x64, x65, x66⟩ := (unhide BX58).six
  have lt67 : w.heap.size < w50.heap.size := (unhide BX58).1
  obtain ⟨bx68, b69, zz70⟩ := boxNew6 w50 (.int .i64 r_d0) (.int .i64 r_d1) (.int .i64 r_d2) (.string r_d3) (.int .i64 r_d4) (.slice r_d5 r_d6 r_d7) 34
  go_wp2_with fail
  generalize w50.alloc (.cells #[.int .i64 r_d0, .int .i64 r_d1, .int .i64 r_d2, .string r_d3, .int .i64 r_d4, .slice r_d5 r_d6 r_d7] 34) = W71 at *
  have B73 := hide ((unhide B56).trans (b69.mono (unhide B56).size))
  clear B56
  have BU74 := hide ((unhide BU57).trans (b69.mono (unhide BU57).size))
  clear BU57
  have BX75 := hide ((unhide BX58).up b69)
  clear BX58
  have O76 := hide ((unhide O53).up b69)
  clear O53
  have Z77 := hide (show w50.heap.size < W71.heap.size from zz70)
  have BX72 := hide bx68
  clear bx68 b69 zz70
  clear x61 x62 x63 x64 x65 x66 lt67
  refine (implSayOk_any d _ W71 (unhide HS15) (unhide O76).rd).mono ?_
  rintro e w78 ⟨rfl, b79⟩
  have B80 := hide ((unhide B73).trans (b79.mono (unhide B73).size))
  clear B73
  have BU81 := hide ((unhide BU74).trans (b79.mono (unhide BU74).size))
  clear BU74
  have BX82 := hide ((unhide BX75).up b79)
  clear BX75
  have BX83 := hide ((unhide BX72).up b79)
  clear BX72
  have O84 := hide ((unhide O76).up b79)
  clear O76
  have Z85 := hide (show W71.heap.size ≤ w78.heap.size from b79.size)
  clear b79
  obtain ⟨x86, x87, x88, x89, x90, x91⟩ := (unhide BX82).six
  obtain ⟨x92, x93, x94, x95, x96, x97⟩ := (unhide BX83).six
  go_wp2_with fail
  have KP98 := hide (show ∀ X : World, Below w78.heap.size w78 X → (fun (X : World) => (X.cell? ⟨w.heap.size, 0, none⟩ = some (.int .i64 p_d0) ∧ X.cell? ⟨w.heap.size, 1, none⟩ = some (.int .i64 p_d1) ∧ X.cell? ⟨w.heap.size, 2, none⟩ = some (.int .i64 p_d2) ∧ X.cell? ⟨w.heap.size, 3, none⟩ = some (.string p_d3) ∧ X.cell? ⟨w.heap.size, 4, none⟩ = some (.int .i64 p_d4) ∧ X.cell? ⟨w.heap.size, 5, none⟩ = some (.slice p_d5 p_d6 p_d7)) ∧ (X.cell? ⟨w50.heap.size, 0, none⟩ = some (.int .i64 r_d0) ∧ X.cell? ⟨w50.heap.size, 1, none⟩ = some (.int .i64 r_d1) ∧ X.cell? ⟨w50.heap.size, 2, none⟩ = some (.int .i64 r_d2) ∧ X.cell? ⟨w50.heap.size, 3, none⟩ = some (.string r_d3) ∧ X.cell? ⟨w50.heap.size, 4, none⟩ = some (.int .i64 r_d4) ∧ X.cell? ⟨w50.heap.size, 5, none⟩ = some (.slice r_d5 r_d6 r_d7)) ∧ Hid (Below w78.heap.size w78 X)) X from fun X b => ⟨((unhide BX82).up b).six, ((unhide BX83).up b).six, hide b⟩)
  have BD99 := hide ((Below.refl w78.heap.size w78).drew)
  go_region_held3 (fun (X : World) => (X.cell? ⟨w.heap.size, 0, none⟩ = some (.int .i64 p_d0) ∧ X.cell? ⟨w.heap.size, 1, none⟩ = some (.int .i64 p_d1) ∧ X.cell? ⟨w.heap.size, 2, none⟩ = some (.int .i64 p_d2) ∧ X.cell? ⟨w.heap.size, 3, none⟩ = some (.string p_d3) ∧ X.cell? ⟨w.heap.size, 4, none⟩ = some (.int .i64 p_d4) ∧ X.cell? ⟨w.heap.size, 5, none⟩ = some (.slice p_d5 p_d6 p_d7)) ∧ (X.cell? ⟨w50.heap.size, 0, none⟩ = some (.int .i64 r_d0) ∧ X.cell? ⟨w50.heap.size, 1, none⟩ = some (.int .i64 r_d1) ∧ X.cell? ⟨w50.heap.size, 2, none⟩ = some (.int .i64 r_d2) ∧ X.cell? ⟨w50.heap.size, 3, none⟩ = some (.string r_d3) ∧ X.cell? ⟨w50.heap.size, 4, none⟩ = some (.int .i64 r_d4) ∧ X.cell? ⟨w50.heap.size, 5, none⟩ = some (.slice r_d5 r_d6 r_d7)) ∧ Hid (Below w78.heap.size w78 X)) ((refine unhide KP98 _ ?_; exact unhide (by assumption)))
    (first
      | (go_at_call 16; have _t := BB106; refine (eqSay_kit d _ _ _ (unhide HS15) ((unhide O84).up (unhide BB106)).rd (unhide O103).rd).mono ?_; rintro e w107 ⟨rfl, b108⟩; have BB109 := hide ((unhide BB106).trans (b108.mono (unhide BB106).size)); clear b108)
      | (go_at_call 14; refine (toSay_kit d _ _ (unhide HS15) ((unhide HR_d).up ((unhide B80).trans ((unhide BD99).mono (unhide B80).size)))).mono ?_; rintro e w100 ⟨v101, S102, rfl, O103, L104, b105⟩; have BB106 := hide ((unhide BD99).trans (b105.mono (unhide BD99).size)); clear b105)
      | fail)
  clear x86 x87 x88 x89 x90 x91 x92 x93 x94 x95 x96 x97
  all_goals
    try clear _t
    have B110 := hide ((unhide B80).trans ((unhide BB109).mono (unhide B80).size))
    clear B80
    have BU111 := hide ((unhide BU81).trans ((unhide BB109).mono (unhide BU81).size))
    clear BU81
    have BX112 := hide ((unhide BX82).up (unhide BB109))
    clear BX82
    have BX113 := hide ((unhide BX83).up (unhide BB109))
    clear BX83
    have O114 := hide ((unhide O84).up (unhide BB109))
    clear O84
    have Z115 := hide (show w78.heap.size ≤ w107.heap.size from (unhide BB109).size)
    clear BB109 BB106 KP98 BD99 O103 L104
    obtain ⟨x116, x117, x118, x119, x120, x121⟩ := (unhide BX112).six
    obtain ⟨x122, x123, x124, x125, x126, x127⟩ := (unhide BX113).six
    go_wp2_with fail
    go_ret
    exact ⟨rfl, unhide B110⟩

theorem own : ownKnob Try.prog.godebug = none := by kernel_rfl
theorem laidOut : laidOutB Try.prog = true := by kernel_rfl

set_option maxRecDepth 100000 in
theorem lifted (os : Os) (started : os.Started) (H : Type) (enc : TypeId × Value → H) :
    ReturnsInHanded {} Try.checked os 5 .any (Rows.fnExactSayOkSpec.pre6 enc Try.prog Try.f5 Rows.fnExactSayOkRow.domain false) (Rows.fnExactSayOkSpec.post enc Try.prog Try.f5 false true false false) := by
  refine returnsInHanded_of_change (C := Try.checked) own started (by kernel_rfl) Try.func5
    (ChangeSpec.witness6 (enc := enc) (C := Try.checked) false ⟨#[], #[.agg #[.int .i64 0, .int .i64 0, .int .i64 0, .string ⟨#[]⟩, .int .i64 0, .slice none 0 0]], []⟩ 8 (by kernel_rfl) (by kernel_rfl) (by kernel_rfl) (by kernel_rfl)) ?_
  intro W base args ds gs before hval0 hW hcnd _
  have hval : ∀ (j : Nat) t v, Try.f5.params[j]? = some t → args[j]? = some v → Value.okWide Try.prog W .any base t v := hval0
  have hW' := hW
  obtain ⟨p, q, hA0, hV, rfl, hfz, hnd⟩ := hW
  have hA : DataW.TrodAll enc Try.prog W 0 (fun _ => true) true Try.f5.params.toList args.toList ds p := hA0
  rw [Try.params5] at hA hval
  obtain ⟨v0, d0, rfl, rfl, h0⟩ := trodAll_one hA
  obtain ⟨rfl, rfl⟩ := trodVars_none hV
  obtain ⟨cs, rfl, hcs⟩ := aggOf Try.underlying29 cellsSay (hval 0 29 v0 rfl rfl)
  obtain ⟨c0, c1, c2, c3, c4, c5, rfl⟩ := array6 hcs
  obtain ⟨d, hr, hf⟩ := openSay h0
  have k0 := h0
  have lt0 : ∀ x ∈ p, x.block < W.heap.size := by obtain ⟨m, hm⟩ := k0; exact DataW.trod_lt m _ _ _ hm
  clear hA0 hval0
  refine (walk d _ W hf hr).mono fun e W' ⟨he, bel⟩ => ?_
  subst he
  exact ⟨_, rfl, _, _, _, [], _, [], hW', trodAll_mk1 (shut_bool Try.underlying4 _), trodAll_mk1 (Below.trod laidOut (by kernel_rfl) (of_decide_eq_true (by kernel_rfl)) k0 bel lt0), rfl, bel.frame _, fun h => by cases h⟩

theorem over : Rows.fnExactSayOkRow.holds Try.pinned (OpenSpec.ofChange Rows.fnExactSayOkSpec) :=
  OpenClaim.holds_of_wide 5 Try.f5 rfl rfl rfl rfl rfl rfl rfl ⟨rfl, rfl, rfl, rfl, rfl⟩ rfl rfl rfl rfl rfl (by kernel_rfl) Try.func5 (by kernel_rfl)
    (of_decide_eq_true (by kernel_rfl)) (by unfold Func.isWrapper; first | (rw [if_pos (by decide +kernel)]; kernel_rfl) | (rw [if_neg (by decide +kernel)]; exact ⟨rfl, rfl⟩))
    (fun os started H enc _ => lifted os started H enc)

end Go.Proofs.Ytbpgadipdlogfaa.fnExactSayOk

namespace Go.Proofs.Ytbpgadipdlogfaa
theorem fnExactSayOk_holds : Rows.FnExactSayOkSaid :=
  fnExactSayOk.over
end Go.Proofs.Ytbpgadipdlogfaa
