/-
  Proved: at every argument the law on GatherOk answers true, and the argument reads afterwards as before: the program tells which gatherers may be as the specification does, and writes into no argument. No condition.
-/
import Derived.Test.YtpnpgieeiblpfaaGatherOkW
import Derived.Test.YtpnpgieeiblpfaaBoxes
import Derived.Test.YtpnpgieeiblpfaaRows
import Derived.WalkKit
import Derived.ProofKit
import Derived.OpenShut
import Derived.Handy
namespace Go.Proofs.Ytpnpgieeiblpfaa.fnExactGatherOk
open Go.ChangeShapes Go.WideShapes Go.ChangeAt Go.RowKit Go.Deep Go.Maps
set_option linter.unusedVariables false


set_option maxHeartbeats 12800000 in
theorem walk (d : GatherV) (v_d : Value) (w : World) (hf_d : GatherFit d) (hr_d : GatherRd w v_d d) :
    Calls Try.prog 5 #[v_d] w fun e w' => e = .returned (.bool true) ∧ Below w.heap.size w w' := by
  have HF_d := hide hf_d
  clear hf_d
  have HR_d := hide hr_d
  obtain ⟨p_d0, p_d1, p_d2, p_d3, p_d4, p_d5, p_d6, p_d7, p_d8, rfl⟩ := hr_d.form
  clear hr_d
  go_enter Try.func5, Try.ntmps5
  obtain ⟨bx1, b2, zz3⟩ := boxNew3 w (.slice p_d0 p_d1 p_d2) (.slice p_d3 p_d4 p_d5) (.slice p_d6 p_d7 p_d8) 42
  go_wp2_with fail
  generalize w.alloc (.cells #[.slice p_d0 p_d1 p_d2, .slice p_d3 p_d4 p_d5, .slice p_d6 p_d7 p_d8] 42) = W4 at *
  have B6 := hide b2
  have Z7 := hide (show w.heap.size < W4.heap.size from zz3)
  have BX5 := hide bx1
  clear bx1 b2 zz3
  refine (szGather_kit d _ W4 (unhide HF_d) ((unhide HR_d).up (unhide B6))).mono ?_
  rintro e w8 ⟨q9, rfl, HQ10, b11⟩
  have B12 := hide ((unhide B6).trans (b11.mono (unhide B6).size))
  clear B6
  have BX13 := hide ((unhide BX5).up b11)
  clear BX5
  have Z14 := hide (show W4.heap.size ≤ w8.heap.size from b11.size)
  clear b11
  by_cases hnegq9 : q9 < 0
  · go_wp2_with fail
    go_ret
    exact ⟨rfl, unhide B12⟩
  have HS15 := hide (unhide HQ10 (by omega))
  obtain ⟨N_d, HN_d⟩ : ∃ N, Hid (nGather d = N) := ⟨_, rfl⟩
  have NL_d : N_d ≤ 100000000 := by rw [← unhide HN_d]; exact nGather_le (unhide HS15)
  obtain ⟨x16, x17, x18⟩ := (unhide BX13).three
  go_wp2_with fail
  clear x16 x17 x18
  refine (toGather_kit d _ w8 (unhide HS15) ((unhide HR_d).up (unhide B12))).mono ?_
  rintro e w19 ⟨v20, S21, rfl, O22, L23, b24⟩
  have B25 := hide ((unhide B12).trans (b24.mono (unhide B12).size))
  clear B12
  have BX26 := hide ((unhide BX13).up b24)
  clear BX13
  have Z27 := hide (show w8.heap.size ≤ w19.heap.size from b24.size)
  clear b24
  have H28 := hide (unhide O22).lt
  obtain ⟨x29, x30, x31⟩ := (unhide BX26).three
  go_wp2_with fail
  clear x29 x30 x31
  refine (specGatherOk_any d _ w19 (unhide HS15) (unhide O22)).mono ?_
  rintro e w32 ⟨rfl, b33⟩
  clear O22
  have B34 := hide ((unhide B25).trans (b33.mono (unhide B25).size))
  clear B25
  have BX35 := hide ((unhide BX26).up b33)
  clear BX26
  have Z36 := hide (show w19.heap.size ≤ w32.heap.size from b33.size)
  clear b33
  have BU37 := hide (Below.refl w32.heap.size w32)
  obtain ⟨x38, x39, x40⟩ := (unhide BX35).three
  go_wp2_with fail
  clear x38 x39 x40
  refine (toGather_kit d _ w32 (unhide HS15) ((unhide HR_d).up (unhide B34))).mono ?_
  rintro e w41 ⟨v42, S43, rfl, O44, L45, b46⟩
  have B47 := hide ((unhide B34).trans (b46.mono (unhide B34).size))
  clear B34
  have BU48 := hide ((unhide BU37).trans (b46.mono (unhide BU37).size))
  clear BU37
  have BX49 := hide ((unhide BX35).up b46)
  clear BX35
  have Z50 := hide (show w32.heap.size ≤ w41.heap.size from b46.size)
  clear b46
  have H51 := hide (unhide O44).lt
  obtain ⟨r_d0, r_d1, r_d2, r_d3, r_d4, r_d5, r_d6, r_d7, r_d8, rfl⟩ := (unhide O44).rd.form
  obtain ⟨x52, x53, x54⟩ := (unhide BX49).three
  have lt55 : w.heap.size < w41.heap.size := (unhide BX49).1
  obtain ⟨bx56, b57, zz58⟩ := boxNew3 w41 (.slice r_d0 r_d1 r_d2) (.slice r_d3 r_d4 r_d5) (.slice r_d6 r_d7 r_d8) 46
  go_wp2_with fail
  generalize w41.alloc (.cells #[.slice r_d0 r_d1 r_d2, .slice r_d3 r_d4 r_d5, .slice r_d6 r_d7 r_d8] 46) = W59 at *
  have B61 := hide ((unhide B47).trans (b57.mono (unhide B47).size))
  clear B47
  have BU62 := hide ((unhide BU48).trans (b57.mono (unhide BU48).size))
  clear BU48
  have BX63 := hide ((unhide BX49).up b57)
  clear BX49
  have O64 := hide ((unhide O44).up b57)
  clear O44
  have Z65 := hide (show w41.heap.size < W59.heap.size from zz58)
  have BX60 := hide bx56
  clear bx56 b57 zz58
  clear x52 x53 x54 lt55
  refine (implGatherOk_any d _ W59 (unhide HS15) (unhide O64)).mono ?_
  rintro e w66 ⟨rfl, b67⟩
  have B68 := hide ((unhide B61).trans (b67.mono (unhide B61).size))
  clear B61
  have BU69 := hide ((unhide BU62).trans (b67.mono (unhide BU62).size))
  clear BU62
  have BX70 := hide ((unhide BX63).up b67)
  clear BX63
  have BX71 := hide ((unhide BX60).up b67)
  clear BX60
  have O72 := hide ((unhide O64).up b67)
  clear O64
  have Z73 := hide (show W59.heap.size ≤ w66.heap.size from b67.size)
  clear b67
  obtain ⟨x74, x75, x76⟩ := (unhide BX70).three
  obtain ⟨x77, x78, x79⟩ := (unhide BX71).three
  go_wp2_with fail
  have KP80 := hide (show ∀ X : World, Below w66.heap.size w66 X → (fun (X : World) => (X.cell? ⟨w.heap.size, 0, none⟩ = some (.slice p_d0 p_d1 p_d2) ∧ X.cell? ⟨w.heap.size, 1, none⟩ = some (.slice p_d3 p_d4 p_d5) ∧ X.cell? ⟨w.heap.size, 2, none⟩ = some (.slice p_d6 p_d7 p_d8)) ∧ (X.cell? ⟨w41.heap.size, 0, none⟩ = some (.slice r_d0 r_d1 r_d2) ∧ X.cell? ⟨w41.heap.size, 1, none⟩ = some (.slice r_d3 r_d4 r_d5) ∧ X.cell? ⟨w41.heap.size, 2, none⟩ = some (.slice r_d6 r_d7 r_d8)) ∧ Hid (Below w66.heap.size w66 X)) X from fun X b => ⟨((unhide BX70).up b).three, ((unhide BX71).up b).three, hide b⟩)
  have BD81 := hide ((Below.refl w66.heap.size w66).drew)
  go_region_held3 (fun (X : World) => (X.cell? ⟨w.heap.size, 0, none⟩ = some (.slice p_d0 p_d1 p_d2) ∧ X.cell? ⟨w.heap.size, 1, none⟩ = some (.slice p_d3 p_d4 p_d5) ∧ X.cell? ⟨w.heap.size, 2, none⟩ = some (.slice p_d6 p_d7 p_d8)) ∧ (X.cell? ⟨w41.heap.size, 0, none⟩ = some (.slice r_d0 r_d1 r_d2) ∧ X.cell? ⟨w41.heap.size, 1, none⟩ = some (.slice r_d3 r_d4 r_d5) ∧ X.cell? ⟨w41.heap.size, 2, none⟩ = some (.slice r_d6 r_d7 r_d8)) ∧ Hid (Below w66.heap.size w66 X)) ((refine unhide KP80 _ ?_; exact unhide (by assumption)))
    (first
      | (go_at_call 24; have _t := BB88; refine (eqGather_kit d _ _ _ (unhide HS15) ((unhide O72).up (unhide BB88)).rd (unhide O85).rd).mono ?_; rintro e w89 ⟨rfl, b90⟩; have BB91 := hide ((unhide BB88).trans (b90.mono (unhide BB88).size)); clear b90)
      | (go_at_call 22; refine (toGather_kit d _ _ (unhide HS15) ((unhide HR_d).up ((unhide B68).trans ((unhide BD81).mono (unhide B68).size)))).mono ?_; rintro e w82 ⟨v83, S84, rfl, O85, L86, b87⟩; have BB88 := hide ((unhide BD81).trans (b87.mono (unhide BD81).size)); clear b87)
      | fail)
  clear x74 x75 x76 x77 x78 x79
  all_goals
    try clear _t
    have B92 := hide ((unhide B68).trans ((unhide BB91).mono (unhide B68).size))
    clear B68
    have BU93 := hide ((unhide BU69).trans ((unhide BB91).mono (unhide BU69).size))
    clear BU69
    have BX94 := hide ((unhide BX70).up (unhide BB91))
    clear BX70
    have BX95 := hide ((unhide BX71).up (unhide BB91))
    clear BX71
    have O96 := hide ((unhide O72).up (unhide BB91))
    clear O72
    have Z97 := hide (show w66.heap.size ≤ w89.heap.size from (unhide BB91).size)
    clear BB91 BB88 KP80 BD81 O85 L86
    obtain ⟨x98, x99, x100⟩ := (unhide BX94).three
    obtain ⟨x101, x102, x103⟩ := (unhide BX95).three
    go_wp2_with fail
    go_ret
    exact ⟨rfl, unhide B92⟩

theorem own : ownKnob Try.prog.godebug = none := by kernel_rfl
theorem laidOut : laidOutB Try.prog = true := by kernel_rfl

set_option maxRecDepth 100000 in
theorem lifted (os : Os) (started : os.Started) (H : Type) (enc : TypeId × Value → H) :
    ReturnsInHanded {} Try.checked os 5 .any (Rows.fnExactGatherOkSpec.pre6 enc Try.prog Try.f5 Rows.fnExactGatherOkRow.domain false) (Rows.fnExactGatherOkSpec.post enc Try.prog Try.f5 false true false false) := by
  refine returnsInHanded_of_change (C := Try.checked) own started (by kernel_rfl) Try.func5
    (ChangeSpec.witness6 (enc := enc) (C := Try.checked) false ⟨#[], #[.agg #[.slice none 0 0, .slice none 0 0, .slice none 0 0]], []⟩ 8 (by kernel_rfl) (by kernel_rfl) (by kernel_rfl) (by kernel_rfl)) ?_
  intro W base args ds gs before hval0 hW hcnd _
  have hval : ∀ (j : Nat) t v, Try.f5.params[j]? = some t → args[j]? = some v → Value.okWide Try.prog W .any base t v := hval0
  have hW' := hW
  obtain ⟨p, q, hA0, hV, rfl, hfz, hnd⟩ := hW
  have hA : DataW.TrodAll enc Try.prog W 0 (fun _ => true) true Try.f5.params.toList args.toList ds p := hA0
  rw [Try.params5] at hA hval
  obtain ⟨v0, d0, rfl, rfl, h0⟩ := trodAll_one hA
  obtain ⟨rfl, rfl⟩ := trodVars_none hV
  obtain ⟨cs, rfl, hcs⟩ := aggOf Try.underlying42 cellsGather (hval 0 42 v0 rfl rfl)
  obtain ⟨c0, c1, c2, rfl⟩ := array3 hcs
  obtain ⟨d, hr, hf⟩ := openGather h0
  have k0 := h0
  have lt0 : ∀ x ∈ p, x.block < W.heap.size := by obtain ⟨m, hm⟩ := k0; exact DataW.trod_lt m _ _ _ hm
  clear hA0 hval0
  refine (walk d _ W hf hr).mono fun e W' ⟨he, bel⟩ => ?_
  subst he
  exact ⟨_, rfl, _, _, _, [], _, [], hW', trodAll_mk1 (shut_bool Try.underlying4 _), trodAll_mk1 (Below.trod laidOut (by kernel_rfl) (of_decide_eq_true (by kernel_rfl)) k0 bel lt0), rfl, bel.frame _, fun h => by cases h⟩

theorem over : Rows.fnExactGatherOkRow.holds Try.pinned (OpenSpec.ofChange Rows.fnExactGatherOkSpec) :=
  OpenClaim.holds_of_wide 5 Try.f5 rfl rfl rfl rfl rfl rfl rfl ⟨rfl, rfl, rfl, rfl, rfl⟩ rfl rfl rfl rfl rfl (by kernel_rfl) Try.func5 (by kernel_rfl)
    (of_decide_eq_true (by kernel_rfl)) (by unfold Func.isWrapper; first | (rw [if_pos (by decide +kernel)]; kernel_rfl) | (rw [if_neg (by decide +kernel)]; exact ⟨rfl, rfl⟩))
    (fun os started H enc _ => lifted os started H enc)

end Go.Proofs.Ytpnpgieeiblpfaa.fnExactGatherOk

namespace Go.Proofs.Ytpnpgieeiblpfaa
theorem fnExactGatherOk_holds : Rows.FnExactGatherOkSaid :=
  fnExactGatherOk.over
end Go.Proofs.Ytpnpgieeiblpfaa
