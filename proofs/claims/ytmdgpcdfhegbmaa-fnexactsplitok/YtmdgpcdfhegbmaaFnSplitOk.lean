/-
  Proved: at every argument the law on SplitOk answers true, and the argument reads afterwards as before: the program tells who may listen so as the specification does, and writes into no argument. No condition.
-/
import Derived.Test.YtmdgpcdfhegbmaaSplitOk
import Derived.Test.YtmdgpcdfhegbmaaBoxes
import Derived.Test.YtmdgpcdfhegbmaaRows
import Derived.WalkKit
import Derived.ProofKit
import Derived.OpenShut
import Derived.Handy
namespace Go.Proofs.Ytmdgpcdfhegbmaa.fnExactSplitOk
open Go.ChangeShapes Go.WideShapes Go.ChangeAt Go.RowKit Go.Deep Go.Maps
set_option linter.unusedVariables false


set_option maxHeartbeats 12800000 in
theorem walk (d : SplitV) (v_d : Value) (w : World) (hf_d : SplitFit d) (hr_d : SplitRd w v_d d) :
    Calls Try.prog 4 #[v_d] w fun e w' => e = .returned (.bool true) ∧ Below w.heap.size w w' := by
  have HF_d := hide hf_d
  clear hf_d
  have HR_d := hide hr_d
  obtain ⟨p_d0, p_d1, p_d2, p_d3, rfl⟩ := hr_d.form
  clear hr_d
  go_enter Try.func4, Try.ntmps4
  obtain ⟨bx1, b2, zz3⟩ := boxNew2 w (.slice p_d0 p_d1 p_d2) (.int .i64 p_d3) 28
  go_wp2_with fail
  generalize w.alloc (.cells #[.slice p_d0 p_d1 p_d2, .int .i64 p_d3] 28) = W4 at *
  have B6 := hide b2
  have Z7 := hide (show w.heap.size < W4.heap.size from zz3)
  have BX5 := hide bx1
  clear bx1 b2 zz3
  refine (szSplit_kit d _ W4 (unhide HF_d) ((unhide HR_d).up (unhide B6))).mono ?_
  rintro e w8 ⟨q9, rfl, HQ10, b11⟩
  have B12 := hide ((unhide B6).trans (b11.mono (unhide B6).size))
  clear B6
  have BX13 := hide ((unhide BX5).up b11)
  clear BX5
  have Z14 := hide (show W4.heap.size ≤ w8.heap.size from b11.size)
  clear b11
  by_cases hnegq9 : q9 < 0
  · go_wp2_with fail
    go_ret
    exact ⟨rfl, unhide B12⟩
  have HS15 := hide (unhide HQ10 (by omega))
  obtain ⟨N_d, HN_d⟩ : ∃ N, Hid (nSplit d = N) := ⟨_, rfl⟩
  have NL_d : N_d ≤ 100000000 := by rw [← unhide HN_d]; exact nSplit_le (unhide HS15)
  obtain ⟨x16, x17⟩ := (unhide BX13).two
  go_wp2_with fail
  clear x16 x17
  refine (toSplit_kit d _ w8 (unhide HS15) ((unhide HR_d).up (unhide B12))).mono ?_
  rintro e w18 ⟨v19, S20, rfl, O21, L22, b23⟩
  have B24 := hide ((unhide B12).trans (b23.mono (unhide B12).size))
  clear B12
  have BX25 := hide ((unhide BX13).up b23)
  clear BX13
  have Z26 := hide (show w8.heap.size ≤ w18.heap.size from b23.size)
  clear b23
  have H27 := hide (unhide O21).lt
  obtain ⟨x28, x29⟩ := (unhide BX25).two
  go_wp2_with fail
  clear x28 x29
  refine (specSplitOk_any d _ w18 (unhide HS15) (unhide O21).rd).mono ?_
  rintro e w30 ⟨rfl, b31⟩
  clear O21
  have B32 := hide ((unhide B24).trans (b31.mono (unhide B24).size))
  clear B24
  have BX33 := hide ((unhide BX25).up b31)
  clear BX25
  have Z34 := hide (show w18.heap.size ≤ w30.heap.size from b31.size)
  clear b31
  have BU35 := hide (Below.refl w30.heap.size w30)
  obtain ⟨x36, x37⟩ := (unhide BX33).two
  go_wp2_with fail
  clear x36 x37
  refine (toSplit_kit d _ w30 (unhide HS15) ((unhide HR_d).up (unhide B32))).mono ?_
  rintro e w38 ⟨v39, S40, rfl, O41, L42, b43⟩
  have B44 := hide ((unhide B32).trans (b43.mono (unhide B32).size))
  clear B32
  have BU45 := hide ((unhide BU35).trans (b43.mono (unhide BU35).size))
  clear BU35
  have BX46 := hide ((unhide BX33).up b43)
  clear BX33
  have Z47 := hide (show w30.heap.size ≤ w38.heap.size from b43.size)
  clear b43
  have H48 := hide (unhide O41).lt
  obtain ⟨r_d0, r_d1, r_d2, r_d3, rfl⟩ := (unhide O41).rd.form
  obtain ⟨x49, x50⟩ := (unhide BX46).two
  have lt51 : w.heap.size < w38.heap.size := (unhide BX46).1
  obtain ⟨bx52, b53, zz54⟩ := boxNew2 w38 (.slice r_d0 r_d1 r_d2) (.int .i64 r_d3) 31
  go_wp2_with fail
  generalize w38.alloc (.cells #[.slice r_d0 r_d1 r_d2, .int .i64 r_d3] 31) = W55 at *
  have B57 := hide ((unhide B44).trans (b53.mono (unhide B44).size))
  clear B44
  have BU58 := hide ((unhide BU45).trans (b53.mono (unhide BU45).size))
  clear BU45
  have BX59 := hide ((unhide BX46).up b53)
  clear BX46
  have O60 := hide ((unhide O41).up b53)
  clear O41
  have Z61 := hide (show w38.heap.size < W55.heap.size from zz54)
  have BX56 := hide bx52
  clear bx52 b53 zz54
  clear x49 x50 lt51
  refine (implSplitOk_any d _ W55 (unhide HS15) (unhide O60).rd).mono ?_
  rintro e w62 ⟨rfl, b63⟩
  have B64 := hide ((unhide B57).trans (b63.mono (unhide B57).size))
  clear B57
  have BU65 := hide ((unhide BU58).trans (b63.mono (unhide BU58).size))
  clear BU58
  have BX66 := hide ((unhide BX59).up b63)
  clear BX59
  have BX67 := hide ((unhide BX56).up b63)
  clear BX56
  have O68 := hide ((unhide O60).up b63)
  clear O60
  have Z69 := hide (show W55.heap.size ≤ w62.heap.size from b63.size)
  clear b63
  obtain ⟨x70, x71⟩ := (unhide BX66).two
  obtain ⟨x72, x73⟩ := (unhide BX67).two
  go_wp2_with fail
  have KP74 := hide (show ∀ X : World, Below w62.heap.size w62 X → (fun (X : World) => (X.cell? ⟨w.heap.size, 0, none⟩ = some (.slice p_d0 p_d1 p_d2) ∧ X.cell? ⟨w.heap.size, 1, none⟩ = some (.int .i64 p_d3)) ∧ (X.cell? ⟨w38.heap.size, 0, none⟩ = some (.slice r_d0 r_d1 r_d2) ∧ X.cell? ⟨w38.heap.size, 1, none⟩ = some (.int .i64 r_d3)) ∧ Hid (Below w62.heap.size w62 X)) X from fun X b => ⟨((unhide BX66).up b).two, ((unhide BX67).up b).two, hide b⟩)
  have BD75 := hide ((Below.refl w62.heap.size w62).drew)
  go_region_held3 (fun (X : World) => (X.cell? ⟨w.heap.size, 0, none⟩ = some (.slice p_d0 p_d1 p_d2) ∧ X.cell? ⟨w.heap.size, 1, none⟩ = some (.int .i64 p_d3)) ∧ (X.cell? ⟨w38.heap.size, 0, none⟩ = some (.slice r_d0 r_d1 r_d2) ∧ X.cell? ⟨w38.heap.size, 1, none⟩ = some (.int .i64 r_d3)) ∧ Hid (Below w62.heap.size w62 X)) ((refine unhide KP74 _ ?_; exact unhide (by assumption)))
    (first
      | (go_at_call 15; have _t := BB82; refine (eqSplit_kit d _ _ _ (unhide HS15) ((unhide O68).up (unhide BB82)).rd (unhide O79).rd).mono ?_; rintro e w83 ⟨rfl, b84⟩; have BB85 := hide ((unhide BB82).trans (b84.mono (unhide BB82).size)); clear b84)
      | (go_at_call 13; refine (toSplit_kit d _ _ (unhide HS15) ((unhide HR_d).up ((unhide B64).trans ((unhide BD75).mono (unhide B64).size)))).mono ?_; rintro e w76 ⟨v77, S78, rfl, O79, L80, b81⟩; have BB82 := hide ((unhide BD75).trans (b81.mono (unhide BD75).size)); clear b81)
      | fail)
  clear x70 x71 x72 x73
  all_goals
    try clear _t
    have B86 := hide ((unhide B64).trans ((unhide BB85).mono (unhide B64).size))
    clear B64
    have BU87 := hide ((unhide BU65).trans ((unhide BB85).mono (unhide BU65).size))
    clear BU65
    have BX88 := hide ((unhide BX66).up (unhide BB85))
    clear BX66
    have BX89 := hide ((unhide BX67).up (unhide BB85))
    clear BX67
    have O90 := hide ((unhide O68).up (unhide BB85))
    clear O68
    have Z91 := hide (show w62.heap.size ≤ w83.heap.size from (unhide BB85).size)
    clear BB85 BB82 KP74 BD75 O79 L80
    obtain ⟨x92, x93⟩ := (unhide BX88).two
    obtain ⟨x94, x95⟩ := (unhide BX89).two
    go_wp2_with fail
    go_ret
    exact ⟨rfl, unhide B86⟩

theorem own : ownKnob Try.prog.godebug = none := by kernel_rfl
theorem laidOut : laidOutB Try.prog = true := by kernel_rfl

set_option maxRecDepth 100000 in
theorem lifted (os : Os) (started : os.Started) (H : Type) (enc : TypeId × Value → H) :
    ReturnsInHanded {} Try.checked os 4 .any (Rows.fnExactSplitOkSpec.pre6 enc Try.prog Try.f4 Rows.fnExactSplitOkRow.domain false) (Rows.fnExactSplitOkSpec.post enc Try.prog Try.f4 false true false false) := by
  refine returnsInHanded_of_change (C := Try.checked) own started (by kernel_rfl) Try.func4
    (ChangeSpec.witness6 (enc := enc) (C := Try.checked) false ⟨#[], #[.agg #[.slice none 0 0, .int .i64 0]], []⟩ 8 (by kernel_rfl) (by kernel_rfl) (by kernel_rfl) (by kernel_rfl)) ?_
  intro W base args ds gs before hval0 hW hcnd _
  have hval : ∀ (j : Nat) t v, Try.f4.params[j]? = some t → args[j]? = some v → Value.okWide Try.prog W .any base t v := hval0
  have hW' := hW
  obtain ⟨p, q, hA0, hV, rfl, hfz, hnd⟩ := hW
  have hA : DataW.TrodAll enc Try.prog W 0 (fun _ => true) true Try.f4.params.toList args.toList ds p := hA0
  rw [Try.params4] at hA hval
  obtain ⟨v0, d0, rfl, rfl, h0⟩ := trodAll_one hA
  obtain ⟨rfl, rfl⟩ := trodVars_none hV
  obtain ⟨cs, rfl, hcs⟩ := aggOf Try.underlying28 cellsSplit (hval 0 28 v0 rfl rfl)
  obtain ⟨c0, c1, rfl⟩ := array2 hcs
  obtain ⟨d, hr, hf⟩ := openSplit h0
  have k0 := h0
  have lt0 : ∀ x ∈ p, x.block < W.heap.size := by obtain ⟨m, hm⟩ := k0; exact DataW.trod_lt m _ _ _ hm
  clear hA0 hval0
  refine (walk d _ W hf hr).mono fun e W' ⟨he, bel⟩ => ?_
  subst he
  exact ⟨_, rfl, _, _, _, [], _, [], hW', trodAll_mk1 (shut_bool Try.underlying4 _), trodAll_mk1 (Below.trod laidOut (by kernel_rfl) (of_decide_eq_true (by kernel_rfl)) k0 bel lt0), rfl, bel.frame _, fun h => by cases h⟩

theorem over : Rows.fnExactSplitOkRow.holds Try.pinned (OpenSpec.ofChange Rows.fnExactSplitOkSpec) :=
  OpenClaim.holds_of_wide 4 Try.f4 rfl rfl rfl rfl rfl rfl rfl ⟨rfl, rfl, rfl, rfl, rfl⟩ rfl rfl rfl rfl rfl (by kernel_rfl) Try.func4 (by kernel_rfl)
    (of_decide_eq_true (by kernel_rfl)) (by unfold Func.isWrapper; first | (rw [if_pos (by decide +kernel)]; kernel_rfl) | (rw [if_neg (by decide +kernel)]; exact ⟨rfl, rfl⟩))
    (fun os started H enc _ => lifted os started H enc)

end Go.Proofs.Ytmdgpcdfhegbmaa.fnExactSplitOk

namespace Go.Proofs.Ytmdgpcdfhegbmaa
theorem fnExactSplitOk_holds : Rows.FnExactSplitOkSaid :=
  fnExactSplitOk.over
end Go.Proofs.Ytmdgpcdfhegbmaa
