/-
  Proved: at every argument the law on ChoiceCount answers true, and the arguments read afterwards as before: the program counts the choices that agree as the specification does, and writes into no argument. No condition.
-/
import Derived.Test.YtnijccmhajjdoaaMerged4
import Derived.Test.YtnijccmhajjdoaaRows
import Derived.WalkKit
import Derived.ProofKit
import Derived.OpenShut
import Derived.Handy
namespace Go.Proofs.Ytnijccmhajjdoaa.fnExactChoiceCount
open Go.ChangeShapes Go.WideShapes Go.ChangeAt Go.RowKit Go.Deep Go.Maps
set_option linter.unusedVariables false


set_option maxHeartbeats 12800000 in
theorem walk (ws : List (List ItemV)) (v_ws : Value) (w : World) (hf_ws : ItemSSFit ws) (hr_ws : ItemSSRd w v_ws ws) :
    Calls Try.prog 3 #[v_ws] w fun e w' => e = .returned (.bool true) ∧ Below w.heap.size w w' := by
  have HF_ws := hide hf_ws
  clear hf_ws
  have HR_ws := hide hr_ws
  obtain ⟨p_ws0, p_ws1, p_ws2, rfl⟩ := hr_ws.form
  clear hr_ws
  go_enter Try.func3, Try.ntmps3
  have B00 := hide (Below.refl w.heap.size w)
  go_wp2_with fail
  refine (szItemSSR_kit ws _ w (unhide HF_ws) ((unhide HR_ws).up (unhide B00))).mono ?_
  rintro e w1 ⟨q2, rfl, HQ3, b4⟩
  have B5 := hide ((unhide B00).trans (b4.mono (unhide B00).size))
  clear B00
  have Z6 := hide (show w.heap.size ≤ w1.heap.size from b4.size)
  clear b4
  by_cases hnegq2 : q2 < 0
  · go_wp2_with fail
    go_ret
    exact ⟨rfl, unhide B5⟩
  have HS7 := hide (unhide HQ3 (by omega))
  obtain ⟨N_ws, HN_ws⟩ : ∃ N, Hid (nItemSSR ws = N) := ⟨_, rfl⟩
  have NL_ws : N_ws ≤ 100000000 := by rw [← unhide HN_ws]; exact nItemSSR_le (unhide HS7)
  go_wp2_with fail
  refine (toItemSSR_kit ws _ w1 (unhide HS7) ((unhide HR_ws).up (unhide B5))).mono ?_
  rintro e w8 ⟨v9, S10, rfl, O11, L12, b13⟩
  have B14 := hide ((unhide B5).trans (b13.mono (unhide B5).size))
  clear B5
  have Z15 := hide (show w1.heap.size ≤ w8.heap.size from b13.size)
  clear b13
  have H16 := hide (unhide O11).lt
  go_wp2_with fail
  refine (specCount_kit ws _ w8 (unhide HS7) (unhide O11)).mono ?_
  rintro e w17 ⟨rfl, b18⟩
  clear O11
  have B19 := hide ((unhide B14).trans (b18.mono (unhide B14).size))
  clear B14
  have Z20 := hide (show w8.heap.size ≤ w17.heap.size from b18.size)
  clear b18
  have BU21 := hide (Below.refl w17.heap.size w17)
  go_wp2_with fail
  refine (toItemSSR_kit ws _ w17 (unhide HS7) ((unhide HR_ws).up (unhide B19))).mono ?_
  rintro e w22 ⟨v23, S24, rfl, O25, L26, b27⟩
  have B28 := hide ((unhide B19).trans (b27.mono (unhide B19).size))
  clear B19
  have BU29 := hide ((unhide BU21).trans (b27.mono (unhide BU21).size))
  clear BU21
  have Z30 := hide (show w17.heap.size ≤ w22.heap.size from b27.size)
  clear b27
  have H31 := hide (unhide O25).lt
  obtain ⟨r_ws0, r_ws1, r_ws2, rfl⟩ := (unhide O25).rd.form
  go_wp2_with fail
  refine (implCount_kit ws _ w22 (unhide HS7) (unhide O25)).mono ?_
  rintro e w32 ⟨rfl, b33⟩
  have B34 := hide ((unhide B28).trans (b33.mono (unhide B28).size))
  clear B28
  have BU35 := hide ((unhide BU29).trans (b33.mono (unhide BU29).size))
  clear BU29
  have O36 := hide ((unhide O25).up b33)
  clear O25
  have Z37 := hide (show w22.heap.size ≤ w32.heap.size from b33.size)
  clear b33
  go_wp2_with fail
  refine (toItemSSR_kit ws _ w32 (unhide HS7) ((unhide HR_ws).up (unhide B34))).mono ?_
  rintro e w38 ⟨v39, S40, rfl, O41, L42, b43⟩
  have B44 := hide ((unhide B34).trans (b43.mono (unhide B34).size))
  clear B34
  have BU45 := hide ((unhide BU35).trans (b43.mono (unhide BU35).size))
  clear BU35
  have O46 := hide ((unhide O36).up b43)
  clear O36
  have Z47 := hide (show w32.heap.size ≤ w38.heap.size from b43.size)
  clear b43
  have H48 := hide (unhide O41).lt
  go_wp2_with fail
  refine (eqItemSSR_kit ws _ _ w38 (unhide HS7) (unhide O46).rd (unhide O41).rd).mono ?_
  rintro e w49 ⟨rfl, b50⟩
  have B51 := hide ((unhide B44).trans (b50.mono (unhide B44).size))
  clear B44
  have BU52 := hide ((unhide BU45).trans (b50.mono (unhide BU45).size))
  clear BU45
  have O53 := hide ((unhide O46).up b50)
  clear O46
  have Z54 := hide (show w38.heap.size ≤ w49.heap.size from b50.size)
  clear b50
  go_wp2_with fail
  go_ret
  exact ⟨rfl, unhide B51⟩

theorem own : ownKnob Try.prog.godebug = none := by kernel_rfl
theorem laidOut : laidOutB Try.prog = true := by kernel_rfl

set_option maxRecDepth 100000 in
theorem lifted (os : Os) (started : os.Started) (H : Type) (enc : TypeId × Value → H) :
    ReturnsInHanded {} Try.checked os 3 .any (Rows.fnExactChoiceCountSpec.pre6 enc Try.prog Try.f3 Rows.fnExactChoiceCountRow.domain false) (Rows.fnExactChoiceCountSpec.post enc Try.prog Try.f3 false true false false) := by
  refine returnsInHanded_of_change (C := Try.checked) own started (by kernel_rfl) Try.func3
    (ChangeSpec.witness6 (enc := enc) (C := Try.checked) false ⟨#[], #[.slice none 0 0], []⟩ 8 (by kernel_rfl) (by kernel_rfl) (by kernel_rfl) (by kernel_rfl)) ?_
  intro W base args ds gs before hval0 hW hcnd _
  have hval : ∀ (j : Nat) t v, Try.f3.params[j]? = some t → args[j]? = some v → Value.okWide Try.prog W .any base t v := hval0
  have hW' := hW
  obtain ⟨p, q, hA0, hV, rfl, hfz, hnd⟩ := hW
  have hA : DataW.TrodAll enc Try.prog W 0 (fun _ => true) true Try.f3.params.toList args.toList ds p := hA0
  rw [Try.params3] at hA hval
  obtain ⟨v0, vs0, d0, ds0, p0, q0, hargs, rfl, rfl, h0, r0⟩ := trodAll_cons hA
  obtain ⟨rfl, rfl, rfl⟩ := trodAll_nil r0
  obtain rfl : args = #[v0] := by cases args; simp_all
  obtain ⟨rfl, rfl⟩ := trodVars_none hV
  obtain ⟨a0, len0, cap0, rfl⟩ := okWide_slice Try.underlying22 (hval 0 22 v0 rfl rfl)
  have k0 := h0
  have lt0 : ∀ x ∈ p0, x.block < W.heap.size := by obtain ⟨m, hm⟩ := k0; exact DataW.trod_lt m _ _ _ hm
  obtain ⟨ns0, rfl, hl0, hn0, ho0⟩ := openItemSS h0
  clear hA0 hval0
  refine (walk ns0 _ W ⟨hl0, ho0⟩ ⟨a0, cap0, rfl, hn0⟩).mono fun e W' ⟨he, bel⟩ => ?_
  subst he
  exact ⟨_, rfl, _, _, _, [], _, [], hW', trodAll_mk1 (shut_bool Try.underlying4 _), (trodAll_cons_mk (Below.trod laidOut (by kernel_rfl) (of_decide_eq_true (by kernel_rfl)) k0 bel lt0) trodAll_mk0), rfl, bel.frame _, fun h => by cases h⟩

theorem over : Rows.fnExactChoiceCountRow.holds Try.pinned (OpenSpec.ofChange Rows.fnExactChoiceCountSpec) :=
  OpenClaim.holds_of_wide 3 Try.f3 rfl rfl rfl rfl rfl rfl rfl ⟨rfl, rfl, rfl, rfl, rfl⟩ rfl rfl rfl rfl rfl (by kernel_rfl) Try.func3 (by kernel_rfl)
    (of_decide_eq_true (by kernel_rfl)) (by unfold Func.isWrapper; first | (rw [if_pos (by decide +kernel)]; kernel_rfl) | (rw [if_neg (by decide +kernel)]; exact ⟨rfl, rfl⟩))
    (fun os started H enc _ => lifted os started H enc)

end Go.Proofs.Ytnijccmhajjdoaa.fnExactChoiceCount

namespace Go.Proofs.Ytnijccmhajjdoaa
theorem fnExactChoiceCount_holds : Rows.FnExactChoiceCountSaid :=
  fnExactChoiceCount.over
end Go.Proofs.Ytnijccmhajjdoaa
