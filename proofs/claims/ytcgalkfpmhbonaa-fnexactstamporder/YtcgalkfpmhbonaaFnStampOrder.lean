/-
  Proved: at every argument the law on StampOrder answers true, and the arguments read afterwards as before: the program tells how two stamps stand as the specification does, and writes into no argument. No condition.
-/
import Derived.Test.YtcgalkfpmhbonaaOrderS
import Derived.Test.YtcgalkfpmhbonaaMarkRowsOwn
import Derived.Test.YtcgalkfpmhbonaaRows
import Derived.WalkKit
import Derived.ProofKit
import Derived.OpenShut
import Derived.Handy
namespace Go.Proofs.Ytcgalkfpmhbonaa.fnExactStampOrder
open Go.ChangeShapes Go.WideShapes Go.ChangeAt Go.RowKit Go.Deep Go.Maps
set_option linter.unusedVariables false


set_option maxHeartbeats 12800000 in
theorem walk (ns : List MarkV) (v_ns : Value) (ms : List MarkV) (v_ms : Value) (w : World) (hf_ns : MarkSFit ns) (hr_ns : MarkSRd w v_ns ns) (hf_ms : MarkSFit ms) (hr_ms : MarkSRd w v_ms ms) :
    Calls Try.prog 6 #[v_ns, v_ms] w fun e w' => e = .returned (.bool true) ∧ Below w.heap.size w w' := by
  have HF_ns := hide hf_ns
  clear hf_ns
  have HR_ns := hide hr_ns
  obtain ⟨p_ns0, p_ns1, p_ns2, rfl⟩ := hr_ns.form
  clear hr_ns
  have HF_ms := hide hf_ms
  clear hf_ms
  have HR_ms := hide hr_ms
  obtain ⟨p_ms0, p_ms1, p_ms2, rfl⟩ := hr_ms.form
  clear hr_ms
  go_enter Try.func6, Try.ntmps6
  have B00 := hide (Below.refl w.heap.size w)
  go_wp2_with fail
  refine (szMarkS_kitL ns _ 1048576 w (by omega) (by omega) (unhide HF_ns) ((unhide HR_ns).up (unhide B00))).mono ?_
  rintro e w1 ⟨q2, rfl, ql5, HQ3, b4⟩
  have B6 := hide ((unhide B00).trans (b4.mono (unhide B00).size))
  clear B00
  have Z7 := hide (show w.heap.size ≤ w1.heap.size from b4.size)
  clear b4
  by_cases hnegq2 : q2 < 0
  · go_wp2_with fail
    go_ret
    exact ⟨rfl, unhide B6⟩
  have HS8 := hide (unhide HQ3 (by omega))
  go_wp2_with fail
  refine (szMarkS_kitL ms _ q2 w1 (by omega) (by omega) (unhide HF_ms) ((unhide HR_ms).up (unhide B6))).mono ?_
  rintro e w9 ⟨q10, rfl, ql13, HQ11, b12⟩
  have B14 := hide ((unhide B6).trans (b12.mono (unhide B6).size))
  clear B6
  have Z15 := hide (show w1.heap.size ≤ w9.heap.size from b12.size)
  clear b12
  by_cases hnegq10 : q10 < 0
  · go_wp2_with fail
    go_ret
    exact ⟨rfl, unhide B14⟩
  have HS16 := hide (unhide HQ11 (by omega))
  obtain ⟨N_ns, HN_ns⟩ : ∃ N, Hid (nMarkS ns = N) := ⟨_, rfl⟩
  have NL_ns : N_ns ≤ 100000000 := by rw [← unhide HN_ns]; exact nMarkS_le (unhide HS8)
  obtain ⟨N_ms, HN_ms⟩ : ∃ N, Hid (nMarkS ms = N) := ⟨_, rfl⟩
  have NL_ms : N_ms ≤ 100000000 := by rw [← unhide HN_ms]; exact nMarkS_le (unhide HS16)
  go_wp2_with fail
  refine (toMarkS_kit ns _ w9 (unhide HS8) ((unhide HR_ns).up (unhide B14))).mono ?_
  rintro e w17 ⟨v18, S19, rfl, O20, L21, b22⟩
  have B23 := hide ((unhide B14).trans (b22.mono (unhide B14).size))
  clear B14
  have Z24 := hide (show w9.heap.size ≤ w17.heap.size from b22.size)
  clear b22
  have H25 := hide (unhide O20).lt
  go_wp2_with fail
  refine (toMarkS_kit ms _ w17 (unhide HS16) ((unhide HR_ms).up (unhide B23))).mono ?_
  rintro e w26 ⟨v27, S28, rfl, O29, L30, b31⟩
  have B32 := hide ((unhide B23).trans (b31.mono (unhide B23).size))
  clear B23
  have O33 := hide ((unhide O20).up b31)
  clear O20
  have Z34 := hide (show w17.heap.size ≤ w26.heap.size from b31.size)
  clear b31
  have H35 := hide (unhide O29).lt
  go_wp2_with fail
  refine (specOrder_any ns _ ms _ w26 (unhide HS8) (unhide HS16) (unhide O33).rd (unhide O29).rd).mono ?_
  rintro e w36 ⟨rfl, b37⟩
  clear O33
  clear O29
  have B38 := hide ((unhide B32).trans (b37.mono (unhide B32).size))
  clear B32
  have Z39 := hide (show w26.heap.size ≤ w36.heap.size from b37.size)
  clear b37
  have BU40 := hide (Below.refl w36.heap.size w36)
  go_wp2_with fail
  refine (toMarkS_kit ns _ w36 (unhide HS8) ((unhide HR_ns).up (unhide B38))).mono ?_
  rintro e w41 ⟨v42, S43, rfl, O44, L45, b46⟩
  have B47 := hide ((unhide B38).trans (b46.mono (unhide B38).size))
  clear B38
  have BU48 := hide ((unhide BU40).trans (b46.mono (unhide BU40).size))
  clear BU40
  have Z49 := hide (show w36.heap.size ≤ w41.heap.size from b46.size)
  clear b46
  have H50 := hide (unhide O44).lt
  obtain ⟨r_ns0, r_ns1, r_ns2, rfl⟩ := (unhide O44).rd.form
  go_wp2_with fail
  refine (toMarkS_kit ms _ w41 (unhide HS16) ((unhide HR_ms).up (unhide B47))).mono ?_
  rintro e w51 ⟨v52, S53, rfl, O54, L55, b56⟩
  have B57 := hide ((unhide B47).trans (b56.mono (unhide B47).size))
  clear B47
  have BU58 := hide ((unhide BU48).trans (b56.mono (unhide BU48).size))
  clear BU48
  have O59 := hide ((unhide O44).up b56)
  clear O44
  have Z60 := hide (show w41.heap.size ≤ w51.heap.size from b56.size)
  clear b56
  have H61 := hide (unhide O54).lt
  obtain ⟨r_ms0, r_ms1, r_ms2, rfl⟩ := (unhide O54).rd.form
  go_wp2_with fail
  refine (implOrder_any ns _ ms _ w51 (unhide HS8) (unhide HS16) (unhide O59).rd (unhide O54).rd).mono ?_
  rintro e w62 ⟨rfl, b63⟩
  have B64 := hide ((unhide B57).trans (b63.mono (unhide B57).size))
  clear B57
  have BU65 := hide ((unhide BU58).trans (b63.mono (unhide BU58).size))
  clear BU58
  have O66 := hide ((unhide O59).up b63)
  clear O59
  have O67 := hide ((unhide O54).up b63)
  clear O54
  have Z68 := hide (show w51.heap.size ≤ w62.heap.size from b63.size)
  clear b63
  go_wp2_with fail
  refine (toMarkS_kit ns _ w62 (unhide HS8) ((unhide HR_ns).up (unhide B64))).mono ?_
  rintro e w69 ⟨v70, S71, rfl, O72, L73, b74⟩
  have B75 := hide ((unhide B64).trans (b74.mono (unhide B64).size))
  clear B64
  have BU76 := hide ((unhide BU65).trans (b74.mono (unhide BU65).size))
  clear BU65
  have O77 := hide ((unhide O66).up b74)
  clear O66
  have O78 := hide ((unhide O67).up b74)
  clear O67
  have Z79 := hide (show w62.heap.size ≤ w69.heap.size from b74.size)
  clear b74
  have H80 := hide (unhide O72).lt
  go_wp2_with fail
  refine (eqMarkS_kit ns _ _ w69 (unhide HS8) (unhide O77).rd (unhide O72).rd).mono ?_
  rintro e w81 ⟨rfl, b82⟩
  have B83 := hide ((unhide B75).trans (b82.mono (unhide B75).size))
  clear B75
  have BU84 := hide ((unhide BU76).trans (b82.mono (unhide BU76).size))
  clear BU76
  have O85 := hide ((unhide O77).up b82)
  clear O77
  have O86 := hide ((unhide O78).up b82)
  clear O78
  have Z87 := hide (show w69.heap.size ≤ w81.heap.size from b82.size)
  clear b82
  go_wp2_with fail
  refine (toMarkS_kit ms _ w81 (unhide HS16) ((unhide HR_ms).up (unhide B83))).mono ?_
  rintro e w88 ⟨v89, S90, rfl, O91, L92, b93⟩
  have B94 := hide ((unhide B83).trans (b93.mono (unhide B83).size))
  clear B83
  have BU95 := hide ((unhide BU84).trans (b93.mono (unhide BU84).size))
  clear BU84
  have O96 := hide ((unhide O85).up b93)
  clear O85
  have O97 := hide ((unhide O86).up b93)
  clear O86
  have Z98 := hide (show w81.heap.size ≤ w88.heap.size from b93.size)
  clear b93
  have H99 := hide (unhide O91).lt
  go_wp2_with fail
  refine (eqMarkS_kit ms _ _ w88 (unhide HS16) (unhide O97).rd (unhide O91).rd).mono ?_
  rintro e w100 ⟨rfl, b101⟩
  have B102 := hide ((unhide B94).trans (b101.mono (unhide B94).size))
  clear B94
  have BU103 := hide ((unhide BU95).trans (b101.mono (unhide BU95).size))
  clear BU95
  have O104 := hide ((unhide O96).up b101)
  clear O96
  have O105 := hide ((unhide O97).up b101)
  clear O97
  have Z106 := hide (show w88.heap.size ≤ w100.heap.size from b101.size)
  clear b101
  go_wp2_with fail
  go_ret
  exact ⟨rfl, unhide B102⟩

theorem own : ownKnob Try.prog.godebug = none := by kernel_rfl
theorem laidOut : laidOutB Try.prog = true := by kernel_rfl

set_option maxRecDepth 100000 in
theorem lifted (os : Os) (started : os.Started) (H : Type) (enc : TypeId × Value → H) :
    ReturnsInHanded {} Try.checked os 6 .any (Rows.fnExactStampOrderSpec.pre6 enc Try.prog Try.f6 Rows.fnExactStampOrderRow.domain false) (Rows.fnExactStampOrderSpec.post enc Try.prog Try.f6 false true false false) := by
  refine returnsInHanded_of_change (C := Try.checked) own started (by kernel_rfl) Try.func6
    (ChangeSpec.witness6 (enc := enc) (C := Try.checked) false ⟨#[], #[.slice none 0 0, .slice none 0 0], []⟩ 8 (by kernel_rfl) (by kernel_rfl) (by kernel_rfl) (by kernel_rfl)) ?_
  intro W base args ds gs before hval0 hW hcnd _
  have hval : ∀ (j : Nat) t v, Try.f6.params[j]? = some t → args[j]? = some v → Value.okWide Try.prog W .any base t v := hval0
  have hW' := hW
  obtain ⟨p, q, hA0, hV, rfl, hfz, hnd⟩ := hW
  have hA : DataW.TrodAll enc Try.prog W 0 (fun _ => true) true Try.f6.params.toList args.toList ds p := hA0
  rw [Try.params6] at hA hval
  obtain ⟨v0, vs0, d0, ds0, p0, q0, hargs, rfl, rfl, h0, r0⟩ := trodAll_cons hA
  obtain ⟨v1, vs1, d1, ds1, p1, q1, rfl, rfl, rfl, h1, r1⟩ := trodAll_cons r0
  obtain ⟨rfl, rfl, rfl⟩ := trodAll_nil r1
  obtain rfl : args = #[v0, v1] := by cases args; simp_all
  obtain ⟨rfl, rfl⟩ := trodVars_none hV
  obtain ⟨a0, len0, cap0, rfl⟩ := okWide_slice Try.underlying22 (hval 0 22 v0 rfl rfl)
  have k0 := h0
  have lt0 : ∀ x ∈ p0, x.block < W.heap.size := by obtain ⟨m, hm⟩ := k0; exact DataW.trod_lt m _ _ _ hm
  obtain ⟨ns0, rfl, hl0, hn0, ho0⟩ := openMarkS h0
  obtain ⟨a1, len1, cap1, rfl⟩ := okWide_slice Try.underlying22 (hval 1 22 v1 rfl rfl)
  have k1 := h1
  have lt1 : ∀ x ∈ p1, x.block < W.heap.size := by obtain ⟨m, hm⟩ := k1; exact DataW.trod_lt m _ _ _ hm
  obtain ⟨ns1, rfl, hl1, hn1, ho1⟩ := openMarkS h1
  clear hA0 hval0
  refine (walk ns0 _ ns1 _ W ⟨hl0, ho0⟩ ⟨a0, cap0, rfl, hn0⟩ ⟨hl1, ho1⟩ ⟨a1, cap1, rfl, hn1⟩).mono fun e W' ⟨he, bel⟩ => ?_
  subst he
  exact ⟨_, rfl, _, _, _, [], _, [], hW', trodAll_mk1 (shut_bool Try.underlying4 _), (trodAll_cons_mk (Below.trod laidOut (by kernel_rfl) (of_decide_eq_true (by kernel_rfl)) k0 bel lt0) (trodAll_cons_mk (Below.trod laidOut (by kernel_rfl) (of_decide_eq_true (by kernel_rfl)) k1 bel lt1) trodAll_mk0)), rfl, bel.frame _, fun h => by cases h⟩

theorem over : Rows.fnExactStampOrderRow.holds Try.pinned (OpenSpec.ofChange Rows.fnExactStampOrderSpec) :=
  OpenClaim.holds_of_wide 6 Try.f6 rfl rfl rfl rfl rfl rfl rfl ⟨rfl, rfl, rfl, rfl, rfl⟩ rfl rfl rfl rfl rfl (by kernel_rfl) Try.func6 (by kernel_rfl)
    (of_decide_eq_true (by kernel_rfl)) (by unfold Func.isWrapper; first | (rw [if_pos (by decide +kernel)]; kernel_rfl) | (rw [if_neg (by decide +kernel)]; exact ⟨rfl, rfl⟩))
    (fun os started H enc _ => lifted os started H enc)

end Go.Proofs.Ytcgalkfpmhbonaa.fnExactStampOrder

namespace Go.Proofs.Ytcgalkfpmhbonaa
theorem fnExactStampOrder_holds : Rows.FnExactStampOrderSaid :=
  fnExactStampOrder.over
end Go.Proofs.Ytcgalkfpmhbonaa
