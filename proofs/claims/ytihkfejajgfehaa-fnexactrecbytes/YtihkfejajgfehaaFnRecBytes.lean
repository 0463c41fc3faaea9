/-
  Proved: at every record the law on RecBytes answers true, and the record reads afterwards as before: the program writes a record as the specification does, and its answer owns its memory. No condition.
-/
import Derived.Test.YtihkfejajgfehaaRecBytes
import Derived.Test.YtihkfejajgfehaaRecKit
import Derived.Test.YtihkfejajgfehaaByKit
import Derived.Test.YtihkfejajgfehaaBoxes
import Derived.Test.YtihkfejajgfehaaRows
import Derived.WalkKit
import Derived.ProofKit
import Derived.OpenShut
namespace Go.Proofs.Ytihkfejajgfehaa.fnExactRecBytes
open Go.ChangeShapes Go.WideShapes Go.ChangeAt Go.RowKit Go.Deep Go.Maps
set_option linter.unusedVariables false

theorem small_recBytes (r : RecV) : SmallByteS (recBytesL r) := by
  unfold recBytesL SmallByteS
  split
  · rename_i h
    have := rec_len h
    omega
  · simp
theorem specRecBytes_kit (r : RecV) (w : World) (hf : RecFit r) :
    Calls Try.prog 6 #[.agg #[.int .i64 r.kind, .string r.name, .int .i64 r.num, .string r.text]] w fun e w' => ∃ v, e = .returned (.tuple #[v, .bool (recOkB r)]) ∧ Hid (ByRd w' v (recBytesL r)) ∧ Below w.heap.size w w' := by
  refine (specRecBytes_any r w hf).mono ?_
  rintro e w' ⟨a, n, c, rfl, h, b⟩
  exact ⟨_, rfl, h.rd, b⟩
theorem implRecBytes_kit (r : RecV) (w : World) (hf : RecFit r) :
    Calls Try.prog 8 #[.agg #[.int .i64 r.kind, .string r.name, .int .i64 r.num, .string r.text]] w fun e w' => ∃ v S, e = .returned (.tuple #[v, .bool (recOkB r)]) ∧ Hid (ByOwn S w' v (recBytesL r)) ∧ Hid (∀ k ∈ S, w.heap.size ≤ k) ∧ Below w.heap.size w w' := by
  refine (implRecBytes_any r w hf).mono ?_
  rintro e w' ⟨a, n, c, rfl, h, b⟩
  obtain ⟨S, h1, h2, _⟩ := h.own
  exact ⟨_, S, rfl, h1, h2, b⟩

set_option maxHeartbeats 12800000 in
theorem walk (r : RecV) (w : World) (hf_r : RecFit r) :
    Calls Try.prog 3 #[recVal r] w fun e w' => e = .returned (.bool true) ∧ Below w.heap.size w w' := by
  have HF_r := hide hf_r
  clear hf_r
  unfold recVal
  go_enter Try.func3, Try.ntmps3
  obtain ⟨bx1, b2, zz3⟩ := boxNew4 w (.int .i64 r.kind) (.string r.name) (.int .i64 r.num) (.string r.text) 23
  go_wp2_with fail
  generalize w.alloc (.cells #[.int .i64 r.kind, .string r.name, .int .i64 r.num, .string r.text] 23) = W4 at *
  have B6 := hide b2
  have Z7 := hide (show w.heap.size < W4.heap.size from zz3)
  have BX5 := hide bx1
  clear bx1 b2 zz3
  refine (szRec_kit r W4 (unhide HF_r)).mono ?_
  rintro e w8 ⟨q9, rfl, HQ10, b11⟩
  have B12 := hide ((unhide B6).trans (b11.mono (unhide B6).size))
  clear B6
  have BX13 := hide ((unhide BX5).up b11)
  clear BX5
  have Z14 := hide (show W4.heap.size ≤ w8.heap.size from b11.size)
  clear b11
  by_cases hnegq9 : q9 < 0
  · go_wp2_with fail
    go_ret
    exact ⟨rfl, unhide B12⟩
  have HS15 := hide (unhide HQ10 (by omega))
  have HRS0 := hide (show SmallByteS (recBytesL r) from small_recBytes r)
  obtain ⟨M_0, HM_0⟩ : ∃ N, Hid (nByteS (recBytesL r) = N) := ⟨_, rfl⟩
  have ML_0 : M_0 ≤ 100000000 := by rw [← unhide HM_0]; exact nByteS_le (unhide HRS0)
  obtain ⟨x16, x17, x18, x19⟩ := (unhide BX13).four
  go_wp2_with fail
  clear x16 x17 x18 x19
  refine (toRec_kit r w8).mono ?_
  rintro e w20 ⟨rfl, b21⟩
  have B22 := hide ((unhide B12).trans (b21.mono (unhide B12).size))
  clear B12
  have BX23 := hide ((unhide BX13).up b21)
  clear BX13
  have Z24 := hide (show w8.heap.size ≤ w20.heap.size from b21.size)
  clear b21
  obtain ⟨x25, x26, x27, x28⟩ := (unhide BX23).four
  go_wp2_with fail
  clear x25 x26 x27 x28
  refine (specRecBytes_kit r w20 (unhide HF_r) ).mono ?_
  rintro e w29 ⟨v31, rfl, U32, b30⟩
  have B33 := hide ((unhide B22).trans (b30.mono (unhide B22).size))
  clear B22
  have BX34 := hide ((unhide BX23).up b30)
  clear BX23
  have Z35 := hide (show w20.heap.size ≤ w29.heap.size from b30.size)
  clear b30
  obtain ⟨q_w0_0, q_w0_1, q_w0_2, rfl⟩ := (unhide U32).form
  have BU36 := hide (Below.refl w29.heap.size w29)
  obtain ⟨x37, x38, x39, x40⟩ := (unhide BX34).four
  go_wp2_with fail
  clear x37 x38 x39 x40
  refine (toRec_kit r w29).mono ?_
  rintro e w41 ⟨rfl, b42⟩
  have B43 := hide ((unhide B33).trans (b42.mono (unhide B33).size))
  clear B33
  have BU44 := hide ((unhide BU36).trans (b42.mono (unhide BU36).size))
  clear BU36
  have BX45 := hide ((unhide BX34).up b42)
  clear BX34
  have Z46 := hide (show w29.heap.size ≤ w41.heap.size from b42.size)
  clear b42
  obtain ⟨x47, x48, x49, x50⟩ := (unhide BX45).four
  go_wp2_with fail
  clear x47 x48 x49 x50
  refine (implRecBytes_kit r w41 (unhide HF_r) ).mono ?_
  rintro e w51 ⟨v53, S54, rfl, O55, L56, b52⟩
  have B57 := hide ((unhide B43).trans (b52.mono (unhide B43).size))
  clear B43
  have BU58 := hide ((unhide BU44).trans (b52.mono (unhide BU44).size))
  clear BU44
  have BX59 := hide ((unhide BX45).up b52)
  clear BX45
  have Z60 := hide (show w41.heap.size ≤ w51.heap.size from b52.size)
  clear b52
  obtain ⟨q_g0_0, q_g0_1, q_g0_2, rfl⟩ := (unhide O55).rd.form
  have H61 := hide (unhide O55).lt
  obtain ⟨x62, x63, x64, x65⟩ := (unhide BX59).four
  go_wp2_with fail
  clear x62 x63 x64 x65
  refine (eqByteS_kit (recBytesL r) _ _ w51 (unhide HRS0) (unhide O55).rd ((unhide U32).up (unhide BU58))).mono ?_
  rintro e w66 ⟨rfl, b67⟩
  have B68 := hide ((unhide B57).trans (b67.mono (unhide B57).size))
  clear B57
  have BU69 := hide ((unhide BU58).trans (b67.mono (unhide BU58).size))
  clear BU58
  have BX70 := hide ((unhide BX59).up b67)
  clear BX59
  have O71 := hide ((unhide O55).up b67)
  clear O55
  have Z72 := hide (show w51.heap.size ≤ w66.heap.size from b67.size)
  clear b67
  obtain ⟨x73, x74, x75, x76⟩ := (unhide BX70).four
  go_wp2_with fail
  clear x73 x74 x75 x76
  refine (markByteS_kit S54 (recBytesL r) _ w66 (1) M_0 (1) (by omega) (unhide HM_0) (by omega) (unhide HRS0) (unhide O71)).mono ?_
  rintro e w77 ⟨rfl, P78⟩
  have t79 := (unhide P78).2
  have B80 := hide ((unhide B68).trans (t79.below (unhide B68).size (fun k hk => by have z := unhide L56 k hk; have y := unhide H61 k hk; have z0 := unhide Z7; have z1 := unhide Z14; have z2 := unhide Z24; have z3 := unhide Z35; have z4 := unhide Z46; have z5 := unhide Z60; have z6 := unhide Z72; omega)))
  clear B68
  have BU81 := hide ((unhide BU69).trans (t79.below (unhide BU69).size (fun k hk => by have z := unhide L56 k hk; have y := unhide H61 k hk; have z0 := unhide Z7; have z1 := unhide Z14; have z2 := unhide Z24; have z3 := unhide Z35; have z4 := unhide Z46; have z5 := unhide Z60; have z6 := unhide Z72; omega)))
  clear BU69
  have BX82 := hide ((unhide BX70).turn t79 (fun hk => by have z := unhide L56 _ hk; have y := unhide H61 _ hk; have z0 := unhide Z7; have z1 := unhide Z14; have z2 := unhide Z24; have z3 := unhide Z35; have z4 := unhide Z46; have z5 := unhide Z60; have z6 := unhide Z72; omega))
  clear BX70
  have Z83 := hide (show w66.heap.size ≤ w77.heap.size from t79.size)
  have O84 := hide (unhide P78).1
  clear P78 t79
  have nf84 : ¬ (1 + (M_0 : Int)) < 0 := by omega
  obtain ⟨x85, x86, x87, x88⟩ := (unhide BX82).four
  go_wp2_with fail
  clear x85 x86 x87 x88
  refine (heldByteS_kit (recBytesL r) _ w77 (1) M_0 (1) (by omega) (unhide HM_0) (by omega) (unhide HRS0) (unhide O84).rd).mono ?_
  rintro e w89 ⟨rfl, b90⟩
  have B91 := hide ((unhide B80).trans (b90.mono (unhide B80).size))
  clear B80
  have BU92 := hide ((unhide BU81).trans (b90.mono (unhide BU81).size))
  clear BU81
  have BX93 := hide ((unhide BX82).up b90)
  clear BX82
  have O94 := hide ((unhide O84).up b90)
  clear O84
  have Z95 := hide (show w77.heap.size ≤ w89.heap.size from b90.size)
  clear b90
  obtain ⟨x96, x97, x98, x99⟩ := (unhide BX93).four
  go_wp2_with fail
  clear x96 x97 x98 x99
  refine (toRec_kit r w89).mono ?_
  rintro e w100 ⟨rfl, b101⟩
  have B102 := hide ((unhide B91).trans (b101.mono (unhide B91).size))
  clear B91
  have BU103 := hide ((unhide BU92).trans (b101.mono (unhide BU92).size))
  clear BU92
  have BX104 := hide ((unhide BX93).up b101)
  clear BX93
  have O105 := hide ((unhide O94).up b101)
  clear O94
  have Z106 := hide (show w89.heap.size ≤ w100.heap.size from b101.size)
  clear b101
  obtain ⟨x107, x108, x109, x110⟩ := (unhide BX104).four
  go_wp2_with fail
  clear x107 x108 x109 x110
  refine (implRecBytes_kit r w100 (unhide HF_r) ).mono ?_
  rintro e w111 ⟨v113, S114, rfl, O115, L116, b112⟩
  have B117 := hide ((unhide B102).trans (b112.mono (unhide B102).size))
  clear B102
  have BU118 := hide ((unhide BU103).trans (b112.mono (unhide BU103).size))
  clear BU103
  have BX119 := hide ((unhide BX104).up b112)
  clear BX104
  have O120 := hide ((unhide O105).up b112)
  clear O105
  have Z121 := hide (show w100.heap.size ≤ w111.heap.size from b112.size)
  clear b112
  obtain ⟨q_h0_0, q_h0_1, q_h0_2, rfl⟩ := (unhide O115).rd.form
  have H122 := hide (unhide O115).lt
  obtain ⟨x123, x124, x125, x126⟩ := (unhide BX119).four
  go_wp2_with fail
  clear x123 x124 x125 x126
  refine (eqByteS_kit (recBytesL r) _ _ w111 (unhide HRS0) (unhide O115).rd ((unhide U32).up (unhide BU118))).mono ?_
  rintro e w127 ⟨rfl, b128⟩
  have B129 := hide ((unhide B117).trans (b128.mono (unhide B117).size))
  clear B117
  have BU130 := hide ((unhide BU118).trans (b128.mono (unhide BU118).size))
  clear BU118
  have BX131 := hide ((unhide BX119).up b128)
  clear BX119
  have O132 := hide ((unhide O120).up b128)
  clear O120
  have O133 := hide ((unhide O115).up b128)
  clear O115
  have Z134 := hide (show w111.heap.size ≤ w127.heap.size from b128.size)
  clear b128
  obtain ⟨x135, x136, x137, x138⟩ := (unhide BX131).four
  go_wp2_with fail
  clear x135 x136 x137 x138
  refine (heldByteS_kit (recBytesL r) _ w127 (1) M_0 (1) (by omega) (unhide HM_0) (by omega) (unhide HRS0) (unhide O132).rd).mono ?_
  rintro e w139 ⟨rfl, b140⟩
  have B141 := hide ((unhide B129).trans (b140.mono (unhide B129).size))
  clear B129
  have BU142 := hide ((unhide BU130).trans (b140.mono (unhide BU130).size))
  clear BU130
  have BX143 := hide ((unhide BX131).up b140)
  clear BX131
  have O144 := hide ((unhide O132).up b140)
  clear O132
  have O145 := hide ((unhide O133).up b140)
  clear O133
  have Z146 := hide (show w127.heap.size ≤ w139.heap.size from b140.size)
  clear b140
  obtain ⟨x147, x148, x149, x150⟩ := (unhide BX143).four
  go_wp2_with fail
  go_ret
  exact ⟨rfl, unhide B141⟩

theorem own : ownKnob Try.prog.godebug = none := by kernel_rfl
theorem laidOut : laidOutB Try.prog = true := by kernel_rfl

set_option maxRecDepth 100000 in
theorem lifted (os : Os) (started : os.Started) (H : Type) (enc : TypeId × Value → H) :
    ReturnsInHanded {} Try.checked os 3 .any (Rows.fnExactRecBytesSpec.pre6 enc Try.prog Try.f3 Rows.fnExactRecBytesRow.domain false) (Rows.fnExactRecBytesSpec.post enc Try.prog Try.f3 false true false false) := by
  refine returnsInHanded_of_change (C := Try.checked) own started (by kernel_rfl) Try.func3
    (ChangeSpec.witness6 (enc := enc) (C := Try.checked) false ⟨#[], #[.agg #[.int .i64 0, .string ⟨#[]⟩, .int .i64 0, .string ⟨#[]⟩]], []⟩ 8 (by kernel_rfl) (by kernel_rfl) (by kernel_rfl) (by kernel_rfl)) ?_
  intro W base args ds gs before hval0 hW hcnd _
  have hval : ∀ (j : Nat) t v, Try.f3.params[j]? = some t → args[j]? = some v → Value.okWide Try.prog W .any base t v := hval0
  have hW' := hW
  obtain ⟨p, q, hA0, hV, rfl, hfz, hnd⟩ := hW
  have hA : DataW.TrodAll enc Try.prog W 0 (fun _ => true) true Try.f3.params.toList args.toList ds p := hA0
  rw [Try.params3] at hA hval
  obtain ⟨v0, d0, rfl, rfl, h0⟩ := trodAll_one hA
  obtain ⟨rfl, rfl⟩ := trodVars_none hV
  obtain ⟨cs, rfl, hcs⟩ := aggOf Try.underlying23 cellsRec (hval 0 23 v0 rfl rfl)
  obtain ⟨c0, c1, c2, c3, rfl⟩ := array4 hcs
  obtain ⟨r, hr, hf⟩ := openRec h0
  rw [hr]
  rw [hr] at h0 hW' 
  have k0 := h0
  have lt0 : ∀ x ∈ p, x.block < W.heap.size := by obtain ⟨m, hm⟩ := k0; exact DataW.trod_lt m _ _ _ hm
  clear hA0 hval0
  refine (walk r W hf).mono fun e W' ⟨he, bel⟩ => ?_
  subst he
  exact ⟨_, rfl, _, _, _, [], _, [], hW', trodAll_mk1 (shut_bool Try.underlying4 _), trodAll_mk1 (Below.trod laidOut (by kernel_rfl) (of_decide_eq_true (by kernel_rfl)) k0 bel lt0), rfl, bel.frame _, fun h => by cases h⟩

theorem over : Rows.fnExactRecBytesRow.holds Try.pinned (OpenSpec.ofChange Rows.fnExactRecBytesSpec) :=
  OpenClaim.holds_of_wide 3 Try.f3 rfl rfl rfl rfl rfl rfl rfl ⟨rfl, rfl, rfl, rfl, rfl⟩ rfl rfl rfl rfl rfl (by kernel_rfl) Try.func3 (by kernel_rfl)
    (of_decide_eq_true (by kernel_rfl)) (by unfold Func.isWrapper; first | (rw [if_pos (by decide +kernel)]; kernel_rfl) | (rw [if_neg (by decide +kernel)]; exact ⟨rfl, rfl⟩))
    (fun os started H enc _ => lifted os started H enc)

end Go.Proofs.Ytihkfejajgfehaa.fnExactRecBytes

namespace Go.Proofs.Ytihkfejajgfehaa
theorem fnExactRecBytes_holds : Rows.FnExactRecBytesSaid :=
  fnExactRecBytes.over
end Go.Proofs.Ytihkfejajgfehaa
