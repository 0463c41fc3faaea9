/-
  Proved: at every argument the law on GatherNew answers true, and the arguments read afterwards as before: the program makes a gatherer to which nothing has come as the specification does, and its answer owns its memory. No condition.
-/
import Derived.Test.YtcjomdbklgjojaaGNewS
import Derived.Test.YtcjomdbklgjojaaGNewI2
import Derived.Test.YtcjomdbklgjojaaRows
import Derived.WalkKit
import Derived.ProofKit
import Derived.OpenShut
import Derived.Handy
namespace Go.Proofs.Ytcjomdbklgjojaa.fnExactGatherNew
open Go.ChangeShapes Go.WideShapes Go.ChangeAt Go.RowKit Go.Deep Go.Maps
set_option linter.unusedVariables false

theorem spec_kit (ts : List ByteArray) (v : Value) (w : World) {S : List Nat} (hs : SmallStringS ts) (h : StringFull S w v ts) :
    Calls Try.prog 5 #[v] w fun e w' => ∃ v, e = .returned (.tuple #[v, .bool (insB ts)]) ∧ Hid (GatherRd w' v (newV ts)) ∧ Below w.heap.size w w' := specNew_any ts v w hs h.rd

set_option maxHeartbeats 12800000 in
theorem walk (ts : List ByteArray) (v_ts : Value) (w : World) (hf_ts : StringSFit ts) (hr_ts : StringSRd w v_ts ts) :
    Calls Try.prog 3 #[v_ts] w fun e w' => e = .returned (.bool true) ∧ Below w.heap.size w w' := by
  have HF_ts := hide hf_ts
  clear hf_ts
  have HR_ts := hide hr_ts
  obtain ⟨p_ts0, p_ts1, p_ts2, rfl⟩ := hr_ts.form
  clear hr_ts
  go_enter Try.func3, Try.ntmps3
  have B00 := hide (Below.refl w.heap.size w)
  go_wp2_with fail
  refine (szStringF_kit ts _ w (unhide HF_ts) ((unhide HR_ts).up (unhide B00))).mono ?_
  rintro e w1 ⟨q2, rfl, HQ3, b4⟩
  have B5 := hide ((unhide B00).trans (b4.mono (unhide B00).size))
  clear B00
  have Z6 := hide (show w.heap.size ≤ w1.heap.size from b4.size)
  clear b4
  by_cases hnegq2 : q2 < 0
  · go_wp2_with fail
    go_ret
    exact ⟨rfl, unhide B5⟩
  have HS7 := hide (unhide HQ3 (by omega))
  obtain ⟨N_ts, HN_ts⟩ : ∃ N, Hid (nStringF ts = N) := ⟨_, rfl⟩
  have NL_ts : N_ts ≤ 100000000 := by rw [← unhide HN_ts]; exact nStringF_le (unhide HS7)
  have HRS0 := hide (show SmallGatherF (newV ts) from small_new (unhide HS7))
  obtain ⟨M_0, HM_0⟩ : ∃ N, Hid (nGatherF (newV ts) = N) := ⟨_, rfl⟩
  have ML_0 : M_0 ≤ 100000000 := by rw [← unhide HM_0]; exact nGatherF_le (unhide HRS0)
  go_wp2_with fail
  refine (toStringF_kit ts _ w1 (unhide HS7) ((unhide HR_ts).up (unhide B5))).mono ?_
  rintro e w8 ⟨v9, S10, rfl, O11, L12, b13⟩
  have B14 := hide ((unhide B5).trans (b13.mono (unhide B5).size))
  clear B5
  have Z15 := hide (show w1.heap.size ≤ w8.heap.size from b13.size)
  clear b13
  have H16 := hide (unhide O11).lt
  go_wp2_with fail
  refine (spec_kit ts _ w8 (unhide HS7) (unhide O11)).mono ?_
  rintro e w17 ⟨v19, rfl, U20, b18⟩
  clear O11
  have B21 := hide ((unhide B14).trans (b18.mono (unhide B14).size))
  clear B14
  have Z22 := hide (show w8.heap.size ≤ w17.heap.size from b18.size)
  clear b18
  obtain ⟨q_w0_0, q_w0_1, q_w0_2, q_w0_3, q_w0_4, q_w0_5, q_w0_6, q_w0_7, q_w0_8, rfl⟩ := (unhide U20).form
  have BU23 := hide (Below.refl w17.heap.size w17)
  obtain ⟨bx24, b25, zz26⟩ := boxNew3 w17 (.slice q_w0_0 q_w0_1 q_w0_2) (.slice q_w0_3 q_w0_4 q_w0_5) (.slice q_w0_6 q_w0_7 q_w0_8) 27
  go_wp2_with fail
  generalize w17.alloc (.cells #[.slice q_w0_0 q_w0_1 q_w0_2, .slice q_w0_3 q_w0_4 q_w0_5, .slice q_w0_6 q_w0_7 q_w0_8] 27) = W27 at *
  have B29 := hide ((unhide B21).trans (b25.mono (unhide B21).size))
  clear B21
  have BU30 := hide ((unhide BU23).trans (b25.mono (unhide BU23).size))
  clear BU23
  have Z31 := hide (show w17.heap.size < W27.heap.size from zz26)
  have BX28 := hide bx24
  clear bx24 b25 zz26
  refine (toStringF_kit ts _ W27 (unhide HS7) ((unhide HR_ts).up (unhide B29))).mono ?_
  rintro e w32 ⟨v33, S34, rfl, O35, L36, b37⟩
  have B38 := hide ((unhide B29).trans (b37.mono (unhide B29).size))
  clear B29
  have BU39 := hide ((unhide BU30).trans (b37.mono (unhide BU30).size))
  clear BU30
  have BX40 := hide ((unhide BX28).up b37)
  clear BX28
  have Z41 := hide (show W27.heap.size ≤ w32.heap.size from b37.size)
  clear b37
  have H42 := hide (unhide O35).lt
  obtain ⟨r_ts0, r_ts1, r_ts2, rfl⟩ := (unhide O35).rd.form
  obtain ⟨x43, x44, x45⟩ := (unhide BX40).three
  go_wp2_with fail
  clear x43 x44 x45
  refine (implNew_any ts _ w32 (unhide HS7) (unhide O35)).mono ?_
  rintro e w46 ⟨v48, S49, rfl, O50, L51, b47⟩
  have B52 := hide ((unhide B38).trans (b47.mono (unhide B38).size))
  clear B38
  have BU53 := hide ((unhide BU39).trans (b47.mono (unhide BU39).size))
  clear BU39
  have BX54 := hide ((unhide BX40).up b47)
  clear BX40
  have O55 := hide ((unhide O35).up b47)
  clear O35
  have Z56 := hide (show w32.heap.size ≤ w46.heap.size from b47.size)
  clear b47
  obtain ⟨q_g0_0, q_g0_1, q_g0_2, q_g0_3, q_g0_4, q_g0_5, q_g0_6, q_g0_7, q_g0_8, rfl⟩ := (unhide O50).rd.form
  have H57 := hide (unhide O50).lt
  obtain ⟨x58, x59, x60⟩ := (unhide BX54).three
  have lt61 : w17.heap.size < w46.heap.size := (unhide BX54).1
  obtain ⟨bx62, b63, zz64⟩ := boxNew3 w46 (.slice q_g0_0 q_g0_1 q_g0_2) (.slice q_g0_3 q_g0_4 q_g0_5) (.slice q_g0_6 q_g0_7 q_g0_8) 27
  go_wp2_with fail
  generalize w46.alloc (.cells #[.slice q_g0_0 q_g0_1 q_g0_2, .slice q_g0_3 q_g0_4 q_g0_5, .slice q_g0_6 q_g0_7 q_g0_8] 27) = W65 at *
  have B67 := hide ((unhide B52).trans (b63.mono (unhide B52).size))
  clear B52
  have BU68 := hide ((unhide BU53).trans (b63.mono (unhide BU53).size))
  clear BU53
  have BX69 := hide ((unhide BX54).up b63)
  clear BX54
  have O70 := hide ((unhide O55).up b63)
  clear O55
  have O71 := hide ((unhide O50).up b63)
  clear O50
  have Z72 := hide (show w46.heap.size < W65.heap.size from zz64)
  have BX66 := hide bx62
  clear bx62 b63 zz64
  clear x58 x59 x60 lt61
  refine (eqGatherF_kit (newV ts) _ _ W65 (unhide HRS0) (unhide O71).rd ((unhide U20).up (unhide BU68))).mono ?_
  rintro e w73 ⟨rfl, b74⟩
  have B75 := hide ((unhide B67).trans (b74.mono (unhide B67).size))
  clear B67
  have BU76 := hide ((unhide BU68).trans (b74.mono (unhide BU68).size))
  clear BU68
  have BX77 := hide ((unhide BX69).up b74)
  clear BX69
  have BX78 := hide ((unhide BX66).up b74)
  clear BX66
  have O79 := hide ((unhide O70).up b74)
  clear O70
  have O80 := hide ((unhide O71).up b74)
  clear O71
  have Z81 := hide (show W65.heap.size ≤ w73.heap.size from b74.size)
  clear b74
  obtain ⟨x82, x83, x84⟩ := (unhide BX77).three
  obtain ⟨x85, x86, x87⟩ := (unhide BX78).three
  go_wp2_with fail
  clear x82 x83 x84 x85 x86 x87
  refine (toStringF_kit ts _ w73 (unhide HS7) ((unhide HR_ts).up (unhide B75))).mono ?_
  rintro e w88 ⟨v89, S90, rfl, O91, L92, b93⟩
  have B94 := hide ((unhide B75).trans (b93.mono (unhide B75).size))
  clear B75
  have BU95 := hide ((unhide BU76).trans (b93.mono (unhide BU76).size))
  clear BU76
  have BX96 := hide ((unhide BX77).up b93)
  clear BX77
  have BX97 := hide ((unhide BX78).up b93)
  clear BX78
  have O98 := hide ((unhide O79).up b93)
  clear O79
  have O99 := hide ((unhide O80).up b93)
  clear O80
  have Z100 := hide (show w73.heap.size ≤ w88.heap.size from b93.size)
  clear b93
  have H101 := hide (unhide O91).lt
  obtain ⟨x102, x103, x104⟩ := (unhide BX96).three
  obtain ⟨x105, x106, x107⟩ := (unhide BX97).three
  go_wp2_with fail
  clear x102 x103 x104 x105 x106 x107
  refine (eqStringF_kit ts _ _ w88 (unhide HS7) (unhide O98).rd (unhide O91).rd).mono ?_
  rintro e w108 ⟨rfl, b109⟩
  have B110 := hide ((unhide B94).trans (b109.mono (unhide B94).size))
  clear B94
  have BU111 := hide ((unhide BU95).trans (b109.mono (unhide BU95).size))
  clear BU95
  have BX112 := hide ((unhide BX96).up b109)
  clear BX96
  have BX113 := hide ((unhide BX97).up b109)
  clear BX97
  have O114 := hide ((unhide O98).up b109)
  clear O98
  have O115 := hide ((unhide O99).up b109)
  clear O99
  have Z116 := hide (show w88.heap.size ≤ w108.heap.size from b109.size)
  clear b109
  obtain ⟨x117, x118, x119⟩ := (unhide BX112).three
  obtain ⟨x120, x121, x122⟩ := (unhide BX113).three
  go_wp2_with fail
  clear x117 x118 x119 x120 x121 x122
  refine (markStringF_kit S34 (ts) _ w108 (1) N_ts (1) (by omega) (unhide HN_ts) (by omega) (unhide HS7) (unhide O114)).mono ?_
  rintro e w123 ⟨rfl, P124⟩
  have t125 := (unhide P124).2
  have B126 := hide ((unhide B110).trans (t125.below (unhide B110).size (fun k hk => by have z := unhide L36 k hk; have y := unhide H42 k hk; have z0 := unhide Z6; have z1 := unhide Z15; have z2 := unhide Z22; have z3 := unhide Z31; have z4 := unhide Z41; have z5 := unhide Z56; have z6 := unhide Z72; have z7 := unhide Z81; have z8 := unhide Z100; have z9 := unhide Z116; omega)))
  clear B110
  have BU127 := hide ((unhide BU111).trans (t125.below (unhide BU111).size (fun k hk => by have z := unhide L36 k hk; have y := unhide H42 k hk; have z0 := unhide Z6; have z1 := unhide Z15; have z2 := unhide Z22; have z3 := unhide Z31; have z4 := unhide Z41; have z5 := unhide Z56; have z6 := unhide Z72; have z7 := unhide Z81; have z8 := unhide Z100; have z9 := unhide Z116; omega)))
  clear BU111
  have BX128 := hide ((unhide BX112).turn t125 (fun hk => by have z := unhide L36 _ hk; have y := unhide H42 _ hk; have z0 := unhide Z6; have z1 := unhide Z15; have z2 := unhide Z22; have z3 := unhide Z31; have z4 := unhide Z41; have z5 := unhide Z56; have z6 := unhide Z72; have z7 := unhide Z81; have z8 := unhide Z100; have z9 := unhide Z116; omega))
  clear BX112
  have BX129 := hide ((unhide BX113).turn t125 (fun hk => by have z := unhide L36 _ hk; have y := unhide H42 _ hk; have z0 := unhide Z6; have z1 := unhide Z15; have z2 := unhide Z22; have z3 := unhide Z31; have z4 := unhide Z41; have z5 := unhide Z56; have z6 := unhide Z72; have z7 := unhide Z81; have z8 := unhide Z100; have z9 := unhide Z116; omega))
  clear BX113
  have O130 := hide ((unhide O115).turn t125 (fun k hk hm => by have z := unhide L36 k hm; have y := unhide H42 k hm; have u := unhide L51 k hk; have v := unhide H57 k hk; have z0 := unhide Z6; have z1 := unhide Z15; have z2 := unhide Z22; have z3 := unhide Z31; have z4 := unhide Z41; have z5 := unhide Z56; have z6 := unhide Z72; have z7 := unhide Z81; have z8 := unhide Z100; have z9 := unhide Z116; omega))
  clear O115
  have Z131 := hide (show w108.heap.size ≤ w123.heap.size from t125.size)
  have O132 := hide (unhide P124).1
  clear P124 t125
  have nf132 : ¬ (1 + (N_ts : Int)) < 0 := by omega
  obtain ⟨x133, x134, x135⟩ := (unhide BX128).three
  obtain ⟨x136, x137, x138⟩ := (unhide BX129).three
  go_wp2_with fail
  clear x133 x134 x135 x136 x137 x138
  refine (eqGatherF_kit (newV ts) _ _ w123 (unhide HRS0) (unhide O130).rd ((unhide U20).up (unhide BU127))).mono ?_
  rintro e w139 ⟨rfl, b140⟩
  have B141 := hide ((unhide B126).trans (b140.mono (unhide B126).size))
  clear B126
  have BU142 := hide ((unhide BU127).trans (b140.mono (unhide BU127).size))
  clear BU127
  have BX143 := hide ((unhide BX128).up b140)
  clear BX128
  have BX144 := hide ((unhide BX129).up b140)
  clear BX129
  have O145 := hide ((unhide O132).up b140)
  clear O132
  have O146 := hide ((unhide O130).up b140)
  clear O130
  have Z147 := hide (show w123.heap.size ≤ w139.heap.size from b140.size)
  clear b140
  obtain ⟨x148, x149, x150⟩ := (unhide BX143).three
  obtain ⟨x151, x152, x153⟩ := (unhide BX144).three
  go_wp2_with fail
  clear x148 x149 x150 x151 x152 x153
  refine (markGatherF_kit S49 (newV ts) _ w139 (1) M_0 (1) (by omega) (unhide HM_0) (by omega) (unhide HRS0) (unhide O146)).mono ?_
  rintro e w154 ⟨rfl, P155⟩
  have t156 := (unhide P155).2
  have B157 := hide ((unhide B141).trans (t156.below (unhide B141).size (fun k hk => by have z := unhide L51 k hk; have y := unhide H57 k hk; have z0 := unhide Z6; have z1 := unhide Z15; have z2 := unhide Z22; have z3 := unhide Z31; have z4 := unhide Z41; have z5 := unhide Z56; have z6 := unhide Z72; have z7 := unhide Z81; have z8 := unhide Z100; have z9 := unhide Z116; have z10 := unhide Z131; have z11 := unhide Z147; omega)))
  clear B141
  have BU158 := hide ((unhide BU142).trans (t156.below (unhide BU142).size (fun k hk => by have z := unhide L51 k hk; have y := unhide H57 k hk; have z0 := unhide Z6; have z1 := unhide Z15; have z2 := unhide Z22; have z3 := unhide Z31; have z4 := unhide Z41; have z5 := unhide Z56; have z6 := unhide Z72; have z7 := unhide Z81; have z8 := unhide Z100; have z9 := unhide Z116; have z10 := unhide Z131; have z11 := unhide Z147; omega)))
  clear BU142
  have BX159 := hide ((unhide BX143).turn t156 (fun hk => by have z := unhide L51 _ hk; have y := unhide H57 _ hk; have z0 := unhide Z6; have z1 := unhide Z15; have z2 := unhide Z22; have z3 := unhide Z31; have z4 := unhide Z41; have z5 := unhide Z56; have z6 := unhide Z72; have z7 := unhide Z81; have z8 := unhide Z100; have z9 := unhide Z116; have z10 := unhide Z131; have z11 := unhide Z147; omega))
  clear BX143
  have BX160 := hide ((unhide BX144).turn t156 (fun hk => by have z := unhide L51 _ hk; have y := unhide H57 _ hk; have z0 := unhide Z6; have z1 := unhide Z15; have z2 := unhide Z22; have z3 := unhide Z31; have z4 := unhide Z41; have z5 := unhide Z56; have z6 := unhide Z72; have z7 := unhide Z81; have z8 := unhide Z100; have z9 := unhide Z116; have z10 := unhide Z131; have z11 := unhide Z147; omega))
  clear BX144
  have O161 := hide ((unhide O145).turn t156 (fun k hk hm => by have z := unhide L51 k hm; have y := unhide H57 k hm; have u := unhide L36 k hk; have v := unhide H42 k hk; have z0 := unhide Z6; have z1 := unhide Z15; have z2 := unhide Z22; have z3 := unhide Z31; have z4 := unhide Z41; have z5 := unhide Z56; have z6 := unhide Z72; have z7 := unhide Z81; have z8 := unhide Z100; have z9 := unhide Z116; have z10 := unhide Z131; have z11 := unhide Z147; omega))
  clear O145
  have Z162 := hide (show w139.heap.size ≤ w154.heap.size from t156.size)
  have O163 := hide (unhide P155).1
  clear P155 t156
  have nf163 : ¬ (1 + (M_0 : Int)) < 0 := by omega
  obtain ⟨x164, x165, x166⟩ := (unhide BX159).three
  obtain ⟨x167, x168, x169⟩ := (unhide BX160).three
  go_wp2_with fail
  clear x164 x165 x166 x167 x168 x169
  refine (heldGatherF_kit (newV ts) _ w154 (1) M_0 (1) (by omega) (unhide HM_0) (by omega) (unhide HRS0) (unhide O163).rd).mono ?_
  rintro e w170 ⟨rfl, b171⟩
  have B172 := hide ((unhide B157).trans (b171.mono (unhide B157).size))
  clear B157
  have BU173 := hide ((unhide BU158).trans (b171.mono (unhide BU158).size))
  clear BU158
  have BX174 := hide ((unhide BX159).up b171)
  clear BX159
  have BX175 := hide ((unhide BX160).up b171)
  clear BX160
  have O176 := hide ((unhide O161).up b171)
  clear O161
  have O177 := hide ((unhide O163).up b171)
  clear O163
  have Z178 := hide (show w154.heap.size ≤ w170.heap.size from b171.size)
  clear b171
  obtain ⟨x179, x180, x181⟩ := (unhide BX174).three
  obtain ⟨x182, x183, x184⟩ := (unhide BX175).three
  go_wp2_with fail
  clear x179 x180 x181 x182 x183 x184
  refine (toStringF_kit ts _ w170 (unhide HS7) ((unhide HR_ts).up (unhide B172))).mono ?_
  rintro e w185 ⟨v186, S187, rfl, O188, L189, b190⟩
  have B191 := hide ((unhide B172).trans (b190.mono (unhide B172).size))
  clear B172
  have BU192 := hide ((unhide BU173).trans (b190.mono (unhide BU173).size))
  clear BU173
  have BX193 := hide ((unhide BX174).up b190)
  clear BX174
  have BX194 := hide ((unhide BX175).up b190)
  clear BX175
  have O195 := hide ((unhide O176).up b190)
  clear O176
  have O196 := hide ((unhide O177).up b190)
  clear O177
  have Z197 := hide (show w170.heap.size ≤ w185.heap.size from b190.size)
  clear b190
  have H198 := hide (unhide O188).lt
  obtain ⟨x199, x200, x201⟩ := (unhide BX193).three
  obtain ⟨x202, x203, x204⟩ := (unhide BX194).three
  go_wp2_with fail
  clear x199 x200 x201 x202 x203 x204
  refine (implNew_any ts _ w185 (unhide HS7) (unhide O188)).mono ?_
  rintro e w205 ⟨v207, S208, rfl, O209, L210, b206⟩
  clear O188
  have B211 := hide ((unhide B191).trans (b206.mono (unhide B191).size))
  clear B191
  have BU212 := hide ((unhide BU192).trans (b206.mono (unhide BU192).size))
  clear BU192
  have BX213 := hide ((unhide BX193).up b206)
  clear BX193
  have BX214 := hide ((unhide BX194).up b206)
  clear BX194
  have O215 := hide ((unhide O195).up b206)
  clear O195
  have O216 := hide ((unhide O196).up b206)
  clear O196
  have Z217 := hide (show w185.heap.size ≤ w205.heap.size from b206.size)
  clear b206
  obtain ⟨q_h0_0, q_h0_1, q_h0_2, q_h0_3, q_h0_4, q_h0_5, q_h0_6, q_h0_7, q_h0_8, rfl⟩ := (unhide O209).rd.form
  have H218 := hide (unhide O209).lt
  obtain ⟨x219, x220, x221⟩ := (unhide BX213).three
  obtain ⟨x222, x223, x224⟩ := (unhide BX214).three
  have lt225 : w17.heap.size < w205.heap.size := (unhide BX213).1
  have lt226 : w46.heap.size < w205.heap.size := (unhide BX214).1
  obtain ⟨bx227, b228, zz229⟩ := boxNew3 w205 (.slice q_h0_0 q_h0_1 q_h0_2) (.slice q_h0_3 q_h0_4 q_h0_5) (.slice q_h0_6 q_h0_7 q_h0_8) 27
  go_wp2_with fail
  generalize w205.alloc (.cells #[.slice q_h0_0 q_h0_1 q_h0_2, .slice q_h0_3 q_h0_4 q_h0_5, .slice q_h0_6 q_h0_7 q_h0_8] 27) = W230 at *
  have B232 := hide ((unhide B211).trans (b228.mono (unhide B211).size))
  clear B211
  have BU233 := hide ((unhide BU212).trans (b228.mono (unhide BU212).size))
  clear BU212
  have BX234 := hide ((unhide BX213).up b228)
  clear BX213
  have BX235 := hide ((unhide BX214).up b228)
  clear BX214
  have O236 := hide ((unhide O215).up b228)
  clear O215
  have O237 := hide ((unhide O216).up b228)
  clear O216
  have O238 := hide ((unhide O209).up b228)
  clear O209
  have Z239 := hide (show w205.heap.size < W230.heap.size from zz229)
  have BX231 := hide bx227
  clear bx227 b228 zz229
  clear x219 x220 x221 x222 x223 x224 lt225 lt226
  refine (eqGatherF_kit (newV ts) _ _ W230 (unhide HRS0) (unhide O238).rd ((unhide U20).up (unhide BU233))).mono ?_
  rintro e w240 ⟨rfl, b241⟩
  have B242 := hide ((unhide B232).trans (b241.mono (unhide B232).size))
  clear B232
  have BU243 := hide ((unhide BU233).trans (b241.mono (unhide BU233).size))
  clear BU233
  have BX244 := hide ((unhide BX234).up b241)
  clear BX234
  have BX245 := hide ((unhide BX235).up b241)
  clear BX235
  have BX246 := hide ((unhide BX231).up b241)
  clear BX231
  have O247 := hide ((unhide O236).up b241)
  clear O236
  have O248 := hide ((unhide O237).up b241)
  clear O237
  have O249 := hide ((unhide O238).up b241)
  clear O238
  have Z250 := hide (show W230.heap.size ≤ w240.heap.size from b241.size)
  clear b241
  obtain ⟨x251, x252, x253⟩ := (unhide BX244).three
  obtain ⟨x254, x255, x256⟩ := (unhide BX245).three
  obtain ⟨x257, x258, x259⟩ := (unhide BX246).three
  go_wp2_with fail
  clear x251 x252 x253 x254 x255 x256 x257 x258 x259
  refine (heldGatherF_kit (newV ts) _ w240 (1) M_0 (1) (by omega) (unhide HM_0) (by omega) (unhide HRS0) (unhide O248).rd).mono ?_
  rintro e w260 ⟨rfl, b261⟩
  have B262 := hide ((unhide B242).trans (b261.mono (unhide B242).size))
  clear B242
  have BU263 := hide ((unhide BU243).trans (b261.mono (unhide BU243).size))
  clear BU243
  have BX264 := hide ((unhide BX244).up b261)
  clear BX244
  have BX265 := hide ((unhide BX245).up b261)
  clear BX245
  have BX266 := hide ((unhide BX246).up b261)
  clear BX246
  have O267 := hide ((unhide O247).up b261)
  clear O247
  have O268 := hide ((unhide O248).up b261)
  clear O248
  have O269 := hide ((unhide O249).up b261)
  clear O249
  have Z270 := hide (show w240.heap.size ≤ w260.heap.size from b261.size)
  clear b261
  obtain ⟨x271, x272, x273⟩ := (unhide BX264).three
  obtain ⟨x274, x275, x276⟩ := (unhide BX265).three
  obtain ⟨x277, x278, x279⟩ := (unhide BX266).three
  go_wp2_with fail
  go_ret
  exact ⟨rfl, unhide B262⟩

theorem own : ownKnob Try.prog.godebug = none := by kernel_rfl
theorem laidOut : laidOutB Try.prog = true := by kernel_rfl

set_option maxRecDepth 100000 in
theorem lifted (os : Os) (started : os.Started) (H : Type) (enc : TypeId × Value → H) :
    ReturnsInHanded {} Try.checked os 3 .any (Rows.fnExactGatherNewSpec.pre6 enc Try.prog Try.f3 Rows.fnExactGatherNewRow.domain false) (Rows.fnExactGatherNewSpec.post enc Try.prog Try.f3 false true false false) := by
  refine returnsInHanded_of_change (C := Try.checked) own started (by kernel_rfl) Try.func3
    (ChangeSpec.witness6 (enc := enc) (C := Try.checked) false ⟨#[], #[.slice none 0 0], []⟩ 8 (by kernel_rfl) (by kernel_rfl) (by kernel_rfl) (by kernel_rfl)) ?_
  intro W base args ds gs before hval0 hW hcnd _
  have hval : ∀ (j : Nat) t v, Try.f3.params[j]? = some t → args[j]? = some v → Value.okWide Try.prog W .any base t v := hval0
  have hW' := hW
  obtain ⟨p, q, hA0, hV, rfl, hfz, hnd⟩ := hW
  have hA : DataW.TrodAll enc Try.prog W 0 (fun _ => true) true Try.f3.params.toList args.toList ds p := hA0
  rw [Try.params3] at hA hval
  obtain ⟨v0, vs0, d0, ds0, p0, q0, hargs, rfl, rfl, h0, r0⟩ := trodAll_cons hA
  obtain ⟨rfl, rfl, rfl⟩ := trodAll_nil r0
  obtain rfl : args = #[v0] := by cases args; simp_all
  obtain ⟨rfl, rfl⟩ := trodVars_none hV
  obtain ⟨a0, len0, cap0, rfl⟩ := okWide_slice Try.underlying22 (hval 0 22 v0 rfl rfl)
  have k0 := h0
  have lt0 : ∀ x ∈ p0, x.block < W.heap.size := by obtain ⟨m, hm⟩ := k0; exact DataW.trod_lt m _ _ _ hm
  obtain ⟨ns0, rfl, hl0, hn0, ho0⟩ := openStringS h0
  clear hA0 hval0
  refine (walk ns0 _ W ⟨hl0, ho0⟩ ⟨a0, cap0, rfl, hn0⟩).mono fun e W' ⟨he, bel⟩ => ?_
  subst he
  exact ⟨_, rfl, _, _, _, [], _, [], hW', trodAll_mk1 (shut_bool Try.underlying4 _), (trodAll_cons_mk (Below.trod laidOut (by kernel_rfl) (of_decide_eq_true (by kernel_rfl)) k0 bel lt0) trodAll_mk0), rfl, bel.frame _, fun h => by cases h⟩

theorem over : Rows.fnExactGatherNewRow.holds Try.pinned (OpenSpec.ofChange Rows.fnExactGatherNewSpec) :=
  OpenClaim.holds_of_wide 3 Try.f3 rfl rfl rfl rfl rfl rfl rfl ⟨rfl, rfl, rfl, rfl, rfl⟩ rfl rfl rfl rfl rfl (by kernel_rfl) Try.func3 (by kernel_rfl)
    (of_decide_eq_true (by kernel_rfl)) (by unfold Func.isWrapper; first | (rw [if_pos (by decide +kernel)]; kernel_rfl) | (rw [if_neg (by decide +kernel)]; exact ⟨rfl, rfl⟩))
    (fun os started H enc _ => lifted os started H enc)

end Go.Proofs.Ytcjomdbklgjojaa.fnExactGatherNew

namespace Go.Proofs.Ytcjomdbklgjojaa
theorem fnExactGatherNew_holds : Rows.FnExactGatherNewSaid :=
  fnExactGatherNew.over
end Go.Proofs.Ytcjomdbklgjojaa
