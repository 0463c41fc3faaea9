/-
  Proved: at every argument the law on WindowLast answers true, and the arguments read afterwards as before: the program tells the last item of a window as the specification does, and its answer owns its memory. No condition.
-/
import Derived.Test.YtnnhdgaokifcoaaWinLastK
import Derived.Test.YtnnhdgaokifcoaaItemOpen
import Derived.Test.YtnnhdgaokifcoaaRows
import Derived.WalkKit
import Derived.ProofKit
import Derived.OpenShut
import Derived.Handy
namespace Go.Proofs.Ytnnhdgaokifcoaa.fnExactWindowLast
open Go.ChangeShapes Go.WideShapes Go.ChangeAt Go.RowKit Go.Deep Go.Maps
set_option linter.unusedVariables false


set_option maxHeartbeats 12800000 in
theorem walk (ns : List ItemV) (v_ns : Value) (w : World) (hf_ns : ItemSFit ns) (hr_ns : ItemSRd w v_ns ns) :
    Calls Try.prog 3 #[v_ns] w fun e w' => e = .returned (.bool true) ∧ Below w.heap.size w w' := by
  have HF_ns := hide hf_ns
  clear hf_ns
  have HR_ns := hide hr_ns
  obtain ⟨p_ns0, p_ns1, p_ns2, rfl⟩ := hr_ns.form
  clear hr_ns
  go_enter Try.func3, Try.ntmps3
  have B00 := hide (Below.refl w.heap.size w)
  go_wp2_with fail
  refine (szItemF_kit ns _ w (unhide HF_ns) ((unhide HR_ns).up (unhide B00))).mono ?_
  rintro e w1 ⟨q2, rfl, HQ3, b4⟩
  have B5 := hide ((unhide B00).trans (b4.mono (unhide B00).size))
  clear B00
  have Z6 := hide (show w.heap.size ≤ w1.heap.size from b4.size)
  clear b4
  by_cases hnegq2 : q2 < 0
  · go_wp2_with fail
    go_ret
    exact ⟨rfl, unhide B5⟩
  have HS7 := hide (unhide HQ3 (by omega))
  obtain ⟨N_ns, HN_ns⟩ : ∃ N, Hid (nItemF ns = N) := ⟨_, rfl⟩
  have NL_ns : N_ns ≤ 10000000000000 := by rw [← unhide HN_ns]; exact Nat.le_trans (nItemF_le (unhide HS7)) (by decide)
  have HRS0 := hide (show SmallItem (lastI ns) from small_lastI (unhide HS7))
  obtain ⟨M_0, HM_0⟩ : ∃ N, Hid (nItem (lastI ns) = N) := ⟨_, rfl⟩
  have ML_0 : M_0 ≤ 10000000000000 := by rw [← unhide HM_0]; exact Nat.le_trans (nItem_le (unhide HRS0)) (by decide)
  go_wp2_with fail
  refine (toItemF_kit ns _ w1 (unhide HS7) ((unhide HR_ns).up (unhide B5))).mono ?_
  rintro e w8 ⟨v9, S10, rfl, O11, L12, b13⟩
  have B14 := hide ((unhide B5).trans (b13.mono (unhide B5).size))
  clear B5
  have Z15 := hide (show w1.heap.size ≤ w8.heap.size from b13.size)
  clear b13
  have H16 := hide (unhide O11).lt
  go_wp2_with fail
  refine (specLast_kit ns _ w8 (unhide HS7) (unhide O11)).mono ?_
  rintro e w17 ⟨v19, rfl, U20, b18⟩
  clear O11
  have B21 := hide ((unhide B14).trans (b18.mono (unhide B14).size))
  clear B14
  have Z22 := hide (show w8.heap.size ≤ w17.heap.size from b18.size)
  clear b18
  obtain ⟨q_w0_0, q_w0_1, q_w0_2, q_w0_3, rfl⟩ := (unhide U20).form
  have BU23 := hide (Below.refl w17.heap.size w17)
  obtain ⟨bx24, b25, zz26⟩ := boxNew2 w17 (.int .i64 q_w0_0) (.slice q_w0_1 q_w0_2 q_w0_3) 26
  go_wp2_with fail
  generalize w17.alloc (.cells #[.int .i64 q_w0_0, .slice q_w0_1 q_w0_2 q_w0_3] 26) = W27 at *
  have B29 := hide ((unhide B21).trans (b25.mono (unhide B21).size))
  clear B21
  have BU30 := hide ((unhide BU23).trans (b25.mono (unhide BU23).size))
  clear BU23
  have Z31 := hide (show w17.heap.size < W27.heap.size from zz26)
  have BX28 := hide bx24
  clear bx24 b25 zz26
  refine (toItemF_kit ns _ W27 (unhide HS7) ((unhide HR_ns).up (unhide B29))).mono ?_
  rintro e w32 ⟨v33, S34, rfl, O35, L36, b37⟩
  have B38 := hide ((unhide B29).trans (b37.mono (unhide B29).size))
  clear B29
  have BU39 := hide ((unhide BU30).trans (b37.mono (unhide BU30).size))
  clear BU30
  have BX40 := hide ((unhide BX28).up b37)
  clear BX28
  have Z41 := hide (show W27.heap.size ≤ w32.heap.size from b37.size)
  clear b37
  have H42 := hide (unhide O35).lt
  obtain ⟨r_ns0, r_ns1, r_ns2, rfl⟩ := (unhide O35).rd.form
  obtain ⟨x43, x44⟩ := (unhide BX40).two
  go_wp2_with fail
  clear x43 x44
  refine (implLast_kit ns _ w32 (unhide HS7) (unhide O35)).mono ?_
  rintro e w45 ⟨v47, S48, rfl, O49, L50, b46⟩
  have B51 := hide ((unhide B38).trans (b46.mono (unhide B38).size))
  clear B38
  have BU52 := hide ((unhide BU39).trans (b46.mono (unhide BU39).size))
  clear BU39
  have BX53 := hide ((unhide BX40).up b46)
  clear BX40
  have O54 := hide ((unhide O35).up b46)
  clear O35
  have Z55 := hide (show w32.heap.size ≤ w45.heap.size from b46.size)
  clear b46
  obtain ⟨q_g0_0, q_g0_1, q_g0_2, q_g0_3, rfl⟩ := (unhide O49).rd.form
  have H56 := hide (unhide O49).lt
  obtain ⟨x57, x58⟩ := (unhide BX53).two
  have lt59 : w17.heap.size < w45.heap.size := (unhide BX53).1
  obtain ⟨bx60, b61, zz62⟩ := boxNew2 w45 (.int .i64 q_g0_0) (.slice q_g0_1 q_g0_2 q_g0_3) 26
  go_wp2_with fail
  generalize w45.alloc (.cells #[.int .i64 q_g0_0, .slice q_g0_1 q_g0_2 q_g0_3] 26) = W63 at *
  have B65 := hide ((unhide B51).trans (b61.mono (unhide B51).size))
  clear B51
  have BU66 := hide ((unhide BU52).trans (b61.mono (unhide BU52).size))
  clear BU52
  have BX67 := hide ((unhide BX53).up b61)
  clear BX53
  have O68 := hide ((unhide O54).up b61)
  clear O54
  have O69 := hide ((unhide O49).up b61)
  clear O49
  have Z70 := hide (show w45.heap.size < W63.heap.size from zz62)
  have BX64 := hide bx60
  clear bx60 b61 zz62
  clear x57 x58 lt59
  refine (eqItem_kit (lastI ns) _ _ W63 (unhide HRS0) (unhide O69).rd ((unhide U20).up (unhide BU66))).mono ?_
  rintro e w71 ⟨rfl, b72⟩
  have B73 := hide ((unhide B65).trans (b72.mono (unhide B65).size))
  clear B65
  have BU74 := hide ((unhide BU66).trans (b72.mono (unhide BU66).size))
  clear BU66
  have BX75 := hide ((unhide BX67).up b72)
  clear BX67
  have BX76 := hide ((unhide BX64).up b72)
  clear BX64
  have O77 := hide ((unhide O68).up b72)
  clear O68
  have O78 := hide ((unhide O69).up b72)
  clear O69
  have Z79 := hide (show W63.heap.size ≤ w71.heap.size from b72.size)
  clear b72
  obtain ⟨x80, x81⟩ := (unhide BX75).two
  obtain ⟨x82, x83⟩ := (unhide BX76).two
  go_wp2_with fail
  clear x80 x81 x82 x83
  refine (toItemF_kit ns _ w71 (unhide HS7) ((unhide HR_ns).up (unhide B73))).mono ?_
  rintro e w84 ⟨v85, S86, rfl, O87, L88, b89⟩
  have B90 := hide ((unhide B73).trans (b89.mono (unhide B73).size))
  clear B73
  have BU91 := hide ((unhide BU74).trans (b89.mono (unhide BU74).size))
  clear BU74
  have BX92 := hide ((unhide BX75).up b89)
  clear BX75
  have BX93 := hide ((unhide BX76).up b89)
  clear BX76
  have O94 := hide ((unhide O77).up b89)
  clear O77
  have O95 := hide ((unhide O78).up b89)
  clear O78
  have Z96 := hide (show w71.heap.size ≤ w84.heap.size from b89.size)
  clear b89
  have H97 := hide (unhide O87).lt
  obtain ⟨x98, x99⟩ := (unhide BX92).two
  obtain ⟨x100, x101⟩ := (unhide BX93).two
  go_wp2_with fail
  clear x98 x99 x100 x101
  refine (eqItemF_kit ns _ _ w84 (unhide HS7) (unhide O94).rd (unhide O87).rd).mono ?_
  rintro e w102 ⟨rfl, b103⟩
  have B104 := hide ((unhide B90).trans (b103.mono (unhide B90).size))
  clear B90
  have BU105 := hide ((unhide BU91).trans (b103.mono (unhide BU91).size))
  clear BU91
  have BX106 := hide ((unhide BX92).up b103)
  clear BX92
  have BX107 := hide ((unhide BX93).up b103)
  clear BX93
  have O108 := hide ((unhide O94).up b103)
  clear O94
  have O109 := hide ((unhide O95).up b103)
  clear O95
  have Z110 := hide (show w84.heap.size ≤ w102.heap.size from b103.size)
  clear b103
  obtain ⟨x111, x112⟩ := (unhide BX106).two
  obtain ⟨x113, x114⟩ := (unhide BX107).two
  go_wp2_with fail
  clear x111 x112 x113 x114
  refine (markItemF_kit S34 (ns) _ w102 (1) N_ns (1) (by omega) (unhide HN_ns) (by omega) (unhide HS7) (unhide O108)).mono ?_
  rintro e w115 ⟨rfl, P116⟩
  have t117 := (unhide P116).2
  have B118 := hide ((unhide B104).trans (t117.below (unhide B104).size (fun k hk => by have z := unhide L36 k hk; have y := unhide H42 k hk; have z0 := unhide Z6; have z1 := unhide Z15; have z2 := unhide Z22; have z3 := unhide Z31; have z4 := unhide Z41; have z5 := unhide Z55; have z6 := unhide Z70; have z7 := unhide Z79; have z8 := unhide Z96; have z9 := unhide Z110; omega)))
  clear B104
  have BU119 := hide ((unhide BU105).trans (t117.below (unhide BU105).size (fun k hk => by have z := unhide L36 k hk; have y := unhide H42 k hk; have z0 := unhide Z6; have z1 := unhide Z15; have z2 := unhide Z22; have z3 := unhide Z31; have z4 := unhide Z41; have z5 := unhide Z55; have z6 := unhide Z70; have z7 := unhide Z79; have z8 := unhide Z96; have z9 := unhide Z110; omega)))
  clear BU105
  have BX120 := hide ((unhide BX106).turn t117 (fun hk => by have z := unhide L36 _ hk; have y := unhide H42 _ hk; have z0 := unhide Z6; have z1 := unhide Z15; have z2 := unhide Z22; have z3 := unhide Z31; have z4 := unhide Z41; have z5 := unhide Z55; have z6 := unhide Z70; have z7 := unhide Z79; have z8 := unhide Z96; have z9 := unhide Z110; omega))
  clear BX106
  have BX121 := hide ((unhide BX107).turn t117 (fun hk => by have z := unhide L36 _ hk; have y := unhide H42 _ hk; have z0 := unhide Z6; have z1 := unhide Z15; have z2 := unhide Z22; have z3 := unhide Z31; have z4 := unhide Z41; have z5 := unhide Z55; have z6 := unhide Z70; have z7 := unhide Z79; have z8 := unhide Z96; have z9 := unhide Z110; omega))
  clear BX107
  have O122 := hide ((unhide O109).turn t117 (fun k hk hm => by have z := unhide L36 k hm; have y := unhide H42 k hm; have u := unhide L50 k hk; have v := unhide H56 k hk; have z0 := unhide Z6; have z1 := unhide Z15; have z2 := unhide Z22; have z3 := unhide Z31; have z4 := unhide Z41; have z5 := unhide Z55; have z6 := unhide Z70; have z7 := unhide Z79; have z8 := unhide Z96; have z9 := unhide Z110; omega))
  clear O109
  have Z123 := hide (show w102.heap.size ≤ w115.heap.size from t117.size)
  have O124 := hide (unhide P116).1
  clear P116 t117
  have nf124 : ¬ (1 + (N_ns : Int)) < 0 := by omega
  obtain ⟨x125, x126⟩ := (unhide BX120).two
  obtain ⟨x127, x128⟩ := (unhide BX121).two
  go_wp2_with fail
  clear x125 x126 x127 x128
  refine (eqItem_kit (lastI ns) _ _ w115 (unhide HRS0) (unhide O122).rd ((unhide U20).up (unhide BU119))).mono ?_
  rintro e w129 ⟨rfl, b130⟩
  have B131 := hide ((unhide B118).trans (b130.mono (unhide B118).size))
  clear B118
  have BU132 := hide ((unhide BU119).trans (b130.mono (unhide BU119).size))
  clear BU119
  have BX133 := hide ((unhide BX120).up b130)
  clear BX120
  have BX134 := hide ((unhide BX121).up b130)
  clear BX121
  have O135 := hide ((unhide O124).up b130)
  clear O124
  have O136 := hide ((unhide O122).up b130)
  clear O122
  have Z137 := hide (show w115.heap.size ≤ w129.heap.size from b130.size)
  clear b130
  obtain ⟨x138, x139⟩ := (unhide BX133).two
  obtain ⟨x140, x141⟩ := (unhide BX134).two
  go_wp2_with fail
  clear x138 x139 x140 x141
  refine (markItem_kit S48 (lastI ns) _ w129 (1) M_0 (1) (by omega) (unhide HM_0) (by omega) (unhide HRS0) (unhide O136)).mono ?_
  rintro e w142 ⟨rfl, P143⟩
  have t144 := (unhide P143).2
  have B145 := hide ((unhide B131).trans (t144.below (unhide B131).size (fun k hk => by have z := unhide L50 k hk; have y := unhide H56 k hk; have z0 := unhide Z6; have z1 := unhide Z15; have z2 := unhide Z22; have z3 := unhide Z31; have z4 := unhide Z41; have z5 := unhide Z55; have z6 := unhide Z70; have z7 := unhide Z79; have z8 := unhide Z96; have z9 := unhide Z110; have z10 := unhide Z123; have z11 := unhide Z137; omega)))
  clear B131
  have BU146 := hide ((unhide BU132).trans (t144.below (unhide BU132).size (fun k hk => by have z := unhide L50 k hk; have y := unhide H56 k hk; have z0 := unhide Z6; have z1 := unhide Z15; have z2 := unhide Z22; have z3 := unhide Z31; have z4 := unhide Z41; have z5 := unhide Z55; have z6 := unhide Z70; have z7 := unhide Z79; have z8 := unhide Z96; have z9 := unhide Z110; have z10 := unhide Z123; have z11 := unhide Z137; omega)))
  clear BU132
  have BX147 := hide ((unhide BX133).turn t144 (fun hk => by have z := unhide L50 _ hk; have y := unhide H56 _ hk; have z0 := unhide Z6; have z1 := unhide Z15; have z2 := unhide Z22; have z3 := unhide Z31; have z4 := unhide Z41; have z5 := unhide Z55; have z6 := unhide Z70; have z7 := unhide Z79; have z8 := unhide Z96; have z9 := unhide Z110; have z10 := unhide Z123; have z11 := unhide Z137; omega))
  clear BX133
  have BX148 := hide ((unhide BX134).turn t144 (fun hk => by have z := unhide L50 _ hk; have y := unhide H56 _ hk; have z0 := unhide Z6; have z1 := unhide Z15; have z2 := unhide Z22; have z3 := unhide Z31; have z4 := unhide Z41; have z5 := unhide Z55; have z6 := unhide Z70; have z7 := unhide Z79; have z8 := unhide Z96; have z9 := unhide Z110; have z10 := unhide Z123; have z11 := unhide Z137; omega))
  clear BX134
  have O149 := hide ((unhide O135).turn t144 (fun k hk hm => by have z := unhide L50 k hm; have y := unhide H56 k hm; have u := unhide L36 k hk; have v := unhide H42 k hk; have z0 := unhide Z6; have z1 := unhide Z15; have z2 := unhide Z22; have z3 := unhide Z31; have z4 := unhide Z41; have z5 := unhide Z55; have z6 := unhide Z70; have z7 := unhide Z79; have z8 := unhide Z96; have z9 := unhide Z110; have z10 := unhide Z123; have z11 := unhide Z137; omega))
  clear O135
  have Z150 := hide (show w129.heap.size ≤ w142.heap.size from t144.size)
  have O151 := hide (unhide P143).1
  clear P143 t144
  have nf151 : ¬ (1 + (M_0 : Int)) < 0 := by omega
  obtain ⟨x152, x153⟩ := (unhide BX147).two
  obtain ⟨x154, x155⟩ := (unhide BX148).two
  go_wp2_with fail
  clear x152 x153 x154 x155
  refine (heldItem_kit (lastI ns) _ w142 (1) M_0 (1) (by omega) (unhide HM_0) (by omega) (unhide HRS0) (unhide O151).rd).mono ?_
  rintro e w156 ⟨rfl, b157⟩
  have B158 := hide ((unhide B145).trans (b157.mono (unhide B145).size))
  clear B145
  have BU159 := hide ((unhide BU146).trans (b157.mono (unhide BU146).size))
  clear BU146
  have BX160 := hide ((unhide BX147).up b157)
  clear BX147
  have BX161 := hide ((unhide BX148).up b157)
  clear BX148
  have O162 := hide ((unhide O149).up b157)
  clear O149
  have O163 := hide ((unhide O151).up b157)
  clear O151
  have Z164 := hide (show w142.heap.size ≤ w156.heap.size from b157.size)
  clear b157
  obtain ⟨x165, x166⟩ := (unhide BX160).two
  obtain ⟨x167, x168⟩ := (unhide BX161).two
  go_wp2_with fail
  clear x165 x166 x167 x168
  refine (toItemF_kit ns _ w156 (unhide HS7) ((unhide HR_ns).up (unhide B158))).mono ?_
  rintro e w169 ⟨v170, S171, rfl, O172, L173, b174⟩
  have B175 := hide ((unhide B158).trans (b174.mono (unhide B158).size))
  clear B158
  have BU176 := hide ((unhide BU159).trans (b174.mono (unhide BU159).size))
  clear BU159
  have BX177 := hide ((unhide BX160).up b174)
  clear BX160
  have BX178 := hide ((unhide BX161).up b174)
  clear BX161
  have O179 := hide ((unhide O162).up b174)
  clear O162
  have O180 := hide ((unhide O163).up b174)
  clear O163
  have Z181 := hide (show w156.heap.size ≤ w169.heap.size from b174.size)
  clear b174
  have H182 := hide (unhide O172).lt
  obtain ⟨x183, x184⟩ := (unhide BX177).two
  obtain ⟨x185, x186⟩ := (unhide BX178).two
  go_wp2_with fail
  clear x183 x184 x185 x186
  refine (implLast_kit ns _ w169 (unhide HS7) (unhide O172)).mono ?_
  rintro e w187 ⟨v189, S190, rfl, O191, L192, b188⟩
  clear O172
  have B193 := hide ((unhide B175).trans (b188.mono (unhide B175).size))
  clear B175
  have BU194 := hide ((unhide BU176).trans (b188.mono (unhide BU176).size))
  clear BU176
  have BX195 := hide ((unhide BX177).up b188)
  clear BX177
  have BX196 := hide ((unhide BX178).up b188)
  clear BX178
  have O197 := hide ((unhide O179).up b188)
  clear O179
  have O198 := hide ((unhide O180).up b188)
  clear O180
  have Z199 := hide (show w169.heap.size ≤ w187.heap.size from b188.size)
  clear b188
  obtain ⟨q_h0_0, q_h0_1, q_h0_2, q_h0_3, rfl⟩ := (unhide O191).rd.form
  have H200 := hide (unhide O191).lt
  obtain ⟨x201, x202⟩ := (unhide BX195).two
  obtain ⟨x203, x204⟩ := (unhide BX196).two
  have lt205 : w17.heap.size < w187.heap.size := (unhide BX195).1
  have lt206 : w45.heap.size < w187.heap.size := (unhide BX196).1
  obtain ⟨bx207, b208, zz209⟩ := boxNew2 w187 (.int .i64 q_h0_0) (.slice q_h0_1 q_h0_2 q_h0_3) 26
  go_wp2_with fail
  generalize w187.alloc (.cells #[.int .i64 q_h0_0, .slice q_h0_1 q_h0_2 q_h0_3] 26) = W210 at *
  have B212 := hide ((unhide B193).trans (b208.mono (unhide B193).size))
  clear B193
  have BU213 := hide ((unhide BU194).trans (b208.mono (unhide BU194).size))
  clear BU194
  have BX214 := hide ((unhide BX195).up b208)
  clear BX195
  have BX215 := hide ((unhide BX196).up b208)
  clear BX196
  have O216 := hide ((unhide O197).up b208)
  clear O197
  have O217 := hide ((unhide O198).up b208)
  clear O198
  have O218 := hide ((unhide O191).up b208)
  clear O191
  have Z219 := hide (show w187.heap.size < W210.heap.size from zz209)
  have BX211 := hide bx207
  clear bx207 b208 zz209
  clear x201 x202 x203 x204 lt205 lt206
  refine (eqItem_kit (lastI ns) _ _ W210 (unhide HRS0) (unhide O218).rd ((unhide U20).up (unhide BU213))).mono ?_
  rintro e w220 ⟨rfl, b221⟩
  have B222 := hide ((unhide B212).trans (b221.mono (unhide B212).size))
  clear B212
  have BU223 := hide ((unhide BU213).trans (b221.mono (unhide BU213).size))
  clear BU213
  have BX224 := hide ((unhide BX214).up b221)
  clear BX214
  have BX225 := hide ((unhide BX215).up b221)
  clear BX215
  have BX226 := hide ((unhide BX211).up b221)
  clear BX211
  have O227 := hide ((unhide O216).up b221)
  clear O216
  have O228 := hide ((unhide O217).up b221)
  clear O217
  have O229 := hide ((unhide O218).up b221)
  clear O218
  have Z230 := hide (show W210.heap.size ≤ w220.heap.size from b221.size)
  clear b221
  obtain ⟨x231, x232⟩ := (unhide BX224).two
  obtain ⟨x233, x234⟩ := (unhide BX225).two
  obtain ⟨x235, x236⟩ := (unhide BX226).two
  go_wp2_with fail
  clear x231 x232 x233 x234 x235 x236
  refine (heldItem_kit (lastI ns) _ w220 (1) M_0 (1) (by omega) (unhide HM_0) (by omega) (unhide HRS0) (unhide O228).rd).mono ?_
  rintro e w237 ⟨rfl, b238⟩
  have B239 := hide ((unhide B222).trans (b238.mono (unhide B222).size))
  clear B222
  have BU240 := hide ((unhide BU223).trans (b238.mono (unhide BU223).size))
  clear BU223
  have BX241 := hide ((unhide BX224).up b238)
  clear BX224
  have BX242 := hide ((unhide BX225).up b238)
  clear BX225
  have BX243 := hide ((unhide BX226).up b238)
  clear BX226
  have O244 := hide ((unhide O227).up b238)
  clear O227
  have O245 := hide ((unhide O228).up b238)
  clear O228
  have O246 := hide ((unhide O229).up b238)
  clear O229
  have Z247 := hide (show w220.heap.size ≤ w237.heap.size from b238.size)
  clear b238
  obtain ⟨x248, x249⟩ := (unhide BX241).two
  obtain ⟨x250, x251⟩ := (unhide BX242).two
  obtain ⟨x252, x253⟩ := (unhide BX243).two
  go_wp2_with fail
  go_ret
  exact ⟨rfl, unhide B239⟩

theorem own : ownKnob Try.prog.godebug = none := by kernel_rfl
theorem laidOut : laidOutB Try.prog = true := by kernel_rfl

set_option maxRecDepth 100000 in
theorem lifted (os : Os) (started : os.Started) (H : Type) (enc : TypeId × Value → H) :
    ReturnsInHanded {} Try.checked os 3 .any (Rows.fnExactWindowLastSpec.pre6 enc Try.prog Try.f3 Rows.fnExactWindowLastRow.domain false) (Rows.fnExactWindowLastSpec.post enc Try.prog Try.f3 false true false false) := by
  refine returnsInHanded_of_change (C := Try.checked) own started (by kernel_rfl) Try.func3
    (ChangeSpec.witness6 (enc := enc) (C := Try.checked) false ⟨#[], #[.slice none 0 0], []⟩ 8 (by kernel_rfl) (by kernel_rfl) (by kernel_rfl) (by kernel_rfl)) ?_
  intro W base args ds gs before hval0 hW hcnd _
  have hval : ∀ (j : Nat) t v, Try.f3.params[j]? = some t → args[j]? = some v → Value.okWide Try.prog W .any base t v := hval0
  have hW' := hW
  obtain ⟨p, q, hA0, hV, rfl, hfz, hnd⟩ := hW
  have hA : DataW.TrodAll enc Try.prog W 0 (fun _ => true) true Try.f3.params.toList args.toList ds p := hA0
  rw [Try.params3] at hA hval
  obtain ⟨v0, vs0, d0, ds0, p0, q0, hargs, rfl, rfl, h0, r0⟩ := trodAll_cons hA
  obtain ⟨rfl, rfl, rfl⟩ := trodAll_nil r0
  obtain rfl : args = #[v0] := by cases args; simp_all
  obtain ⟨rfl, rfl⟩ := trodVars_none hV
  obtain ⟨a0, len0, cap0, rfl⟩ := okWide_slice Try.underlying22 (hval 0 22 v0 rfl rfl)
  have k0 := h0
  have lt0 : ∀ x ∈ p0, x.block < W.heap.size := by obtain ⟨m, hm⟩ := k0; exact DataW.trod_lt m _ _ _ hm
  obtain ⟨ns0, rfl, hl0, hn0, ho0⟩ := openItemS h0
  clear hA0 hval0
  refine (walk ns0 _ W ⟨hl0, ho0⟩ ⟨a0, cap0, rfl, hn0⟩).mono fun e W' ⟨he, bel⟩ => ?_
  subst he
  exact ⟨_, rfl, _, _, _, [], _, [], hW', trodAll_mk1 (shut_bool Try.underlying4 _), (trodAll_cons_mk (Below.trod laidOut (by kernel_rfl) (of_decide_eq_true (by kernel_rfl)) k0 bel lt0) trodAll_mk0), rfl, bel.frame _, fun h => by cases h⟩

theorem over : Rows.fnExactWindowLastRow.holds Try.pinned (OpenSpec.ofChange Rows.fnExactWindowLastSpec) :=
  OpenClaim.holds_of_wide 3 Try.f3 rfl rfl rfl rfl rfl rfl rfl ⟨rfl, rfl, rfl, rfl, rfl⟩ rfl rfl rfl rfl rfl (by kernel_rfl) Try.func3 (by kernel_rfl)
    (of_decide_eq_true (by kernel_rfl)) (by unfold Func.isWrapper; first | (rw [if_pos (by decide +kernel)]; kernel_rfl) | (rw [if_neg (by decide +kernel)]; exact ⟨rfl, rfl⟩))
    (fun os started H enc _ => lifted os started H enc)

end Go.Proofs.Ytnnhdgaokifcoaa.fnExactWindowLast

namespace Go.Proofs.Ytnnhdgaokifcoaa
theorem fnExactWindowLast_holds : Rows.FnExactWindowLastSaid :=
  fnExactWindowLast.over
end Go.Proofs.Ytnnhdgaokifcoaa
