/-
  Proved: at every list of bytes the law on SayRead answers true, and the list reads afterwards as before: the program reads a word from bytes as the specification does, and its answer owns its memory. No condition.
-/
import Derived.Test.YtkjeimdanelpoaaSayReadK
import Derived.Test.YtkjeimdanelpoaaVerMarks
import Derived.Test.YtkjeimdanelpoaaByArg
import Derived.Test.YtkjeimdanelpoaaByKit
import Derived.Test.YtkjeimdanelpoaaRows
import Derived.WalkKit
import Derived.ProofKit
import Derived.OpenShut
import Derived.Handy
namespace Go.Proofs.Ytkjeimdanelpoaa.fnExactSayRead
open Go.ChangeShapes Go.WideShapes Go.ChangeAt Go.RowKit Go.Deep Go.Maps
set_option linter.unusedVariables false


set_option maxHeartbeats 12800000 in
theorem walk (bs : List UInt8) (v_bs : Value) (w : World) (hf_bs : ByFit bs) (hr_bs : ByRd w v_bs bs) :
    Calls Try.prog 3 #[v_bs] w fun e w' => e = .returned (.bool true) ∧ Below w.heap.size w w' := by
  have HF_bs := hide hf_bs
  clear hf_bs
  have HR_bs := hide hr_bs
  obtain ⟨p_bs0, p_bs1, p_bs2, rfl⟩ := hr_bs.form
  clear hr_bs
  go_enter Try.func3, Try.ntmps3
  have B00 := hide (Below.refl w.heap.size w)
  by_cases hl_bs : (p_bs1 : Int) ≤ 1048576
  rotate_left
  · go_wp2_with fail
    go_ret
    exact ⟨rfl, by go_grown⟩
  have HS1 := hide (small_of_len (unhide HR_bs) hl_bs)
  obtain ⟨N_bs, HN_bs⟩ : ∃ N, Hid (nByteS bs = N) := ⟨_, rfl⟩
  have NL_bs : N_bs ≤ 100000000 := by rw [← unhide HN_bs]; exact nByteS_le (unhide HS1)
  have HRS0 := hide (show SmallSay (sayV bs) from small_sayV bs)
  obtain ⟨M_0, HM_0⟩ : ∃ N, Hid (nSay (sayV bs) = N) := ⟨_, rfl⟩
  have ML_0 : M_0 ≤ 100000000 := by rw [← unhide HM_0]; exact nSay_le (unhide HRS0)
  go_wp2_with fail
  refine (toByteS_kit bs _ w (unhide HS1) ((unhide HR_bs).up (unhide B00))).mono ?_
  rintro e w2 ⟨v3, S4, rfl, O5, L6, b7⟩
  have B8 := hide ((unhide B00).trans (b7.mono (unhide B00).size))
  clear B00
  have Z9 := hide (show w.heap.size ≤ w2.heap.size from b7.size)
  clear b7
  have H10 := hide (unhide O5).lt
  go_wp2_with fail
  refine (specSayRead_kit bs _ w2 (unhide HS1) (unhide O5).rd).mono ?_
  rintro e w11 ⟨v13, rfl, U14, b12⟩
  clear O5
  have B15 := hide ((unhide B8).trans (b12.mono (unhide B8).size))
  clear B8
  have Z16 := hide (show w2.heap.size ≤ w11.heap.size from b12.size)
  clear b12
  obtain ⟨q_w0_0, q_w0_1, q_w0_2, q_w0_3, q_w0_4, q_w0_5, q_w0_6, q_w0_7, rfl⟩ := (unhide U14).form
  have BU17 := hide (Below.refl w11.heap.size w11)
  obtain ⟨bx18, b19, zz20⟩ := boxNew6 w11 (.int .i64 q_w0_0) (.int .i64 q_w0_1) (.int .i64 q_w0_2) (.string q_w0_3) (.int .i64 q_w0_4) (.slice q_w0_5 q_w0_6 q_w0_7) 25
  go_wp2_with fail
  generalize w11.alloc (.cells #[.int .i64 q_w0_0, .int .i64 q_w0_1, .int .i64 q_w0_2, .string q_w0_3, .int .i64 q_w0_4, .slice q_w0_5 q_w0_6 q_w0_7] 25) = W21 at *
  have B23 := hide ((unhide B15).trans (b19.mono (unhide B15).size))
  clear B15
  have BU24 := hide ((unhide BU17).trans (b19.mono (unhide BU17).size))
  clear BU17
  have Z25 := hide (show w11.heap.size < W21.heap.size from zz20)
  have BX22 := hide bx18
  clear bx18 b19 zz20
  refine (toByteS_kit bs _ W21 (unhide HS1) ((unhide HR_bs).up (unhide B23))).mono ?_
  rintro e w26 ⟨v27, S28, rfl, O29, L30, b31⟩
  have B32 := hide ((unhide B23).trans (b31.mono (unhide B23).size))
  clear B23
  have BU33 := hide ((unhide BU24).trans (b31.mono (unhide BU24).size))
  clear BU24
  have BX34 := hide ((unhide BX22).up b31)
  clear BX22
  have Z35 := hide (show W21.heap.size ≤ w26.heap.size from b31.size)
  clear b31
  have H36 := hide (unhide O29).lt
  obtain ⟨r_bs0, r_bs1, r_bs2, rfl⟩ := (unhide O29).rd.form
  obtain ⟨x37, x38, x39, x40, x41, x42⟩ := (unhide BX34).six
  go_wp2_with fail
  clear x37 x38 x39 x40 x41 x42
  refine (implSayRead_kit bs _ w26 (unhide HS1) (unhide O29).rd).mono ?_
  rintro e w43 ⟨v45, S46, rfl, O47, L48, b44⟩
  have B49 := hide ((unhide B32).trans (b44.mono (unhide B32).size))
  clear B32
  have BU50 := hide ((unhide BU33).trans (b44.mono (unhide BU33).size))
  clear BU33
  have BX51 := hide ((unhide BX34).up b44)
  clear BX34
  have O52 := hide ((unhide O29).up b44)
  clear O29
  have Z53 := hide (show w26.heap.size ≤ w43.heap.size from b44.size)
  clear b44
  obtain ⟨q_g0_0, q_g0_1, q_g0_2, q_g0_3, q_g0_4, q_g0_5, q_g0_6, q_g0_7, rfl⟩ := (unhide O47).rd.form
  have H54 := hide (unhide O47).lt
  obtain ⟨x55, x56, x57, x58, x59, x60⟩ := (unhide BX51).six
  have lt61 : w11.heap.size < w43.heap.size := (unhide BX51).1
  obtain ⟨bx62, b63, zz64⟩ := boxNew6 w43 (.int .i64 q_g0_0) (.int .i64 q_g0_1) (.int .i64 q_g0_2) (.string q_g0_3) (.int .i64 q_g0_4) (.slice q_g0_5 q_g0_6 q_g0_7) 25
  go_wp2_with fail
  generalize w43.alloc (.cells #[.int .i64 q_g0_0, .int .i64 q_g0_1, .int .i64 q_g0_2, .string q_g0_3, .int .i64 q_g0_4, .slice q_g0_5 q_g0_6 q_g0_7] 25) = W65 at *
  have B67 := hide ((unhide B49).trans (b63.mono (unhide B49).size))
  clear B49
  have BU68 := hide ((unhide BU50).trans (b63.mono (unhide BU50).size))
  clear BU50
  have BX69 := hide ((unhide BX51).up b63)
  clear BX51
  have O70 := hide ((unhide O52).up b63)
  clear O52
  have O71 := hide ((unhide O47).up b63)
  clear O47
  have Z72 := hide (show w43.heap.size < W65.heap.size from zz64)
  have BX66 := hide bx62
  clear bx62 b63 zz64
  clear x55 x56 x57 x58 x59 x60 lt61
  refine (eqSay_kit (sayV bs) _ _ W65 (unhide HRS0) (unhide O71).rd ((unhide U14).up (unhide BU68))).mono ?_
  rintro e w73 ⟨rfl, b74⟩
  have B75 := hide ((unhide B67).trans (b74.mono (unhide B67).size))
  clear B67
  have BU76 := hide ((unhide BU68).trans (b74.mono (unhide BU68).size))
  clear BU68
  have BX77 := hide ((unhide BX69).up b74)
  clear BX69
  have BX78 := hide ((unhide BX66).up b74)
  clear BX66
  have O79 := hide ((unhide O70).up b74)
  clear O70
  have O80 := hide ((unhide O71).up b74)
  clear O71
  have Z81 := hide (show W65.heap.size ≤ w73.heap.size from b74.size)
  clear b74
  obtain ⟨x82, x83, x84, x85, x86, x87⟩ := (unhide BX77).six
  obtain ⟨x88, x89, x90, x91, x92, x93⟩ := (unhide BX78).six
  go_wp2_with fail
  clear x82 x83 x84 x85 x86 x87 x88 x89 x90 x91 x92 x93
  refine (toByteS_kit bs _ w73 (unhide HS1) ((unhide HR_bs).up (unhide B75))).mono ?_
  rintro e w94 ⟨v95, S96, rfl, O97, L98, b99⟩
  have B100 := hide ((unhide B75).trans (b99.mono (unhide B75).size))
  clear B75
  have BU101 := hide ((unhide BU76).trans (b99.mono (unhide BU76).size))
  clear BU76
  have BX102 := hide ((unhide BX77).up b99)
  clear BX77
  have BX103 := hide ((unhide BX78).up b99)
  clear BX78
  have O104 := hide ((unhide O79).up b99)
  clear O79
  have O105 := hide ((unhide O80).up b99)
  clear O80
  have Z106 := hide (show w73.heap.size ≤ w94.heap.size from b99.size)
  clear b99
  have H107 := hide (unhide O97).lt
  obtain ⟨x108, x109, x110, x111, x112, x113⟩ := (unhide BX102).six
  obtain ⟨x114, x115, x116, x117, x118, x119⟩ := (unhide BX103).six
  go_wp2_with fail
  clear x108 x109 x110 x111 x112 x113 x114 x115 x116 x117 x118 x119
  refine (eqByteS_kit bs _ _ w94 (unhide HS1) (unhide O104).rd (unhide O97).rd).mono ?_
  rintro e w120 ⟨rfl, b121⟩
  have B122 := hide ((unhide B100).trans (b121.mono (unhide B100).size))
  clear B100
  have BU123 := hide ((unhide BU101).trans (b121.mono (unhide BU101).size))
  clear BU101
  have BX124 := hide ((unhide BX102).up b121)
  clear BX102
  have BX125 := hide ((unhide BX103).up b121)
  clear BX103
  have O126 := hide ((unhide O104).up b121)
  clear O104
  have O127 := hide ((unhide O105).up b121)
  clear O105
  have Z128 := hide (show w94.heap.size ≤ w120.heap.size from b121.size)
  clear b121
  obtain ⟨x129, x130, x131, x132, x133, x134⟩ := (unhide BX124).six
  obtain ⟨x135, x136, x137, x138, x139, x140⟩ := (unhide BX125).six
  go_wp2_with fail
  clear x129 x130 x131 x132 x133 x134 x135 x136 x137 x138 x139 x140
  refine (markByteS_kit S28 (bs) _ w120 (1) N_bs (1) (by omega) (unhide HN_bs) (by omega) (unhide HS1) (unhide O126)).mono ?_
  rintro e w141 ⟨rfl, P142⟩
  have t143 := (unhide P142).2
  have B144 := hide ((unhide B122).trans (t143.below (unhide B122).size (fun k hk => by have z := unhide L30 k hk; have y := unhide H36 k hk; have z0 := unhide Z9; have z1 := unhide Z16; have z2 := unhide Z25; have z3 := unhide Z35; have z4 := unhide Z53; have z5 := unhide Z72; have z6 := unhide Z81; have z7 := unhide Z106; have z8 := unhide Z128; omega)))
  clear B122
  have BU145 := hide ((unhide BU123).trans (t143.below (unhide BU123).size (fun k hk => by have z := unhide L30 k hk; have y := unhide H36 k hk; have z0 := unhide Z9; have z1 := unhide Z16; have z2 := unhide Z25; have z3 := unhide Z35; have z4 := unhide Z53; have z5 := unhide Z72; have z6 := unhide Z81; have z7 := unhide Z106; have z8 := unhide Z128; omega)))
  clear BU123
  have BX146 := hide ((unhide BX124).turn t143 (fun hk => by have z := unhide L30 _ hk; have y := unhide H36 _ hk; have z0 := unhide Z9; have z1 := unhide Z16; have z2 := unhide Z25; have z3 := unhide Z35; have z4 := unhide Z53; have z5 := unhide Z72; have z6 := unhide Z81; have z7 := unhide Z106; have z8 := unhide Z128; omega))
  clear BX124
  have BX147 := hide ((unhide BX125).turn t143 (fun hk => by have z := unhide L30 _ hk; have y := unhide H36 _ hk; have z0 := unhide Z9; have z1 := unhide Z16; have z2 := unhide Z25; have z3 := unhide Z35; have z4 := unhide Z53; have z5 := unhide Z72; have z6 := unhide Z81; have z7 := unhide Z106; have z8 := unhide Z128; omega))
  clear BX125
  have O148 := hide ((unhide O127).turn t143 (fun k hk hm => by have z := unhide L30 k hm; have y := unhide H36 k hm; have u := unhide L48 k hk; have v := unhide H54 k hk; have z0 := unhide Z9; have z1 := unhide Z16; have z2 := unhide Z25; have z3 := unhide Z35; have z4 := unhide Z53; have z5 := unhide Z72; have z6 := unhide Z81; have z7 := unhide Z106; have z8 := unhide Z128; omega))
  clear O127
  have Z149 := hide (show w120.heap.size ≤ w141.heap.size from t143.size)
  have O150 := hide (unhide P142).1
  clear P142 t143
  have nf150 : ¬ (1 + (N_bs : Int)) < 0 := by omega
  obtain ⟨x151, x152, x153, x154, x155, x156⟩ := (unhide BX146).six
  obtain ⟨x157, x158, x159, x160, x161, x162⟩ := (unhide BX147).six
  go_wp2_with fail
  clear x151 x152 x153 x154 x155 x156 x157 x158 x159 x160 x161 x162
  refine (eqSay_kit (sayV bs) _ _ w141 (unhide HRS0) (unhide O148).rd ((unhide U14).up (unhide BU145))).mono ?_
  rintro e w163 ⟨rfl, b164⟩
  have B165 := hide ((unhide B144).trans (b164.mono (unhide B144).size))
  clear B144
  have BU166 := hide ((unhide BU145).trans (b164.mono (unhide BU145).size))
  clear BU145
  have BX167 := hide ((unhide BX146).up b164)
  clear BX146
  have BX168 := hide ((unhide BX147).up b164)
  clear BX147
  have O169 := hide ((unhide O150).up b164)
  clear O150
  have O170 := hide ((unhide O148).up b164)
  clear O148
  have Z171 := hide (show w141.heap.size ≤ w163.heap.size from b164.size)
  clear b164
  obtain ⟨x172, x173, x174, x175, x176, x177⟩ := (unhide BX167).six
  obtain ⟨x178, x179, x180, x181, x182, x183⟩ := (unhide BX168).six
  go_wp2_with fail
  clear x172 x173 x174 x175 x176 x177 x178 x179 x180 x181 x182 x183
  refine (markSay_kit S46 (sayV bs) _ w163 (1) M_0 (1) (by omega) (unhide HM_0) (by omega) (unhide HRS0) (unhide O170)).mono ?_
  rintro e w184 ⟨rfl, P185⟩
  have t186 := (unhide P185).2
  have B187 := hide ((unhide B165).trans (t186.below (unhide B165).size (fun k hk => by have z := unhide L48 k hk; have y := unhide H54 k hk; have z0 := unhide Z9; have z1 := unhide Z16; have z2 := unhide Z25; have z3 := unhide Z35; have z4 := unhide Z53; have z5 := unhide Z72; have z6 := unhide Z81; have z7 := unhide Z106; have z8 := unhide Z128; have z9 := unhide Z149; have z10 := unhide Z171; omega)))
  clear B165
  have BU188 := hide ((unhide BU166).trans (t186.below (unhide BU166).size (fun k hk => by have z := unhide L48 k hk; have y := unhide H54 k hk; have z0 := unhide Z9; have z1 := unhide Z16; have z2 := unhide Z25; have z3 := unhide Z35; have z4 := unhide Z53; have z5 := unhide Z72; have z6 := unhide Z81; have z7 := unhide Z106; have z8 := unhide Z128; have z9 := unhide Z149; have z10 := unhide Z171; omega)))
  clear BU166
  have BX189 := hide ((unhide BX167).turn t186 (fun hk => by have z := unhide L48 _ hk; have y := unhide H54 _ hk; have z0 := unhide Z9; have z1 := unhide Z16; have z2 := unhide Z25; have z3 := unhide Z35; have z4 := unhide Z53; have z5 := unhide Z72; have z6 := unhide Z81; have z7 := unhide Z106; have z8 := unhide Z128; have z9 := unhide Z149; have z10 := unhide Z171; omega))
  clear BX167
  have BX190 := hide ((unhide BX168).turn t186 (fun hk => by have z := unhide L48 _ hk; have y := unhide H54 _ hk; have z0 := unhide Z9; have z1 := unhide Z16; have z2 := unhide Z25; have z3 := unhide Z35; have z4 := unhide Z53; have z5 := unhide Z72; have z6 := unhide Z81; have z7 := unhide Z106; have z8 := unhide Z128; have z9 := unhide Z149; have z10 := unhide Z171; omega))
  clear BX168
  have O191 := hide ((unhide O169).turn t186 (fun k hk hm => by have z := unhide L48 k hm; have y := unhide H54 k hm; have u := unhide L30 k hk; have v := unhide H36 k hk; have z0 := unhide Z9; have z1 := unhide Z16; have z2 := unhide Z25; have z3 := unhide Z35; have z4 := unhide Z53; have z5 := unhide Z72; have z6 := unhide Z81; have z7 := unhide Z106; have z8 := unhide Z128; have z9 := unhide Z149; have z10 := unhide Z171; omega))
  clear O169
  have Z192 := hide (show w163.heap.size ≤ w184.heap.size from t186.size)
  have O193 := hide (unhide P185).1
  clear P185 t186
  have nf193 : ¬ (1 + (M_0 : Int)) < 0 := by omega
  obtain ⟨x194, x195, x196, x197, x198, x199⟩ := (unhide BX189).six
  obtain ⟨x200, x201, x202, x203, x204, x205⟩ := (unhide BX190).six
  go_wp2_with fail
  clear x194 x195 x196 x197 x198 x199 x200 x201 x202 x203 x204 x205
  refine (heldSay_kit (sayV bs) _ w184 (1) M_0 (1) (by omega) (unhide HM_0) (by omega) (unhide HRS0) (unhide O193).rd).mono ?_
  rintro e w206 ⟨rfl, b207⟩
  have B208 := hide ((unhide B187).trans (b207.mono (unhide B187).size))
  clear B187
  have BU209 := hide ((unhide BU188).trans (b207.mono (unhide BU188).size))
  clear BU188
  have BX210 := hide ((unhide BX189).up b207)
  clear BX189
  have BX211 := hide ((unhide BX190).up b207)
  clear BX190
  have O212 := hide ((unhide O191).up b207)
  clear O191
  have O213 := hide ((unhide O193).up b207)
  clear O193
  have Z214 := hide (show w184.heap.size ≤ w206.heap.size from b207.size)
  clear b207
  obtain ⟨x215, x216, x217, x218, x219, x220⟩ := (unhide BX210).six
  obtain ⟨x221, x222, x223, x224, x225, x226⟩ := (unhide BX211).six
  go_wp2_with fail
  clear x215 x216 x217 x218 x219 x220 x221 x222 x223 x224 x225 x226
  refine (toByteS_kit bs _ w206 (unhide HS1) ((unhide HR_bs).up (unhide B208))).mono ?_
  rintro e w227 ⟨v228, S229, rfl, O230, L231, b232⟩
  have B233 := hide ((unhide B208).trans (b232.mono (unhide B208).size))
  clear B208
  have BU234 := hide ((unhide BU209).trans (b232.mono (unhide BU209).size))
  clear BU209
  have BX235 := hide ((unhide BX210).up b232)
  clear BX210
  have BX236 := hide ((unhide BX211).up b232)
  clear BX211
  have O237 := hide ((unhide O212).up b232)
  clear O212
  have O238 := hide ((unhide O213).up b232)
  clear O213
  have Z239 := hide (show w206.heap.size ≤ w227.heap.size from b232.size)
  clear b232
  have H240 := hide (unhide O230).lt
  obtain ⟨x241, x242, x243, x244, x245, x246⟩ := (unhide BX235).six
  obtain ⟨x247, x248, x249, x250, x251, x252⟩ := (unhide BX236).six
  go_wp2_with fail
  clear x241 x242 x243 x244 x245 x246 x247 x248 x249 x250 x251 x252
  refine (implSayRead_kit bs _ w227 (unhide HS1) (unhide O230).rd).mono ?_
  rintro e w253 ⟨v255, S256, rfl, O257, L258, b254⟩
  clear O230
  have B259 := hide ((unhide B233).trans (b254.mono (unhide B233).size))
  clear B233
  have BU260 := hide ((unhide BU234).trans (b254.mono (unhide BU234).size))
  clear BU234
  have BX261 := hide ((unhide BX235).up b254)
  clear BX235
  have BX262 := hide ((unhide BX236).up b254)
  clear BX236
  have O263 := hide ((unhide O237).up b254)
  clear O237
  have O264 := hide ((unhide O238).up b254)
  clear O238
  have Z265 := hide (show w227.heap.size ≤ w253.heap.size from b254.size)
  clear b254
  obtain ⟨q_h0_0, q_h0_1, q_h0_2, q_h0_3, q_h0_4, q_h0_5, q_h0_6, q_h0_7, rfl⟩ := (unhide O257).rd.form
  have H266 := hide (unhide O257).lt
  obtain ⟨x267, x268, x269, x270, x271, x272⟩ := (unhide BX261).six
  obtain ⟨x273, x274, x275, x276, x277, x278⟩ := (unhide BX262).six
  have lt279 : w11.heap.size < w253.heap.size := (unhide BX261).1
  have lt280 : w43.heap.size < w253.heap.size := (unhide BX262).1
  obtain ⟨bx281, b282, zz283⟩ := boxNew6 w253 (.int .i64 q_h0_0) (.int .i64 q_h0_1) (.int .i64 q_h0_2) (.string q_h0_3) (.int .i64 q_h0_4) (.slice q_h0_5 q_h0_6 q_h0_7) 25
  go_wp2_with fail
  generalize w253.alloc (.cells #[.int .i64 q_h0_0, .int .i64 q_h0_1, .int .i64 q_h0_2, .string q_h0_3, .int .i64 q_h0_4, .slice q_h0_5 q_h0_6 q_h0_7] 25) = W284 at *
  have B286 := hide ((unhide B259).trans (b282.mono (unhide B259).size))
  clear B259
  have BU287 := hide ((unhide BU260).trans (b282.mono (unhide BU260).size))
  clear BU260
  have BX288 := hide ((unhide BX261).up b282)
  clear BX261
  have BX289 := hide ((unhide BX262).up b282)
  clear BX262
  have O290 := hide ((unhide O263).up b282)
  clear O263
  have O291 := hide ((unhide O264).up b282)
  clear O264
  have O292 := hide ((unhide O257).up b282)
  clear O257
  have Z293 := hide (show w253.heap.size < W284.heap.size from zz283)
  have BX285 := hide bx281
  clear bx281 b282 zz283
  clear x267 x268 x269 x270 x271 x272 x273 x274 x275 x276 x277 x278 lt279 lt280
  refine (eqSay_kit (sayV bs) _ _ W284 (unhide HRS0) (unhide O292).rd ((unhide U14).up (unhide BU287))).mono ?_
  rintro e w294 ⟨rfl, b295⟩
  have B296 := hide ((unhide B286).trans (b295.mono (unhide B286).size))
  clear B286
  have BU297 := hide ((unhide BU287).trans (b295.mono (unhide BU287).size))
  clear BU287
  have BX298 := hide ((unhide BX288).up b295)
  clear BX288
  have BX299 := hide ((unhide BX289).up b295)
  clear BX289
  have BX300 := hide ((unhide BX285).up b295)
  clear BX285
  have O301 := hide ((unhide O290).up b295)
  clear O290
  have O302 := hide ((unhide O291).up b295)
  clear O291
  have O303 := hide ((unhide O292).up b295)
  clear O292
  have Z304 := hide (show W284.heap.size ≤ w294.heap.size from b295.size)
  clear b295
  obtain ⟨x305, x306, x307, x308, x309, x310⟩ := (unhide BX298).six
  obtain ⟨x311, x312, x313, x314, x315, x316⟩ := (unhide BX299).six
  obtain ⟨x317, x318, x319, x320, x321, x322⟩ := (unhide BX300).six
  go_wp2_with fail
  clear x305 x306 x307 x308 x309 x310 x311 x312 x313 x314 x315 x316 x317 x318 x319 x320 x321 x322
  refine (heldSay_kit (sayV bs) _ w294 (1) M_0 (1) (by omega) (unhide HM_0) (by omega) (unhide HRS0) (unhide O302).rd).mono ?_
  rintro e w323 ⟨rfl, b324⟩
  have B325 := hide ((unhide B296).trans (b324.mono (unhide B296).size))
  clear B296
  have BU326 := hide ((unhide BU297).trans (b324.mono (unhide BU297).size))
  clear BU297
  have BX327 := hide ((unhide BX298).up b324)
  clear BX298
  have BX328 := hide ((unhide BX299).up b324)
  clear BX299
  have BX329 := hide ((unhide BX300).up b324)
  clear BX300
  have O330 := hide ((unhide O301).up b324)
  clear O301
  have O331 := hide ((unhide O302).up b324)
  clear O302
  have O332 := hide ((unhide O303).up b324)
  clear O303
  have Z333 := hide (show w294.heap.size ≤ w323.heap.size from b324.size)
  clear b324
  obtain ⟨x334, x335, x336, x337, x338, x339⟩ := (unhide BX327).six
  obtain ⟨x340, x341, x342, x343, x344, x345⟩ := (unhide BX328).six
  obtain ⟨x346, x347, x348, x349, x350, x351⟩ := (unhide BX329).six
  go_wp2_with fail
  go_ret
  exact ⟨rfl, unhide B325⟩

theorem own : ownKnob Try.prog.godebug = none := by kernel_rfl
theorem laidOut : laidOutB Try.prog = true := by kernel_rfl

set_option maxRecDepth 100000 in
theorem lifted (os : Os) (started : os.Started) (H : Type) (enc : TypeId × Value → H) :
    ReturnsInHanded {} Try.checked os 3 .any (Rows.fnExactSayReadSpec.pre6 enc Try.prog Try.f3 Rows.fnExactSayReadRow.domain false) (Rows.fnExactSayReadSpec.post enc Try.prog Try.f3 false true false false) := by
  refine returnsInHanded_of_change (C := Try.checked) own started (by kernel_rfl) Try.func3
    (ChangeSpec.witness6 (enc := enc) (C := Try.checked) false ⟨#[], #[.slice none 0 0], []⟩ 8 (by kernel_rfl) (by kernel_rfl) (by kernel_rfl) (by kernel_rfl)) ?_
  intro W base args ds gs before hval0 hW hcnd _
  have hval : ∀ (j : Nat) t v, Try.f3.params[j]? = some t → args[j]? = some v → Value.okWide Try.prog W .any base t v := hval0
  have hW' := hW
  obtain ⟨p, q, hA0, hV, rfl, hfz, hnd⟩ := hW
  have hA : DataW.TrodAll enc Try.prog W 0 (fun _ => true) true Try.f3.params.toList args.toList ds p := hA0
  rw [Try.params3] at hA hval
  obtain ⟨v0, d0, rfl, rfl, h0⟩ := trodAll_one hA
  obtain ⟨rfl, rfl⟩ := trodVars_none hV
  obtain ⟨a0, len0, cap0, rfl⟩ := okWide_slice Try.underlying22 (hval 0 22 v0 rfl rfl)
  obtain ⟨bs, rfl, hl, hlc, hn⟩ := open_byteS h0
  have k0 := h0
  have lt0 : ∀ x ∈ p, x.block < W.heap.size := by obtain ⟨m, hm⟩ := k0; exact DataW.trod_lt m _ _ _ hm
  clear hA0 hval0
  refine (walk bs _ W hl ⟨a0, cap0, rfl, hn, hlc⟩).mono fun e W' ⟨he, bel⟩ => ?_
  subst he
  exact ⟨_, rfl, _, _, _, [], _, [], hW', trodAll_mk1 (shut_bool Try.underlying4 _), trodAll_mk1 (Below.trod laidOut (by kernel_rfl) (of_decide_eq_true (by kernel_rfl)) k0 bel lt0), rfl, bel.frame _, fun h => by cases h⟩

theorem over : Rows.fnExactSayReadRow.holds Try.pinned (OpenSpec.ofChange Rows.fnExactSayReadSpec) :=
  OpenClaim.holds_of_wide 3 Try.f3 rfl rfl rfl rfl rfl rfl rfl ⟨rfl, rfl, rfl, rfl, rfl⟩ rfl rfl rfl rfl rfl (by kernel_rfl) Try.func3 (by kernel_rfl)
    (of_decide_eq_true (by kernel_rfl)) (by unfold Func.isWrapper; first | (rw [if_pos (by decide +kernel)]; kernel_rfl) | (rw [if_neg (by decide +kernel)]; exact ⟨rfl, rfl⟩))
    (fun os started H enc _ => lifted os started H enc)

end Go.Proofs.Ytkjeimdanelpoaa.fnExactSayRead

namespace Go.Proofs.Ytkjeimdanelpoaa
theorem fnExactSayRead_holds : Rows.FnExactSayReadSaid :=
  fnExactSayRead.over
end Go.Proofs.Ytkjeimdanelpoaa
