/-
  Proved: at every argument the law on LogOpen answers true, and the argument reads afterwards as before: the program opens a log as the specification does, and its answers own their memory. No condition.
-/
import Derived.Test.YthlcgghilmpboaaLogOpenS
import Derived.Test.YthlcgghilmpboaaLogOpenI
import Derived.Test.YthlcgghilmpboaaRecHeld
import Derived.Test.YthlcgghilmpboaaMerged6
import Derived.Test.YthlcgghilmpboaaByArg
import Derived.Test.YthlcgghilmpboaaBoxes
import Derived.Test.YthlcgghilmpboaaRows
import Derived.WalkKit
import Derived.ProofKit
import Derived.OpenShut
import Derived.Handy
namespace Go.Proofs.Ythlcgghilmpboaa.fnExactLogOpen
open Go.ChangeShapes Go.WideShapes Go.ChangeAt Go.RowKit Go.Deep Go.Maps
set_option linter.unusedVariables false

theorem spec_kit (d : DiskV) (v : Value) (w : World) (hs : SmallDisk d) (h : DiskRd w v d) :
    Calls Try.prog 5 #[v] w fun e w' => ∃ v vr, e = .returned (.tuple #[v, vr, .int .i64 (loI d)]) ∧ Hid (DiskRd w' v (loV d)) ∧ Hid (RecSRd w' vr (loR d)) ∧ Below w.heap.size w w' := specLogOpen_any d v w hs h
theorem impl_kit (d : DiskV) (v : Value) (w : World) (hs : SmallDisk d) (h : DiskRd w v d) :
    Calls Try.prog 7 #[v] w fun e w' => ∃ v S vr Q, e = .returned (.tuple #[v, vr, .int .i64 (loI d)]) ∧ Hid (DiskOwn S w' v (loV d)) ∧ Hid (∀ k ∈ S, w.heap.size ≤ k) ∧ Hid (RecSOwn Q w' vr (loR d)) ∧ Hid (∀ k ∈ Q, w.heap.size ≤ k) ∧ Hid (∀ k ∈ S, k ∉ Q) ∧ Below w.heap.size w w' := implLogOpen_any d v w hs h

set_option maxHeartbeats 12800000 in
theorem walk (d : DiskV) (v_d : Value) (w : World) (hf_d : DiskFit d) (hr_d : DiskRd w v_d d) :
    Calls Try.prog 3 #[v_d] w fun e w' => e = .returned (.bool true) ∧ Below w.heap.size w w' := by
  have HF_d := hide hf_d
  clear hf_d
  have HR_d := hide hr_d
  obtain ⟨p_d0, p_d1, p_d2, p_d3, p_d4, p_d5, p_d6, p_d7, rfl⟩ := hr_d.form
  clear hr_d
  go_enter Try.func3, Try.ntmps3
  obtain ⟨bx1, b2, zz3⟩ := boxNew4 w (.slice p_d0 p_d1 p_d2) (.slice p_d3 p_d4 p_d5) (.int .i64 p_d6) (.bool p_d7) 24
  go_wp2_with fail
  generalize w.alloc (.cells #[.slice p_d0 p_d1 p_d2, .slice p_d3 p_d4 p_d5, .int .i64 p_d6, .bool p_d7] 24) = W4 at *
  have B6 := hide b2
  have Z7 := hide (show w.heap.size < W4.heap.size from zz3)
  have BX5 := hide bx1
  clear bx1 b2 zz3
  refine (szDisk_kit d _ W4 (unhide HF_d) ((unhide HR_d).up (unhide B6))).mono ?_
  rintro e w8 ⟨q9, rfl, HQ10, b11⟩
  have B12 := hide ((unhide B6).trans (b11.mono (unhide B6).size))
  clear B6
  have BX13 := hide ((unhide BX5).up b11)
  clear BX5
  have Z14 := hide (show W4.heap.size ≤ w8.heap.size from b11.size)
  clear b11
  by_cases hnegq9 : q9 < 0
  · go_wp2_with fail
    go_ret
    exact ⟨rfl, unhide B12⟩
  have HS15 := hide (unhide HQ10 (by omega))
  obtain ⟨N_d, HN_d⟩ : ∃ N, Hid (nDisk d = N) := ⟨_, rfl⟩
  have NL_d : N_d ≤ 100000000 := by rw [← unhide HN_d]; exact nDisk_le (unhide HS15)
  have HRS0 := hide (show SmallDisk (loV d) from small_loV (unhide HS15))
  obtain ⟨M_0, HM_0⟩ : ∃ N, Hid (nDisk (loV d) = N) := ⟨_, rfl⟩
  have ML_0 : M_0 ≤ 100000000 := by rw [← unhide HM_0]; exact nDisk_le (unhide HRS0)
  have HRS1 := hide (show SmallRecS (loR d) from small_loR d)
  obtain ⟨M_1, HM_1⟩ : ∃ N, Hid (nRecS (loR d) = N) := ⟨_, rfl⟩
  have ML_1 : M_1 ≤ 100000000 := by rw [← unhide HM_1]; exact nRecS_le (unhide HRS1)
  obtain ⟨x16, x17, x18, x19⟩ := (unhide BX13).four
  go_wp2_with fail
  clear x16 x17 x18 x19
  refine (toDisk_kit d _ w8 (unhide HS15) ((unhide HR_d).up (unhide B12))).mono ?_
  rintro e w20 ⟨v21, S22, rfl, O23, L24, b25⟩
  have B26 := hide ((unhide B12).trans (b25.mono (unhide B12).size))
  clear B12
  have BX27 := hide ((unhide BX13).up b25)
  clear BX13
  have Z28 := hide (show w8.heap.size ≤ w20.heap.size from b25.size)
  clear b25
  have H29 := hide (unhide O23).lt
  obtain ⟨x30, x31, x32, x33⟩ := (unhide BX27).four
  go_wp2_with fail
  clear x30 x31 x32 x33
  refine (spec_kit d _ w20 (unhide HS15) (unhide O23).rd).mono ?_
  rintro e w34 ⟨v36, v38, rfl, U37, U39, b35⟩
  clear O23
  have B40 := hide ((unhide B26).trans (b35.mono (unhide B26).size))
  clear B26
  have BX41 := hide ((unhide BX27).up b35)
  clear BX27
  have Z42 := hide (show w20.heap.size ≤ w34.heap.size from b35.size)
  clear b35
  obtain ⟨q_w0_0, q_w0_1, q_w0_2, q_w0_3, q_w0_4, q_w0_5, q_w0_6, q_w0_7, rfl⟩ := (unhide U37).form
  obtain ⟨q_w1_0, q_w1_1, q_w1_2, rfl⟩ := (unhide U39).form
  have BU43 := hide (Below.refl w34.heap.size w34)
  obtain ⟨x44, x45, x46, x47⟩ := (unhide BX41).four
  have lt48 : w.heap.size < w34.heap.size := (unhide BX41).1
  obtain ⟨bx49, b50, zz51⟩ := boxNew4 w34 (.slice q_w0_0 q_w0_1 q_w0_2) (.slice q_w0_3 q_w0_4 q_w0_5) (.int .i64 q_w0_6) (.bool q_w0_7) 26
  go_wp2_with fail
  generalize w34.alloc (.cells #[.slice q_w0_0 q_w0_1 q_w0_2, .slice q_w0_3 q_w0_4 q_w0_5, .int .i64 q_w0_6, .bool q_w0_7] 26) = W52 at *
  have B54 := hide ((unhide B40).trans (b50.mono (unhide B40).size))
  clear B40
  have BU55 := hide ((unhide BU43).trans (b50.mono (unhide BU43).size))
  clear BU43
  have BX56 := hide ((unhide BX41).up b50)
  clear BX41
  have Z57 := hide (show w34.heap.size < W52.heap.size from zz51)
  have BX53 := hide bx49
  clear bx49 b50 zz51
  clear x44 x45 x46 x47 lt48
  refine (toDisk_kit d _ W52 (unhide HS15) ((unhide HR_d).up (unhide B54))).mono ?_
  rintro e w58 ⟨v59, S60, rfl, O61, L62, b63⟩
  have B64 := hide ((unhide B54).trans (b63.mono (unhide B54).size))
  clear B54
  have BU65 := hide ((unhide BU55).trans (b63.mono (unhide BU55).size))
  clear BU55
  have BX66 := hide ((unhide BX56).up b63)
  clear BX56
  have BX67 := hide ((unhide BX53).up b63)
  clear BX53
  have Z68 := hide (show W52.heap.size ≤ w58.heap.size from b63.size)
  clear b63
  have H69 := hide (unhide O61).lt
  obtain ⟨r_d0, r_d1, r_d2, r_d3, r_d4, r_d5, r_d6, r_d7, rfl⟩ := (unhide O61).rd.form
  obtain ⟨x70, x71, x72, x73⟩ := (unhide BX66).four
  obtain ⟨x74, x75, x76, x77⟩ := (unhide BX67).four
  have lt78 : w.heap.size < w58.heap.size := (unhide BX66).1
  have lt79 : w34.heap.size < w58.heap.size := (unhide BX67).1
  obtain ⟨bx80, b81, zz82⟩ := boxNew4 w58 (.slice r_d0 r_d1 r_d2) (.slice r_d3 r_d4 r_d5) (.int .i64 r_d6) (.bool r_d7) 26
  go_wp2_with fail
  generalize w58.alloc (.cells #[.slice r_d0 r_d1 r_d2, .slice r_d3 r_d4 r_d5, .int .i64 r_d6, .bool r_d7] 26) = W83 at *
  have B85 := hide ((unhide B64).trans (b81.mono (unhide B64).size))
  clear B64
  have BU86 := hide ((unhide BU65).trans (b81.mono (unhide BU65).size))
  clear BU65
  have BX87 := hide ((unhide BX66).up b81)
  clear BX66
  have BX88 := hide ((unhide BX67).up b81)
  clear BX67
  have O89 := hide ((unhide O61).up b81)
  clear O61
  have Z90 := hide (show w58.heap.size < W83.heap.size from zz82)
  have BX84 := hide bx80
  clear bx80 b81 zz82
  clear x70 x71 x72 x73 x74 x75 x76 x77 lt78 lt79
  refine (impl_kit d _ W83 (unhide HS15) (unhide O89).rd).mono ?_
  rintro e w91 ⟨v93, S94, v97, S98, rfl, O95, L96, O99, L100, AP101, b92⟩
  have B102 := hide ((unhide B85).trans (b92.mono (unhide B85).size))
  clear B85
  have BU103 := hide ((unhide BU86).trans (b92.mono (unhide BU86).size))
  clear BU86
  have BX104 := hide ((unhide BX87).up b92)
  clear BX87
  have BX105 := hide ((unhide BX88).up b92)
  clear BX88
  have BX106 := hide ((unhide BX84).up b92)
  clear BX84
  have O107 := hide ((unhide O89).up b92)
  clear O89
  have Z108 := hide (show W83.heap.size ≤ w91.heap.size from b92.size)
  clear b92
  obtain ⟨q_g0_0, q_g0_1, q_g0_2, q_g0_3, q_g0_4, q_g0_5, q_g0_6, q_g0_7, rfl⟩ := (unhide O95).rd.form
  have H109 := hide (unhide O95).lt
  obtain ⟨q_g1_0, q_g1_1, q_g1_2, rfl⟩ := (unhide O99).rd.form
  have H110 := hide (unhide O99).lt
  obtain ⟨x111, x112, x113, x114⟩ := (unhide BX104).four
  obtain ⟨x115, x116, x117, x118⟩ := (unhide BX105).four
  obtain ⟨x119, x120, x121, x122⟩ := (unhide BX106).four
  have lt123 : w.heap.size < w91.heap.size := (unhide BX104).1
  have lt124 : w34.heap.size < w91.heap.size := (unhide BX105).1
  have lt125 : w58.heap.size < w91.heap.size := (unhide BX106).1
  obtain ⟨bx126, b127, zz128⟩ := boxNew4 w91 (.slice q_g0_0 q_g0_1 q_g0_2) (.slice q_g0_3 q_g0_4 q_g0_5) (.int .i64 q_g0_6) (.bool q_g0_7) 26
  go_wp2_with fail
  generalize w91.alloc (.cells #[.slice q_g0_0 q_g0_1 q_g0_2, .slice q_g0_3 q_g0_4 q_g0_5, .int .i64 q_g0_6, .bool q_g0_7] 26) = W129 at *
  have B131 := hide ((unhide B102).trans (b127.mono (unhide B102).size))
  clear B102
  have BU132 := hide ((unhide BU103).trans (b127.mono (unhide BU103).size))
  clear BU103
  have BX133 := hide ((unhide BX104).up b127)
  clear BX104
  have BX134 := hide ((unhide BX105).up b127)
  clear BX105
  have BX135 := hide ((unhide BX106).up b127)
  clear BX106
  have O136 := hide ((unhide O107).up b127)
  clear O107
  have O137 := hide ((unhide O95).up b127)
  clear O95
  have O138 := hide ((unhide O99).up b127)
  clear O99
  have Z139 := hide (show w91.heap.size < W129.heap.size from zz128)
  have BX130 := hide bx126
  clear bx126 b127 zz128
  clear x111 x112 x113 x114 x115 x116 x117 x118 x119 x120 x121 x122 lt123 lt124 lt125
  refine (eqDisk_kit (loV d) _ _ W129 (unhide HRS0) (unhide O137).rd ((unhide U37).up (unhide BU132))).mono ?_
  rintro e w140 ⟨rfl, b141⟩
  have B142 := hide ((unhide B131).trans (b141.mono (unhide B131).size))
  clear B131
  have BU143 := hide ((unhide BU132).trans (b141.mono (unhide BU132).size))
  clear BU132
  have BX144 := hide ((unhide BX133).up b141)
  clear BX133
  have BX145 := hide ((unhide BX134).up b141)
  clear BX134
  have BX146 := hide ((unhide BX135).up b141)
  clear BX135
  have BX147 := hide ((unhide BX130).up b141)
  clear BX130
  have O148 := hide ((unhide O136).up b141)
  clear O136
  have O149 := hide ((unhide O137).up b141)
  clear O137
  have O150 := hide ((unhide O138).up b141)
  clear O138
  have Z151 := hide (show W129.heap.size ≤ w140.heap.size from b141.size)
  clear b141
  obtain ⟨x152, x153, x154, x155⟩ := (unhide BX144).four
  obtain ⟨x156, x157, x158, x159⟩ := (unhide BX145).four
  obtain ⟨x160, x161, x162, x163⟩ := (unhide BX146).four
  obtain ⟨x164, x165, x166, x167⟩ := (unhide BX147).four
  go_wp2_with fail
  clear x152 x153 x154 x155 x156 x157 x158 x159 x160 x161 x162 x163 x164 x165 x166 x167
  refine (eqRecS_kit (loR d) _ _ w140 (unhide HRS1) (unhide O150).rd ((unhide U39).up (unhide BU143))).mono ?_
  rintro e w168 ⟨rfl, b169⟩
  have B170 := hide ((unhide B142).trans (b169.mono (unhide B142).size))
  clear B142
  have BU171 := hide ((unhide BU143).trans (b169.mono (unhide BU143).size))
  clear BU143
  have BX172 := hide ((unhide BX144).up b169)
  clear BX144
  have BX173 := hide ((unhide BX145).up b169)
  clear BX145
  have BX174 := hide ((unhide BX146).up b169)
  clear BX146
  have BX175 := hide ((unhide BX147).up b169)
  clear BX147
  have O176 := hide ((unhide O148).up b169)
  clear O148
  have O177 := hide ((unhide O149).up b169)
  clear O149
  have O178 := hide ((unhide O150).up b169)
  clear O150
  have Z179 := hide (show w140.heap.size ≤ w168.heap.size from b169.size)
  clear b169
  obtain ⟨x180, x181, x182, x183⟩ := (unhide BX172).four
  obtain ⟨x184, x185, x186, x187⟩ := (unhide BX173).four
  obtain ⟨x188, x189, x190, x191⟩ := (unhide BX174).four
  obtain ⟨x192, x193, x194, x195⟩ := (unhide BX175).four
  go_wp2_with fail
  have KP196 := hide (show ∀ X : World, Below w168.heap.size w168 X → (fun (X : World) => (X.cell? ⟨w.heap.size, 0, none⟩ = some (.slice p_d0 p_d1 p_d2) ∧ X.cell? ⟨w.heap.size, 1, none⟩ = some (.slice p_d3 p_d4 p_d5) ∧ X.cell? ⟨w.heap.size, 2, none⟩ = some (.int .i64 p_d6) ∧ X.cell? ⟨w.heap.size, 3, none⟩ = some (.bool p_d7)) ∧ (X.cell? ⟨w58.heap.size, 0, none⟩ = some (.slice r_d0 r_d1 r_d2) ∧ X.cell? ⟨w58.heap.size, 1, none⟩ = some (.slice r_d3 r_d4 r_d5) ∧ X.cell? ⟨w58.heap.size, 2, none⟩ = some (.int .i64 r_d6) ∧ X.cell? ⟨w58.heap.size, 3, none⟩ = some (.bool r_d7)) ∧ Hid (Below w168.heap.size w168 X)) X from fun X b => ⟨((unhide BX172).up b).four, ((unhide BX174).up b).four, hide b⟩)
  have BD197 := hide ((Below.refl w168.heap.size w168).drew)
  go_region_held3 (fun (X : World) => (X.cell? ⟨w.heap.size, 0, none⟩ = some (.slice p_d0 p_d1 p_d2) ∧ X.cell? ⟨w.heap.size, 1, none⟩ = some (.slice p_d3 p_d4 p_d5) ∧ X.cell? ⟨w.heap.size, 2, none⟩ = some (.int .i64 p_d6) ∧ X.cell? ⟨w.heap.size, 3, none⟩ = some (.bool p_d7)) ∧ (X.cell? ⟨w58.heap.size, 0, none⟩ = some (.slice r_d0 r_d1 r_d2) ∧ X.cell? ⟨w58.heap.size, 1, none⟩ = some (.slice r_d3 r_d4 r_d5) ∧ X.cell? ⟨w58.heap.size, 2, none⟩ = some (.int .i64 r_d6) ∧ X.cell? ⟨w58.heap.size, 3, none⟩ = some (.bool r_d7)) ∧ Hid (Below w168.heap.size w168 X)) ((refine unhide KP196 _ ?_; exact unhide (by assumption)))
    (first
      | (go_at_call 8; have _t := BB204; refine (eqDisk_kit d _ _ _ (unhide HS15) ((unhide O176).up (unhide BB204)).rd (unhide O201).rd).mono ?_; rintro e w205 ⟨rfl, b206⟩; have BB207 := hide ((unhide BB204).trans (b206.mono (unhide BB204).size)); clear b206)
      | (go_at_call 6; refine (toDisk_kit d _ _ (unhide HS15) ((unhide HR_d).up ((unhide B170).trans ((unhide BD197).mono (unhide B170).size)))).mono ?_; rintro e w198 ⟨v199, S200, rfl, O201, L202, b203⟩; have BB204 := hide ((unhide BD197).trans (b203.mono (unhide BD197).size)); clear b203)
      | fail)
  clear x180 x181 x182 x183 x184 x185 x186 x187 x188 x189 x190 x191 x192 x193 x194 x195
  all_goals
    try clear _t
    have B208 := hide ((unhide B170).trans ((unhide BB207).mono (unhide B170).size))
    clear B170
    have BU209 := hide ((unhide BU171).trans ((unhide BB207).mono (unhide BU171).size))
    clear BU171
    have BX210 := hide ((unhide BX172).up (unhide BB207))
    clear BX172
    have BX211 := hide ((unhide BX173).up (unhide BB207))
    clear BX173
    have BX212 := hide ((unhide BX174).up (unhide BB207))
    clear BX174
    have BX213 := hide ((unhide BX175).up (unhide BB207))
    clear BX175
    have O214 := hide ((unhide O176).up (unhide BB207))
    clear O176
    have O215 := hide ((unhide O177).up (unhide BB207))
    clear O177
    have O216 := hide ((unhide O178).up (unhide BB207))
    clear O178
    have Z217 := hide (show w168.heap.size ≤ w205.heap.size from (unhide BB207).size)
    clear BB207 BB204 KP196 BD197 O201 L202
    obtain ⟨x218, x219, x220, x221⟩ := (unhide BX210).four
    obtain ⟨x222, x223, x224, x225⟩ := (unhide BX211).four
    obtain ⟨x226, x227, x228, x229⟩ := (unhide BX212).four
    obtain ⟨x230, x231, x232, x233⟩ := (unhide BX213).four
    go_wp2_with fail
    clear x218 x219 x220 x221 x222 x223 x224 x225 x226 x227 x228 x229 x230 x231 x232 x233
    refine (markDisk_kit S60 (d) _ w205 (1) N_d (1) (by omega) (unhide HN_d) (by omega) (unhide HS15) (unhide O214)).mono ?_
    rintro e w234 ⟨rfl, P235⟩
    have t236 := (unhide P235).2
    have B237 := hide ((unhide B208).trans (t236.below (unhide B208).size (fun k hk => by have z := unhide L62 k hk; have y := unhide H69 k hk; have z0 := unhide Z7; have z1 := unhide Z14; have z2 := unhide Z28; have z3 := unhide Z42; have z4 := unhide Z57; have z5 := unhide Z68; have z6 := unhide Z90; have z7 := unhide Z108; have z8 := unhide Z139; have z9 := unhide Z151; have z10 := unhide Z179; have z11 := unhide Z217; omega)))
    clear B208
    have BU238 := hide ((unhide BU209).trans (t236.below (unhide BU209).size (fun k hk => by have z := unhide L62 k hk; have y := unhide H69 k hk; have z0 := unhide Z7; have z1 := unhide Z14; have z2 := unhide Z28; have z3 := unhide Z42; have z4 := unhide Z57; have z5 := unhide Z68; have z6 := unhide Z90; have z7 := unhide Z108; have z8 := unhide Z139; have z9 := unhide Z151; have z10 := unhide Z179; have z11 := unhide Z217; omega)))
    clear BU209
    have BX239 := hide ((unhide BX210).turn t236 (fun hk => by have z := unhide L62 _ hk; have y := unhide H69 _ hk; have z0 := unhide Z7; have z1 := unhide Z14; have z2 := unhide Z28; have z3 := unhide Z42; have z4 := unhide Z57; have z5 := unhide Z68; have z6 := unhide Z90; have z7 := unhide Z108; have z8 := unhide Z139; have z9 := unhide Z151; have z10 := unhide Z179; have z11 := unhide Z217; omega))
    clear BX210
    have BX240 := hide ((unhide BX211).turn t236 (fun hk => by have z := unhide L62 _ hk; have y := unhide H69 _ hk; have z0 := unhide Z7; have z1 := unhide Z14; have z2 := unhide Z28; have z3 := unhide Z42; have z4 := unhide Z57; have z5 := unhide Z68; have z6 := unhide Z90; have z7 := unhide Z108; have z8 := unhide Z139; have z9 := unhide Z151; have z10 := unhide Z179; have z11 := unhide Z217; omega))
    clear BX211
    have BX241 := hide ((unhide BX212).turn t236 (fun hk => by have z := unhide L62 _ hk; have y := unhide H69 _ hk; have z0 := unhide Z7; have z1 := unhide Z14; have z2 := unhide Z28; have z3 := unhide Z42; have z4 := unhide Z57; have z5 := unhide Z68; have z6 := unhide Z90; have z7 := unhide Z108; have z8 := unhide Z139; have z9 := unhide Z151; have z10 := unhide Z179; have z11 := unhide Z217; omega))
    clear BX212
    have BX242 := hide ((unhide BX213).turn t236 (fun hk => by have z := unhide L62 _ hk; have y := unhide H69 _ hk; have z0 := unhide Z7; have z1 := unhide Z14; have z2 := unhide Z28; have z3 := unhide Z42; have z4 := unhide Z57; have z5 := unhide Z68; have z6 := unhide Z90; have z7 := unhide Z108; have z8 := unhide Z139; have z9 := unhide Z151; have z10 := unhide Z179; have z11 := unhide Z217; omega))
    clear BX213
    have O243 := hide ((unhide O215).turn t236 (fun k hk hm => by have z := unhide L62 k hm; have y := unhide H69 k hm; have u := unhide L96 k hk; have v := unhide H109 k hk; have z0 := unhide Z7; have z1 := unhide Z14; have z2 := unhide Z28; have z3 := unhide Z42; have z4 := unhide Z57; have z5 := unhide Z68; have z6 := unhide Z90; have z7 := unhide Z108; have z8 := unhide Z139; have z9 := unhide Z151; have z10 := unhide Z179; have z11 := unhide Z217; omega))
    clear O215
    have O244 := hide ((unhide O216).turn t236 (fun k hk hm => by have z := unhide L62 k hm; have y := unhide H69 k hm; have u := unhide L100 k hk; have v := unhide H110 k hk; have z0 := unhide Z7; have z1 := unhide Z14; have z2 := unhide Z28; have z3 := unhide Z42; have z4 := unhide Z57; have z5 := unhide Z68; have z6 := unhide Z90; have z7 := unhide Z108; have z8 := unhide Z139; have z9 := unhide Z151; have z10 := unhide Z179; have z11 := unhide Z217; omega))
    clear O216
    have Z245 := hide (show w205.heap.size ≤ w234.heap.size from t236.size)
    have O246 := hide (unhide P235).1
    clear P235 t236
    have nf246 : ¬ (1 + (N_d : Int)) < 0 := by omega
    obtain ⟨x247, x248, x249, x250⟩ := (unhide BX239).four
    obtain ⟨x251, x252, x253, x254⟩ := (unhide BX240).four
    obtain ⟨x255, x256, x257, x258⟩ := (unhide BX241).four
    obtain ⟨x259, x260, x261, x262⟩ := (unhide BX242).four
    go_wp2_with fail
    clear x247 x248 x249 x250 x251 x252 x253 x254 x255 x256 x257 x258 x259 x260 x261 x262
    refine (eqDisk_kit (loV d) _ _ w234 (unhide HRS0) (unhide O243).rd ((unhide U37).up (unhide BU238))).mono ?_
    rintro e w263 ⟨rfl, b264⟩
    have B265 := hide ((unhide B237).trans (b264.mono (unhide B237).size))
    clear B237
    have BU266 := hide ((unhide BU238).trans (b264.mono (unhide BU238).size))
    clear BU238
    have BX267 := hide ((unhide BX239).up b264)
    clear BX239
    have BX268 := hide ((unhide BX240).up b264)
    clear BX240
    have BX269 := hide ((unhide BX241).up b264)
    clear BX241
    have BX270 := hide ((unhide BX242).up b264)
    clear BX242
    have O271 := hide ((unhide O246).up b264)
    clear O246
    have O272 := hide ((unhide O243).up b264)
    clear O243
    have O273 := hide ((unhide O244).up b264)
    clear O244
    have Z274 := hide (show w234.heap.size ≤ w263.heap.size from b264.size)
    clear b264
    obtain ⟨x275, x276, x277, x278⟩ := (unhide BX267).four
    obtain ⟨x279, x280, x281, x282⟩ := (unhide BX268).four
    obtain ⟨x283, x284, x285, x286⟩ := (unhide BX269).four
    obtain ⟨x287, x288, x289, x290⟩ := (unhide BX270).four
    go_wp2_with fail
    clear x275 x276 x277 x278 x279 x280 x281 x282 x283 x284 x285 x286 x287 x288 x289 x290
    refine (eqRecS_kit (loR d) _ _ w263 (unhide HRS1) (unhide O273).rd ((unhide U39).up (unhide BU266))).mono ?_
    rintro e w291 ⟨rfl, b292⟩
    have B293 := hide ((unhide B265).trans (b292.mono (unhide B265).size))
    clear B265
    have BU294 := hide ((unhide BU266).trans (b292.mono (unhide BU266).size))
    clear BU266
    have BX295 := hide ((unhide BX267).up b292)
    clear BX267
    have BX296 := hide ((unhide BX268).up b292)
    clear BX268
    have BX297 := hide ((unhide BX269).up b292)
    clear BX269
    have BX298 := hide ((unhide BX270).up b292)
    clear BX270
    have O299 := hide ((unhide O271).up b292)
    clear O271
    have O300 := hide ((unhide O272).up b292)
    clear O272
    have O301 := hide ((unhide O273).up b292)
    clear O273
    have Z302 := hide (show w263.heap.size ≤ w291.heap.size from b292.size)
    clear b292
    obtain ⟨x303, x304, x305, x306⟩ := (unhide BX295).four
    obtain ⟨x307, x308, x309, x310⟩ := (unhide BX296).four
    obtain ⟨x311, x312, x313, x314⟩ := (unhide BX297).four
    obtain ⟨x315, x316, x317, x318⟩ := (unhide BX298).four
    go_wp2_with fail
    clear x303 x304 x305 x306 x307 x308 x309 x310 x311 x312 x313 x314 x315 x316 x317 x318
    refine (markDisk_kit S94 (loV d) _ w291 (1) M_0 (1) (by omega) (unhide HM_0) (by omega) (unhide HRS0) (unhide O300)).mono ?_
    rintro e w319 ⟨rfl, P320⟩
    have t321 := (unhide P320).2
    have B322 := hide ((unhide B293).trans (t321.below (unhide B293).size (fun k hk => by have z := unhide L96 k hk; have y := unhide H109 k hk; have z0 := unhide Z7; have z1 := unhide Z14; have z2 := unhide Z28; have z3 := unhide Z42; have z4 := unhide Z57; have z5 := unhide Z68; have z6 := unhide Z90; have z7 := unhide Z108; have z8 := unhide Z139; have z9 := unhide Z151; have z10 := unhide Z179; have z11 := unhide Z217; have z12 := unhide Z245; have z13 := unhide Z274; have z14 := unhide Z302; omega)))
    clear B293
    have BU323 := hide ((unhide BU294).trans (t321.below (unhide BU294).size (fun k hk => by have z := unhide L96 k hk; have y := unhide H109 k hk; have z0 := unhide Z7; have z1 := unhide Z14; have z2 := unhide Z28; have z3 := unhide Z42; have z4 := unhide Z57; have z5 := unhide Z68; have z6 := unhide Z90; have z7 := unhide Z108; have z8 := unhide Z139; have z9 := unhide Z151; have z10 := unhide Z179; have z11 := unhide Z217; have z12 := unhide Z245; have z13 := unhide Z274; have z14 := unhide Z302; omega)))
    clear BU294
    have BX324 := hide ((unhide BX295).turn t321 (fun hk => by have z := unhide L96 _ hk; have y := unhide H109 _ hk; have z0 := unhide Z7; have z1 := unhide Z14; have z2 := unhide Z28; have z3 := unhide Z42; have z4 := unhide Z57; have z5 := unhide Z68; have z6 := unhide Z90; have z7 := unhide Z108; have z8 := unhide Z139; have z9 := unhide Z151; have z10 := unhide Z179; have z11 := unhide Z217; have z12 := unhide Z245; have z13 := unhide Z274; have z14 := unhide Z302; omega))
    clear BX295
    have BX325 := hide ((unhide BX296).turn t321 (fun hk => by have z := unhide L96 _ hk; have y := unhide H109 _ hk; have z0 := unhide Z7; have z1 := unhide Z14; have z2 := unhide Z28; have z3 := unhide Z42; have z4 := unhide Z57; have z5 := unhide Z68; have z6 := unhide Z90; have z7 := unhide Z108; have z8 := unhide Z139; have z9 := unhide Z151; have z10 := unhide Z179; have z11 := unhide Z217; have z12 := unhide Z245; have z13 := unhide Z274; have z14 := unhide Z302; omega))
    clear BX296
    have BX326 := hide ((unhide BX297).turn t321 (fun hk => by have z := unhide L96 _ hk; have y := unhide H109 _ hk; have z0 := unhide Z7; have z1 := unhide Z14; have z2 := unhide Z28; have z3 := unhide Z42; have z4 := unhide Z57; have z5 := unhide Z68; have z6 := unhide Z90; have z7 := unhide Z108; have z8 := unhide Z139; have z9 := unhide Z151; have z10 := unhide Z179; have z11 := unhide Z217; have z12 := unhide Z245; have z13 := unhide Z274; have z14 := unhide Z302; omega))
    clear BX297
    have BX327 := hide ((unhide BX298).turn t321 (fun hk => by have z := unhide L96 _ hk; have y := unhide H109 _ hk; have z0 := unhide Z7; have z1 := unhide Z14; have z2 := unhide Z28; have z3 := unhide Z42; have z4 := unhide Z57; have z5 := unhide Z68; have z6 := unhide Z90; have z7 := unhide Z108; have z8 := unhide Z139; have z9 := unhide Z151; have z10 := unhide Z179; have z11 := unhide Z217; have z12 := unhide Z245; have z13 := unhide Z274; have z14 := unhide Z302; omega))
    clear BX298
    have O328 := hide ((unhide O299).turn t321 (fun k hk hm => by have z := unhide L96 k hm; have y := unhide H109 k hm; have u := unhide L62 k hk; have v := unhide H69 k hk; have z0 := unhide Z7; have z1 := unhide Z14; have z2 := unhide Z28; have z3 := unhide Z42; have z4 := unhide Z57; have z5 := unhide Z68; have z6 := unhide Z90; have z7 := unhide Z108; have z8 := unhide Z139; have z9 := unhide Z151; have z10 := unhide Z179; have z11 := unhide Z217; have z12 := unhide Z245; have z13 := unhide Z274; have z14 := unhide Z302; omega))
    clear O299
    have O329 := hide ((unhide O301).turn t321 (fun k hk hm => unhide AP101 k hm hk))
    clear O301
    have Z330 := hide (show w291.heap.size ≤ w319.heap.size from t321.size)
    have O331 := hide (unhide P320).1
    clear P320 t321
    have nf331 : ¬ (1 + (M_0 : Int)) < 0 := by omega
    obtain ⟨x332, x333, x334, x335⟩ := (unhide BX324).four
    obtain ⟨x336, x337, x338, x339⟩ := (unhide BX325).four
    obtain ⟨x340, x341, x342, x343⟩ := (unhide BX326).four
    obtain ⟨x344, x345, x346, x347⟩ := (unhide BX327).four
    go_wp2_with fail
    clear x332 x333 x334 x335 x336 x337 x338 x339 x340 x341 x342 x343 x344 x345 x346 x347
    refine (markRecS_kit S98 (loR d) _ w319 (1 + M_0) M_1 (1 + (M_0 : Int)) (by omega) (unhide HM_1) (by omega) (unhide HRS1) (unhide O329)).mono ?_
    rintro e w348 ⟨rfl, P349⟩
    have t350 := (unhide P349).2
    have B351 := hide ((unhide B322).trans (t350.below (unhide B322).size (fun k hk => by have z := unhide L100 k hk; have y := unhide H110 k hk; have z0 := unhide Z7; have z1 := unhide Z14; have z2 := unhide Z28; have z3 := unhide Z42; have z4 := unhide Z57; have z5 := unhide Z68; have z6 := unhide Z90; have z7 := unhide Z108; have z8 := unhide Z139; have z9 := unhide Z151; have z10 := unhide Z179; have z11 := unhide Z217; have z12 := unhide Z245; have z13 := unhide Z274; have z14 := unhide Z302; have z15 := unhide Z330; omega)))
    clear B322
    have BU352 := hide ((unhide BU323).trans (t350.below (unhide BU323).size (fun k hk => by have z := unhide L100 k hk; have y := unhide H110 k hk; have z0 := unhide Z7; have z1 := unhide Z14; have z2 := unhide Z28; have z3 := unhide Z42; have z4 := unhide Z57; have z5 := unhide Z68; have z6 := unhide Z90; have z7 := unhide Z108; have z8 := unhide Z139; have z9 := unhide Z151; have z10 := unhide Z179; have z11 := unhide Z217; have z12 := unhide Z245; have z13 := unhide Z274; have z14 := unhide Z302; have z15 := unhide Z330; omega)))
    clear BU323
    have BX353 := hide ((unhide BX324).turn t350 (fun hk => by have z := unhide L100 _ hk; have y := unhide H110 _ hk; have z0 := unhide Z7; have z1 := unhide Z14; have z2 := unhide Z28; have z3 := unhide Z42; have z4 := unhide Z57; have z5 := unhide Z68; have z6 := unhide Z90; have z7 := unhide Z108; have z8 := unhide Z139; have z9 := unhide Z151; have z10 := unhide Z179; have z11 := unhide Z217; have z12 := unhide Z245; have z13 := unhide Z274; have z14 := unhide Z302; have z15 := unhide Z330; omega))
    clear BX324
    have BX354 := hide ((unhide BX325).turn t350 (fun hk => by have z := unhide L100 _ hk; have y := unhide H110 _ hk; have z0 := unhide Z7; have z1 := unhide Z14; have z2 := unhide Z28; have z3 := unhide Z42; have z4 := unhide Z57; have z5 := unhide Z68; have z6 := unhide Z90; have z7 := unhide Z108; have z8 := unhide Z139; have z9 := unhide Z151; have z10 := unhide Z179; have z11 := unhide Z217; have z12 := unhide Z245; have z13 := unhide Z274; have z14 := unhide Z302; have z15 := unhide Z330; omega))
    clear BX325
    have BX355 := hide ((unhide BX326).turn t350 (fun hk => by have z := unhide L100 _ hk; have y := unhide H110 _ hk; have z0 := unhide Z7; have z1 := unhide Z14; have z2 := unhide Z28; have z3 := unhide Z42; have z4 := unhide Z57; have z5 := unhide Z68; have z6 := unhide Z90; have z7 := unhide Z108; have z8 := unhide Z139; have z9 := unhide Z151; have z10 := unhide Z179; have z11 := unhide Z217; have z12 := unhide Z245; have z13 := unhide Z274; have z14 := unhide Z302; have z15 := unhide Z330; omega))
    clear BX326
    have BX356 := hide ((unhide BX327).turn t350 (fun hk => by have z := unhide L100 _ hk; have y := unhide H110 _ hk; have z0 := unhide Z7; have z1 := unhide Z14; have z2 := unhide Z28; have z3 := unhide Z42; have z4 := unhide Z57; have z5 := unhide Z68; have z6 := unhide Z90; have z7 := unhide Z108; have z8 := unhide Z139; have z9 := unhide Z151; have z10 := unhide Z179; have z11 := unhide Z217; have z12 := unhide Z245; have z13 := unhide Z274; have z14 := unhide Z302; have z15 := unhide Z330; omega))
    clear BX327
    have O357 := hide ((unhide O328).turn t350 (fun k hk hm => by have z := unhide L100 k hm; have y := unhide H110 k hm; have u := unhide L62 k hk; have v := unhide H69 k hk; have z0 := unhide Z7; have z1 := unhide Z14; have z2 := unhide Z28; have z3 := unhide Z42; have z4 := unhide Z57; have z5 := unhide Z68; have z6 := unhide Z90; have z7 := unhide Z108; have z8 := unhide Z139; have z9 := unhide Z151; have z10 := unhide Z179; have z11 := unhide Z217; have z12 := unhide Z245; have z13 := unhide Z274; have z14 := unhide Z302; have z15 := unhide Z330; omega))
    clear O328
    have O358 := hide ((unhide O331).turn t350 (fun k hk hm => unhide AP101 k hk hm))
    clear O331
    have Z359 := hide (show w319.heap.size ≤ w348.heap.size from t350.size)
    have O360 := hide (unhide P349).1
    clear P349 t350
    have nf360 : ¬ (1 + (M_0 : Int) + (M_1 : Int)) < 0 := by omega
    obtain ⟨x361, x362, x363, x364⟩ := (unhide BX353).four
    obtain ⟨x365, x366, x367, x368⟩ := (unhide BX354).four
    obtain ⟨x369, x370, x371, x372⟩ := (unhide BX355).four
    obtain ⟨x373, x374, x375, x376⟩ := (unhide BX356).four
    go_wp2_with fail
    clear x361 x362 x363 x364 x365 x366 x367 x368 x369 x370 x371 x372 x373 x374 x375 x376
    refine (heldDisk_kit (loV d) _ w348 (1) M_0 (1) (by omega) (unhide HM_0) (by omega) (unhide HRS0) (unhide O358).rd).mono ?_
    rintro e w377 ⟨rfl, b378⟩
    have B379 := hide ((unhide B351).trans (b378.mono (unhide B351).size))
    clear B351
    have BU380 := hide ((unhide BU352).trans (b378.mono (unhide BU352).size))
    clear BU352
    have BX381 := hide ((unhide BX353).up b378)
    clear BX353
    have BX382 := hide ((unhide BX354).up b378)
    clear BX354
    have BX383 := hide ((unhide BX355).up b378)
    clear BX355
    have BX384 := hide ((unhide BX356).up b378)
    clear BX356
    have O385 := hide ((unhide O357).up b378)
    clear O357
    have O386 := hide ((unhide O358).up b378)
    clear O358
    have O387 := hide ((unhide O360).up b378)
    clear O360
    have Z388 := hide (show w348.heap.size ≤ w377.heap.size from b378.size)
    clear b378
    obtain ⟨x389, x390, x391, x392⟩ := (unhide BX381).four
    obtain ⟨x393, x394, x395, x396⟩ := (unhide BX382).four
    obtain ⟨x397, x398, x399, x400⟩ := (unhide BX383).four
    obtain ⟨x401, x402, x403, x404⟩ := (unhide BX384).four
    go_wp2_with fail
    clear x389 x390 x391 x392 x393 x394 x395 x396 x397 x398 x399 x400 x401 x402 x403 x404
    refine (heldRecS_kit (loR d) _ w377 (1 + M_0) M_1 (1 + (M_0 : Int)) (by omega) (unhide HM_1) (by omega) (unhide HRS1) (unhide O387).rd).mono ?_
    rintro e w405 ⟨rfl, b406⟩
    have B407 := hide ((unhide B379).trans (b406.mono (unhide B379).size))
    clear B379
    have BU408 := hide ((unhide BU380).trans (b406.mono (unhide BU380).size))
    clear BU380
    have BX409 := hide ((unhide BX381).up b406)
    clear BX381
    have BX410 := hide ((unhide BX382).up b406)
    clear BX382
    have BX411 := hide ((unhide BX383).up b406)
    clear BX383
    have BX412 := hide ((unhide BX384).up b406)
    clear BX384
    have O413 := hide ((unhide O385).up b406)
    clear O385
    have O414 := hide ((unhide O386).up b406)
    clear O386
    have O415 := hide ((unhide O387).up b406)
    clear O387
    have Z416 := hide (show w377.heap.size ≤ w405.heap.size from b406.size)
    clear b406
    obtain ⟨x417, x418, x419, x420⟩ := (unhide BX409).four
    obtain ⟨x421, x422, x423, x424⟩ := (unhide BX410).four
    obtain ⟨x425, x426, x427, x428⟩ := (unhide BX411).four
    obtain ⟨x429, x430, x431, x432⟩ := (unhide BX412).four
    go_wp2_with fail
    clear x417 x418 x419 x420 x421 x422 x423 x424 x425 x426 x427 x428 x429 x430 x431 x432
    refine (toDisk_kit d _ w405 (unhide HS15) ((unhide HR_d).up (unhide B407))).mono ?_
    rintro e w433 ⟨v434, S435, rfl, O436, L437, b438⟩
    have B439 := hide ((unhide B407).trans (b438.mono (unhide B407).size))
    clear B407
    have BU440 := hide ((unhide BU408).trans (b438.mono (unhide BU408).size))
    clear BU408
    have BX441 := hide ((unhide BX409).up b438)
    clear BX409
    have BX442 := hide ((unhide BX410).up b438)
    clear BX410
    have BX443 := hide ((unhide BX411).up b438)
    clear BX411
    have BX444 := hide ((unhide BX412).up b438)
    clear BX412
    have O445 := hide ((unhide O413).up b438)
    clear O413
    have O446 := hide ((unhide O414).up b438)
    clear O414
    have O447 := hide ((unhide O415).up b438)
    clear O415
    have Z448 := hide (show w405.heap.size ≤ w433.heap.size from b438.size)
    clear b438
    have H449 := hide (unhide O436).lt
    obtain ⟨x450, x451, x452, x453⟩ := (unhide BX441).four
    obtain ⟨x454, x455, x456, x457⟩ := (unhide BX442).four
    obtain ⟨x458, x459, x460, x461⟩ := (unhide BX443).four
    obtain ⟨x462, x463, x464, x465⟩ := (unhide BX444).four
    go_wp2_with fail
    clear x450 x451 x452 x453 x454 x455 x456 x457 x458 x459 x460 x461 x462 x463 x464 x465
    refine (impl_kit d _ w433 (unhide HS15) (unhide O436).rd).mono ?_
    rintro e w466 ⟨v468, S469, v472, S473, rfl, O470, L471, O474, L475, AP476, b467⟩
    clear O436
    have B477 := hide ((unhide B439).trans (b467.mono (unhide B439).size))
    clear B439
    have BU478 := hide ((unhide BU440).trans (b467.mono (unhide BU440).size))
    clear BU440
    have BX479 := hide ((unhide BX441).up b467)
    clear BX441
    have BX480 := hide ((unhide BX442).up b467)
    clear BX442
    have BX481 := hide ((unhide BX443).up b467)
    clear BX443
    have BX482 := hide ((unhide BX444).up b467)
    clear BX444
    have O483 := hide ((unhide O445).up b467)
    clear O445
    have O484 := hide ((unhide O446).up b467)
    clear O446
    have O485 := hide ((unhide O447).up b467)
    clear O447
    have Z486 := hide (show w433.heap.size ≤ w466.heap.size from b467.size)
    clear b467
    obtain ⟨q_h0_0, q_h0_1, q_h0_2, q_h0_3, q_h0_4, q_h0_5, q_h0_6, q_h0_7, rfl⟩ := (unhide O470).rd.form
    have H487 := hide (unhide O470).lt
    obtain ⟨q_h1_0, q_h1_1, q_h1_2, rfl⟩ := (unhide O474).rd.form
    have H488 := hide (unhide O474).lt
    obtain ⟨x489, x490, x491, x492⟩ := (unhide BX479).four
    obtain ⟨x493, x494, x495, x496⟩ := (unhide BX480).four
    obtain ⟨x497, x498, x499, x500⟩ := (unhide BX481).four
    obtain ⟨x501, x502, x503, x504⟩ := (unhide BX482).four
    have lt505 : w.heap.size < w466.heap.size := (unhide BX479).1
    have lt506 : w34.heap.size < w466.heap.size := (unhide BX480).1
    have lt507 : w58.heap.size < w466.heap.size := (unhide BX481).1
    have lt508 : w91.heap.size < w466.heap.size := (unhide BX482).1
    obtain ⟨bx509, b510, zz511⟩ := boxNew4 w466 (.slice q_h0_0 q_h0_1 q_h0_2) (.slice q_h0_3 q_h0_4 q_h0_5) (.int .i64 q_h0_6) (.bool q_h0_7) 26
    go_wp2_with fail
    generalize w466.alloc (.cells #[.slice q_h0_0 q_h0_1 q_h0_2, .slice q_h0_3 q_h0_4 q_h0_5, .int .i64 q_h0_6, .bool q_h0_7] 26) = W512 at *
    have B514 := hide ((unhide B477).trans (b510.mono (unhide B477).size))
    clear B477
    have BU515 := hide ((unhide BU478).trans (b510.mono (unhide BU478).size))
    clear BU478
    have BX516 := hide ((unhide BX479).up b510)
    clear BX479
    have BX517 := hide ((unhide BX480).up b510)
    clear BX480
    have BX518 := hide ((unhide BX481).up b510)
    clear BX481
    have BX519 := hide ((unhide BX482).up b510)
    clear BX482
    have O520 := hide ((unhide O483).up b510)
    clear O483
    have O521 := hide ((unhide O484).up b510)
    clear O484
    have O522 := hide ((unhide O485).up b510)
    clear O485
    have O523 := hide ((unhide O470).up b510)
    clear O470
    have O524 := hide ((unhide O474).up b510)
    clear O474
    have Z525 := hide (show w466.heap.size < W512.heap.size from zz511)
    have BX513 := hide bx509
    clear bx509 b510 zz511
    clear x489 x490 x491 x492 x493 x494 x495 x496 x497 x498 x499 x500 x501 x502 x503 x504 lt505 lt506 lt507 lt508
    refine (eqDisk_kit (loV d) _ _ W512 (unhide HRS0) (unhide O523).rd ((unhide U37).up (unhide BU515))).mono ?_
    rintro e w526 ⟨rfl, b527⟩
    have B528 := hide ((unhide B514).trans (b527.mono (unhide B514).size))
    clear B514
    have BU529 := hide ((unhide BU515).trans (b527.mono (unhide BU515).size))
    clear BU515
    have BX530 := hide ((unhide BX516).up b527)
    clear BX516
    have BX531 := hide ((unhide BX517).up b527)
    clear BX517
    have BX532 := hide ((unhide BX518).up b527)
    clear BX518
    have BX533 := hide ((unhide BX519).up b527)
    clear BX519
    have BX534 := hide ((unhide BX513).up b527)
    clear BX513
    have O535 := hide ((unhide O520).up b527)
    clear O520
    have O536 := hide ((unhide O521).up b527)
    clear O521
    have O537 := hide ((unhide O522).up b527)
    clear O522
    have O538 := hide ((unhide O523).up b527)
    clear O523
    have O539 := hide ((unhide O524).up b527)
    clear O524
    have Z540 := hide (show W512.heap.size ≤ w526.heap.size from b527.size)
    clear b527
    obtain ⟨x541, x542, x543, x544⟩ := (unhide BX530).four
    obtain ⟨x545, x546, x547, x548⟩ := (unhide BX531).four
    obtain ⟨x549, x550, x551, x552⟩ := (unhide BX532).four
    obtain ⟨x553, x554, x555, x556⟩ := (unhide BX533).four
    obtain ⟨x557, x558, x559, x560⟩ := (unhide BX534).four
    go_wp2_with fail
    clear x541 x542 x543 x544 x545 x546 x547 x548 x549 x550 x551 x552 x553 x554 x555 x556 x557 x558 x559 x560
    refine (eqRecS_kit (loR d) _ _ w526 (unhide HRS1) (unhide O539).rd ((unhide U39).up (unhide BU529))).mono ?_
    rintro e w561 ⟨rfl, b562⟩
    have B563 := hide ((unhide B528).trans (b562.mono (unhide B528).size))
    clear B528
    have BU564 := hide ((unhide BU529).trans (b562.mono (unhide BU529).size))
    clear BU529
    have BX565 := hide ((unhide BX530).up b562)
    clear BX530
    have BX566 := hide ((unhide BX531).up b562)
    clear BX531
    have BX567 := hide ((unhide BX532).up b562)
    clear BX532
    have BX568 := hide ((unhide BX533).up b562)
    clear BX533
    have BX569 := hide ((unhide BX534).up b562)
    clear BX534
    have O570 := hide ((unhide O535).up b562)
    clear O535
    have O571 := hide ((unhide O536).up b562)
    clear O536
    have O572 := hide ((unhide O537).up b562)
    clear O537
    have O573 := hide ((unhide O538).up b562)
    clear O538
    have O574 := hide ((unhide O539).up b562)
    clear O539
    have Z575 := hide (show w526.heap.size ≤ w561.heap.size from b562.size)
    clear b562
    obtain ⟨x576, x577, x578, x579⟩ := (unhide BX565).four
    obtain ⟨x580, x581, x582, x583⟩ := (unhide BX566).four
    obtain ⟨x584, x585, x586, x587⟩ := (unhide BX567).four
    obtain ⟨x588, x589, x590, x591⟩ := (unhide BX568).four
    obtain ⟨x592, x593, x594, x595⟩ := (unhide BX569).four
    go_wp2_with fail
    clear x576 x577 x578 x579 x580 x581 x582 x583 x584 x585 x586 x587 x588 x589 x590 x591 x592 x593 x594 x595
    refine (heldDisk_kit (loV d) _ w561 (1) M_0 (1) (by omega) (unhide HM_0) (by omega) (unhide HRS0) (unhide O571).rd).mono ?_
    rintro e w596 ⟨rfl, b597⟩
    have B598 := hide ((unhide B563).trans (b597.mono (unhide B563).size))
    clear B563
    have BU599 := hide ((unhide BU564).trans (b597.mono (unhide BU564).size))
    clear BU564
    have BX600 := hide ((unhide BX565).up b597)
    clear BX565
    have BX601 := hide ((unhide BX566).up b597)
    clear BX566
    have BX602 := hide ((unhide BX567).up b597)
    clear BX567
    have BX603 := hide ((unhide BX568).up b597)
    clear BX568
    have BX604 := hide ((unhide BX569).up b597)
    clear BX569
    have O605 := hide ((unhide O570).up b597)
    clear O570
    have O606 := hide ((unhide O571).up b597)
    clear O571
    have O607 := hide ((unhide O572).up b597)
    clear O572
    have O608 := hide ((unhide O573).up b597)
    clear O573
    have O609 := hide ((unhide O574).up b597)
    clear O574
    have Z610 := hide (show w561.heap.size ≤ w596.heap.size from b597.size)
    clear b597
    obtain ⟨x611, x612, x613, x614⟩ := (unhide BX600).four
    obtain ⟨x615, x616, x617, x618⟩ := (unhide BX601).four
    obtain ⟨x619, x620, x621, x622⟩ := (unhide BX602).four
    obtain ⟨x623, x624, x625, x626⟩ := (unhide BX603).four
    obtain ⟨x627, x628, x629, x630⟩ := (unhide BX604).four
    go_wp2_with fail
    clear x611 x612 x613 x614 x615 x616 x617 x618 x619 x620 x621 x622 x623 x624 x625 x626 x627 x628 x629 x630
    refine (heldRecS_kit (loR d) _ w596 (1 + M_0) M_1 (1 + (M_0 : Int)) (by omega) (unhide HM_1) (by omega) (unhide HRS1) (unhide O607).rd).mono ?_
    rintro e w631 ⟨rfl, b632⟩
    have B633 := hide ((unhide B598).trans (b632.mono (unhide B598).size))
    clear B598
    have BU634 := hide ((unhide BU599).trans (b632.mono (unhide BU599).size))
    clear BU599
    have BX635 := hide ((unhide BX600).up b632)
    clear BX600
    have BX636 := hide ((unhide BX601).up b632)
    clear BX601
    have BX637 := hide ((unhide BX602).up b632)
    clear BX602
    have BX638 := hide ((unhide BX603).up b632)
    clear BX603
    have BX639 := hide ((unhide BX604).up b632)
    clear BX604
    have O640 := hide ((unhide O605).up b632)
    clear O605
    have O641 := hide ((unhide O606).up b632)
    clear O606
    have O642 := hide ((unhide O607).up b632)
    clear O607
    have O643 := hide ((unhide O608).up b632)
    clear O608
    have O644 := hide ((unhide O609).up b632)
    clear O609
    have Z645 := hide (show w596.heap.size ≤ w631.heap.size from b632.size)
    clear b632
    obtain ⟨x646, x647, x648, x649⟩ := (unhide BX635).four
    obtain ⟨x650, x651, x652, x653⟩ := (unhide BX636).four
    obtain ⟨x654, x655, x656, x657⟩ := (unhide BX637).four
    obtain ⟨x658, x659, x660, x661⟩ := (unhide BX638).four
    obtain ⟨x662, x663, x664, x665⟩ := (unhide BX639).four
    go_wp2_with fail
    go_ret
    exact ⟨rfl, unhide B633⟩

theorem own : ownKnob Try.prog.godebug = none := by kernel_rfl
theorem laidOut : laidOutB Try.prog = true := by kernel_rfl

set_option maxRecDepth 100000 in
theorem lifted (os : Os) (started : os.Started) (H : Type) (enc : TypeId × Value → H) :
    ReturnsInHanded {} Try.checked os 3 .any (Rows.fnExactLogOpenSpec.pre6 enc Try.prog Try.f3 Rows.fnExactLogOpenRow.domain false) (Rows.fnExactLogOpenSpec.post enc Try.prog Try.f3 false true false false) := by
  refine returnsInHanded_of_change (C := Try.checked) own started (by kernel_rfl) Try.func3
    (ChangeSpec.witness6 (enc := enc) (C := Try.checked) false ⟨#[], #[.agg #[.slice none 0 0, .slice none 0 0, .int .i64 0, .bool false]], []⟩ 8 (by kernel_rfl) (by kernel_rfl) (by kernel_rfl) (by kernel_rfl)) ?_
  intro W base args ds gs before hval0 hW hcnd _
  have hval : ∀ (j : Nat) t v, Try.f3.params[j]? = some t → args[j]? = some v → Value.okWide Try.prog W .any base t v := hval0
  have hW' := hW
  obtain ⟨p, q, hA0, hV, rfl, hfz, hnd⟩ := hW
  have hA : DataW.TrodAll enc Try.prog W 0 (fun _ => true) true Try.f3.params.toList args.toList ds p := hA0
  rw [Try.params3] at hA hval
  obtain ⟨v0, d0, rfl, rfl, h0⟩ := trodAll_one hA
  obtain ⟨rfl, rfl⟩ := trodVars_none hV
  obtain ⟨cs, rfl, hcs⟩ := aggOf Try.underlying24 cellsDisk (hval 0 24 v0 rfl rfl)
  obtain ⟨c0, c1, c2, c3, rfl⟩ := array4 hcs
  obtain ⟨d, hr, hf⟩ := openDisk h0
  have k0 := h0
  have lt0 : ∀ x ∈ p, x.block < W.heap.size := by obtain ⟨m, hm⟩ := k0; exact DataW.trod_lt m _ _ _ hm
  clear hA0 hval0
  refine (walk d _ W hf hr).mono fun e W' ⟨he, bel⟩ => ?_
  subst he
  exact ⟨_, rfl, _, _, _, [], _, [], hW', trodAll_mk1 (shut_bool Try.underlying4 _), trodAll_mk1 (Below.trod laidOut (by kernel_rfl) (of_decide_eq_true (by kernel_rfl)) k0 bel lt0), rfl, bel.frame _, fun h => by cases h⟩

theorem over : Rows.fnExactLogOpenRow.holds Try.pinned (OpenSpec.ofChange Rows.fnExactLogOpenSpec) :=
  OpenClaim.holds_of_wide 3 Try.f3 rfl rfl rfl rfl rfl rfl rfl ⟨rfl, rfl, rfl, rfl, rfl⟩ rfl rfl rfl rfl rfl (by kernel_rfl) Try.func3 (by kernel_rfl)
    (of_decide_eq_true (by kernel_rfl)) (by unfold Func.isWrapper; first | (rw [if_pos (by decide +kernel)]; kernel_rfl) | (rw [if_neg (by decide +kernel)]; exact ⟨rfl, rfl⟩))
    (fun os started H enc _ => lifted os started H enc)

end Go.Proofs.Ythlcgghilmpboaa.fnExactLogOpen

namespace Go.Proofs.Ythlcgghilmpboaa
theorem fnExactLogOpen_holds : Rows.FnExactLogOpenSaid :=
  fnExactLogOpen.over
end Go.Proofs.Ythlcgghilmpboaa
