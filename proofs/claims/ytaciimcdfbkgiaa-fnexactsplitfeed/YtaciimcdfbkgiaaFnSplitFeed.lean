/-
  Proved: at every argument the law on SplitFeed answers true, and the arguments read afterwards as before: the program lets bytes come to who listens as the specification does, and its answers own their memory. No condition.
-/
import Derived.Test.YtaciimcdfbkgiaaSplitFeedS
import Derived.Test.YtaciimcdfbkgiaaSplitFeedI
import Derived.Test.YtaciimcdfbkgiaaBsKit
import Derived.Test.YtaciimcdfbkgiaaByKit
import Derived.Test.YtaciimcdfbkgiaaByArg
import Derived.Test.YtaciimcdfbkgiaaRows
import Derived.WalkKit
import Derived.ProofKit
import Derived.OpenShut
import Derived.Handy
namespace Go.Proofs.Ytaciimcdfbkgiaa.fnExactSplitFeed
open Go.ChangeShapes Go.WideShapes Go.ChangeAt Go.RowKit Go.Deep Go.Maps
set_option linter.unusedVariables false

theorem spec_kit (d : SplitV) (v : Value) (bs : List UInt8) (vb : Value) (w : World) (hs : SmallSplit d) (hb : SmallByteS bs) (h : SplitRd w v d) (h2 : ByRd w vb bs) :
    Calls Try.prog 5 #[v, vb] w fun e w' => ∃ v vr, e = .returned (.tuple #[v, vr, .bool (feedB d bs)]) ∧ Hid (SplitRd w' v (feedS d bs)) ∧ Hid (ByteSSRd w' vr (feedH d bs)) ∧ Below w.heap.size w w' := specFeed_any d v bs vb w hs hb h h2
theorem impl_kit (d : SplitV) (v : Value) (bs : List UInt8) (vb : Value) (w : World) (hs : SmallSplit d) (hb : SmallByteS bs) (h : SplitRd w v d) (h2 : ByRd w vb bs) :
    Calls Try.prog 8 #[v, vb] w fun e w' => ∃ v S vr Q, e = .returned (.tuple #[v, vr, .bool (feedB d bs)]) ∧ Hid (SplitOwn S w' v (feedS d bs)) ∧ Hid (∀ k ∈ S, w.heap.size ≤ k) ∧ Hid (ByteSSOwn Q w' vr (feedH d bs)) ∧ Hid (∀ k ∈ Q, w.heap.size ≤ k) ∧ Hid (∀ k ∈ S, k ∉ Q) ∧ Below w.heap.size w w' := implFeed_any d v bs vb w hs hb h h2

set_option maxRecDepth 20000 in
set_option maxHeartbeats 25600000 in
theorem walk (d : SplitV) (v_d : Value) (bs : List UInt8) (v_bs : Value) (w : World) (hf_d : SplitFit d) (hr_d : SplitRd w v_d d) (hf_bs : ByFit bs) (hr_bs : ByRd w v_bs bs) :
    Calls Try.prog 3 #[v_d, v_bs] w fun e w' => e = .returned (.bool true) ∧ Below w.heap.size w w' := by
  have HF_d := hide hf_d
  clear hf_d
  have HR_d := hide hr_d
  obtain ⟨p_d0, p_d1, p_d2, p_d3, rfl⟩ := hr_d.form
  clear hr_d
  have HF_bs := hide hf_bs
  clear hf_bs
  have HR_bs := hide hr_bs
  obtain ⟨p_bs0, p_bs1, p_bs2, rfl⟩ := hr_bs.form
  clear hr_bs
  go_enter Try.func3, Try.ntmps3
  obtain ⟨bx1, b2, zz3⟩ := boxNew2 w (.slice p_d0 p_d1 p_d2) (.int .i64 p_d3) 24
  by_cases hl_bs : (p_bs1 : Int) ≤ 1048576
  rotate_left
  · go_wp2_with fail
    go_ret
    exact ⟨rfl, by go_grown⟩
  have HS4 := hide (small_of_len (unhide HR_bs) hl_bs)
  go_wp2_with fail
  generalize w.alloc (.cells #[.slice p_d0 p_d1 p_d2, .int .i64 p_d3] 24) = W5 at *
  have B7 := hide b2
  have Z8 := hide (show w.heap.size < W5.heap.size from zz3)
  have BX6 := hide bx1
  clear bx1 b2 zz3
  refine (szSplit_kit d _ W5 (unhide HF_d) ((unhide HR_d).up (unhide B7))).mono ?_
  rintro e w9 ⟨q10, rfl, HQ11, b12⟩
  have B13 := hide ((unhide B7).trans (b12.mono (unhide B7).size))
  clear B7
  have BX14 := hide ((unhide BX6).up b12)
  clear BX6
  have Z15 := hide (show W5.heap.size ≤ w9.heap.size from b12.size)
  clear b12
  by_cases hnegq10 : q10 < 0
  · go_wp2_with fail
    go_ret
    exact ⟨rfl, unhide B13⟩
  have HS16 := hide (unhide HQ11 (by omega))
  obtain ⟨N_d, HN_d⟩ : ∃ N, Hid (nSplit d = N) := ⟨_, rfl⟩
  have NL_d : N_d ≤ 100000000 := by rw [← unhide HN_d]; exact nSplit_le (unhide HS16)
  obtain ⟨N_bs, HN_bs⟩ : ∃ N, Hid (nByteS bs = N) := ⟨_, rfl⟩
  have NL_bs : N_bs ≤ 100000000 := by rw [← unhide HN_bs]; exact nByteS_le (unhide HS4)
  have HRS0 := hide (show SmallSplit (feedS d bs) from small_feedS d bs)
  obtain ⟨M_0, HM_0⟩ : ∃ N, Hid (nSplit (feedS d bs) = N) := ⟨_, rfl⟩
  have ML_0 : M_0 ≤ 100000000 := by rw [← unhide HM_0]; exact nSplit_le (unhide HRS0)
  have HRS1 := hide (show SmallByteSS (feedH d bs) from small_feedH d bs)
  obtain ⟨M_1, HM_1⟩ : ∃ N, Hid (nByteSS (feedH d bs) = N) := ⟨_, rfl⟩
  have ML_1 : M_1 ≤ 100000000 := by rw [← unhide HM_1]; exact nByteSS_le (unhide HRS1)
  obtain ⟨x17, x18⟩ := (unhide BX14).two
  go_wp2_with fail
  clear x17 x18
  refine (toSplit_kit d _ w9 (unhide HS16) ((unhide HR_d).up (unhide B13))).mono ?_
  rintro e w19 ⟨v20, S21, rfl, O22, L23, b24⟩
  have B25 := hide ((unhide B13).trans (b24.mono (unhide B13).size))
  clear B13
  have BX26 := hide ((unhide BX14).up b24)
  clear BX14
  have Z27 := hide (show w9.heap.size ≤ w19.heap.size from b24.size)
  clear b24
  have H28 := hide (unhide O22).lt
  obtain ⟨x29, x30⟩ := (unhide BX26).two
  go_wp2_with fail
  clear x29 x30
  refine (toByteS_kit bs _ w19 (unhide HS4) ((unhide HR_bs).up (unhide B25))).mono ?_
  rintro e w31 ⟨v32, S33, rfl, O34, L35, b36⟩
  have B37 := hide ((unhide B25).trans (b36.mono (unhide B25).size))
  clear B25
  have BX38 := hide ((unhide BX26).up b36)
  clear BX26
  have O39 := hide ((unhide O22).up b36)
  clear O22
  have Z40 := hide (show w19.heap.size ≤ w31.heap.size from b36.size)
  clear b36
  have H41 := hide (unhide O34).lt
  obtain ⟨x42, x43⟩ := (unhide BX38).two
  go_wp2_with fail
  clear x42 x43
  refine (spec_kit d _ bs _ w31 (unhide HS16) (unhide HS4) (unhide O39).rd (unhide O34).rd).mono ?_
  rintro e w44 ⟨v46, v48, rfl, U47, U49, b45⟩
  clear O39
  clear O34
  have B50 := hide ((unhide B37).trans (b45.mono (unhide B37).size))
  clear B37
  have BX51 := hide ((unhide BX38).up b45)
  clear BX38
  have Z52 := hide (show w31.heap.size ≤ w44.heap.size from b45.size)
  clear b45
  obtain ⟨q_w0_0, q_w0_1, q_w0_2, q_w0_3, rfl⟩ := (unhide U47).form
  obtain ⟨q_w1_0, q_w1_1, q_w1_2, rfl⟩ := (unhide U49).form
  have BU53 := hide (Below.refl w44.heap.size w44)
  obtain ⟨x54, x55⟩ := (unhide BX51).two
  have lt56 : w.heap.size < w44.heap.size := (unhide BX51).1
  obtain ⟨bx57, b58, zz59⟩ := boxNew2 w44 (.slice q_w0_0 q_w0_1 q_w0_2) (.int .i64 q_w0_3) 26
  go_wp2_with fail
  generalize w44.alloc (.cells #[.slice q_w0_0 q_w0_1 q_w0_2, .int .i64 q_w0_3] 26) = W60 at *
  have B62 := hide ((unhide B50).trans (b58.mono (unhide B50).size))
  clear B50
  have BU63 := hide ((unhide BU53).trans (b58.mono (unhide BU53).size))
  clear BU53
  have BX64 := hide ((unhide BX51).up b58)
  clear BX51
  have Z65 := hide (show w44.heap.size < W60.heap.size from zz59)
  have BX61 := hide bx57
  clear bx57 b58 zz59
  clear x54 x55 lt56
  refine (toSplit_kit d _ W60 (unhide HS16) ((unhide HR_d).up (unhide B62))).mono ?_
  rintro e w66 ⟨v67, S68, rfl, O69, L70, b71⟩
  have B72 := hide ((unhide B62).trans (b71.mono (unhide B62).size))
  clear B62
  have BU73 := hide ((unhide BU63).trans (b71.mono (unhide BU63).size))
  clear BU63
  have BX74 := hide ((unhide BX64).up b71)
  clear BX64
  have BX75 := hide ((unhide BX61).up b71)
  clear BX61
  have Z76 := hide (show W60.heap.size ≤ w66.heap.size from b71.size)
  clear b71
  have H77 := hide (unhide O69).lt
  obtain ⟨r_d0, r_d1, r_d2, r_d3, rfl⟩ := (unhide O69).rd.form
  obtain ⟨x78, x79⟩ := (unhide BX74).two
  obtain ⟨x80, x81⟩ := (unhide BX75).two
  have lt82 : w.heap.size < w66.heap.size := (unhide BX74).1
  have lt83 : w44.heap.size < w66.heap.size := (unhide BX75).1
  obtain ⟨bx84, b85, zz86⟩ := boxNew2 w66 (.slice r_d0 r_d1 r_d2) (.int .i64 r_d3) 26
  go_wp2_with fail
  generalize w66.alloc (.cells #[.slice r_d0 r_d1 r_d2, .int .i64 r_d3] 26) = W87 at *
  have B89 := hide ((unhide B72).trans (b85.mono (unhide B72).size))
  clear B72
  have BU90 := hide ((unhide BU73).trans (b85.mono (unhide BU73).size))
  clear BU73
  have BX91 := hide ((unhide BX74).up b85)
  clear BX74
  have BX92 := hide ((unhide BX75).up b85)
  clear BX75
  have O93 := hide ((unhide O69).up b85)
  clear O69
  have Z94 := hide (show w66.heap.size < W87.heap.size from zz86)
  have BX88 := hide bx84
  clear bx84 b85 zz86
  clear x78 x79 x80 x81 lt82 lt83
  refine (toByteS_kit bs _ W87 (unhide HS4) ((unhide HR_bs).up (unhide B89))).mono ?_
  rintro e w95 ⟨v96, S97, rfl, O98, L99, b100⟩
  have B101 := hide ((unhide B89).trans (b100.mono (unhide B89).size))
  clear B89
  have BU102 := hide ((unhide BU90).trans (b100.mono (unhide BU90).size))
  clear BU90
  have BX103 := hide ((unhide BX91).up b100)
  clear BX91
  have BX104 := hide ((unhide BX92).up b100)
  clear BX92
  have BX105 := hide ((unhide BX88).up b100)
  clear BX88
  have O106 := hide ((unhide O93).up b100)
  clear O93
  have Z107 := hide (show W87.heap.size ≤ w95.heap.size from b100.size)
  clear b100
  have H108 := hide (unhide O98).lt
  obtain ⟨r_bs0, r_bs1, r_bs2, rfl⟩ := (unhide O98).rd.form
  obtain ⟨x109, x110⟩ := (unhide BX103).two
  obtain ⟨x111, x112⟩ := (unhide BX104).two
  obtain ⟨x113, x114⟩ := (unhide BX105).two
  go_wp2_with fail
  clear x109 x110 x111 x112 x113 x114
  refine (impl_kit d _ bs _ w95 (unhide HS16) (unhide HS4) (unhide O106).rd (unhide O98).rd).mono ?_
  rintro e w115 ⟨v117, S118, v121, S122, rfl, O119, L120, O123, L124, AP125, b116⟩
  have B126 := hide ((unhide B101).trans (b116.mono (unhide B101).size))
  clear B101
  have BU127 := hide ((unhide BU102).trans (b116.mono (unhide BU102).size))
  clear BU102
  have BX128 := hide ((unhide BX103).up b116)
  clear BX103
  have BX129 := hide ((unhide BX104).up b116)
  clear BX104
  have BX130 := hide ((unhide BX105).up b116)
  clear BX105
  have O131 := hide ((unhide O106).up b116)
  clear O106
  have O132 := hide ((unhide O98).up b116)
  clear O98
  have Z133 := hide (show w95.heap.size ≤ w115.heap.size from b116.size)
  clear b116
  obtain ⟨q_g0_0, q_g0_1, q_g0_2, q_g0_3, rfl⟩ := (unhide O119).rd.form
  have H134 := hide (unhide O119).lt
  obtain ⟨q_g1_0, q_g1_1, q_g1_2, rfl⟩ := (unhide O123).rd.form
  have H135 := hide (unhide O123).lt
  obtain ⟨x136, x137⟩ := (unhide BX128).two
  obtain ⟨x138, x139⟩ := (unhide BX129).two
  obtain ⟨x140, x141⟩ := (unhide BX130).two
  have lt142 : w.heap.size < w115.heap.size := (unhide BX128).1
  have lt143 : w44.heap.size < w115.heap.size := (unhide BX129).1
  have lt144 : w66.heap.size < w115.heap.size := (unhide BX130).1
  obtain ⟨bx145, b146, zz147⟩ := boxNew2 w115 (.slice q_g0_0 q_g0_1 q_g0_2) (.int .i64 q_g0_3) 26
  go_wp2_with fail
  generalize w115.alloc (.cells #[.slice q_g0_0 q_g0_1 q_g0_2, .int .i64 q_g0_3] 26) = W148 at *
  have B150 := hide ((unhide B126).trans (b146.mono (unhide B126).size))
  clear B126
  have BU151 := hide ((unhide BU127).trans (b146.mono (unhide BU127).size))
  clear BU127
  have BX152 := hide ((unhide BX128).up b146)
  clear BX128
  have BX153 := hide ((unhide BX129).up b146)
  clear BX129
  have BX154 := hide ((unhide BX130).up b146)
  clear BX130
  have O155 := hide ((unhide O131).up b146)
  clear O131
  have O156 := hide ((unhide O132).up b146)
  clear O132
  have O157 := hide ((unhide O119).up b146)
  clear O119
  have O158 := hide ((unhide O123).up b146)
  clear O123
  have Z159 := hide (show w115.heap.size < W148.heap.size from zz147)
  have BX149 := hide bx145
  clear bx145 b146 zz147
  clear x136 x137 x138 x139 x140 x141 lt142 lt143 lt144
  refine (eqSplit_kit (feedS d bs) _ _ W148 (unhide HRS0) (unhide O157).rd ((unhide U47).up (unhide BU151))).mono ?_
  rintro e w160 ⟨rfl, b161⟩
  have B162 := hide ((unhide B150).trans (b161.mono (unhide B150).size))
  clear B150
  have BU163 := hide ((unhide BU151).trans (b161.mono (unhide BU151).size))
  clear BU151
  have BX164 := hide ((unhide BX152).up b161)
  clear BX152
  have BX165 := hide ((unhide BX153).up b161)
  clear BX153
  have BX166 := hide ((unhide BX154).up b161)
  clear BX154
  have BX167 := hide ((unhide BX149).up b161)
  clear BX149
  have O168 := hide ((unhide O155).up b161)
  clear O155
  have O169 := hide ((unhide O156).up b161)
  clear O156
  have O170 := hide ((unhide O157).up b161)
  clear O157
  have O171 := hide ((unhide O158).up b161)
  clear O158
  have Z172 := hide (show W148.heap.size ≤ w160.heap.size from b161.size)
  clear b161
  obtain ⟨x173, x174⟩ := (unhide BX164).two
  obtain ⟨x175, x176⟩ := (unhide BX165).two
  obtain ⟨x177, x178⟩ := (unhide BX166).two
  obtain ⟨x179, x180⟩ := (unhide BX167).two
  go_wp2_with fail
  clear x173 x174 x175 x176 x177 x178 x179 x180
  refine (eqByteSS_kit (feedH d bs) _ _ w160 (unhide HRS1) (unhide O171).rd ((unhide U49).up (unhide BU163))).mono ?_
  rintro e w181 ⟨rfl, b182⟩
  have B183 := hide ((unhide B162).trans (b182.mono (unhide B162).size))
  clear B162
  have BU184 := hide ((unhide BU163).trans (b182.mono (unhide BU163).size))
  clear BU163
  have BX185 := hide ((unhide BX164).up b182)
  clear BX164
  have BX186 := hide ((unhide BX165).up b182)
  clear BX165
  have BX187 := hide ((unhide BX166).up b182)
  clear BX166
  have BX188 := hide ((unhide BX167).up b182)
  clear BX167
  have O189 := hide ((unhide O168).up b182)
  clear O168
  have O190 := hide ((unhide O169).up b182)
  clear O169
  have O191 := hide ((unhide O170).up b182)
  clear O170
  have O192 := hide ((unhide O171).up b182)
  clear O171
  have Z193 := hide (show w160.heap.size ≤ w181.heap.size from b182.size)
  clear b182
  obtain ⟨x194, x195⟩ := (unhide BX185).two
  obtain ⟨x196, x197⟩ := (unhide BX186).two
  obtain ⟨x198, x199⟩ := (unhide BX187).two
  obtain ⟨x200, x201⟩ := (unhide BX188).two
  go_wp2_with fail
  have KP202 := hide (show ∀ X : World, Below w181.heap.size w181 X → (fun (X : World) => (X.cell? ⟨w.heap.size, 0, none⟩ = some (.slice p_d0 p_d1 p_d2) ∧ X.cell? ⟨w.heap.size, 1, none⟩ = some (.int .i64 p_d3)) ∧ (X.cell? ⟨w66.heap.size, 0, none⟩ = some (.slice r_d0 r_d1 r_d2) ∧ X.cell? ⟨w66.heap.size, 1, none⟩ = some (.int .i64 r_d3)) ∧ Hid (Below w181.heap.size w181 X)) X from fun X b => ⟨((unhide BX185).up b).two, ((unhide BX187).up b).two, hide b⟩)
  have BD203 := hide ((Below.refl w181.heap.size w181).drew)
  go_region_held3 (fun (X : World) => (X.cell? ⟨w.heap.size, 0, none⟩ = some (.slice p_d0 p_d1 p_d2) ∧ X.cell? ⟨w.heap.size, 1, none⟩ = some (.int .i64 p_d3)) ∧ (X.cell? ⟨w66.heap.size, 0, none⟩ = some (.slice r_d0 r_d1 r_d2) ∧ X.cell? ⟨w66.heap.size, 1, none⟩ = some (.int .i64 r_d3)) ∧ Hid (Below w181.heap.size w181 X)) ((refine unhide KP202 _ ?_; exact unhide (by assumption)))
    (first
      | (go_at_call 9; have _t := BB210; refine (eqSplit_kit d _ _ _ (unhide HS16) ((unhide O189).up (unhide BB210)).rd (unhide O207).rd).mono ?_; rintro e w211 ⟨rfl, b212⟩; have BB213 := hide ((unhide BB210).trans (b212.mono (unhide BB210).size)); clear b212)
      | (go_at_call 6; refine (toSplit_kit d _ _ (unhide HS16) ((unhide HR_d).up ((unhide B183).trans ((unhide BD203).mono (unhide B183).size)))).mono ?_; rintro e w204 ⟨v205, S206, rfl, O207, L208, b209⟩; have BB210 := hide ((unhide BD203).trans (b209.mono (unhide BD203).size)); clear b209)
      | fail)
  clear x194 x195 x196 x197 x198 x199 x200 x201
  all_goals
    try clear _t
    have B214 := hide ((unhide B183).trans ((unhide BB213).mono (unhide B183).size))
    clear B183
    have BU215 := hide ((unhide BU184).trans ((unhide BB213).mono (unhide BU184).size))
    clear BU184
    have BX216 := hide ((unhide BX185).up (unhide BB213))
    clear BX185
    have BX217 := hide ((unhide BX186).up (unhide BB213))
    clear BX186
    have BX218 := hide ((unhide BX187).up (unhide BB213))
    clear BX187
    have BX219 := hide ((unhide BX188).up (unhide BB213))
    clear BX188
    have O220 := hide ((unhide O189).up (unhide BB213))
    clear O189
    have O221 := hide ((unhide O190).up (unhide BB213))
    clear O190
    have O222 := hide ((unhide O191).up (unhide BB213))
    clear O191
    have O223 := hide ((unhide O192).up (unhide BB213))
    clear O192
    have Z224 := hide (show w181.heap.size ≤ w211.heap.size from (unhide BB213).size)
    clear BB213 BB210 KP202 BD203 O207 L208
    obtain ⟨x225, x226⟩ := (unhide BX216).two
    obtain ⟨x227, x228⟩ := (unhide BX217).two
    obtain ⟨x229, x230⟩ := (unhide BX218).two
    obtain ⟨x231, x232⟩ := (unhide BX219).two
    go_wp2_with fail
    clear x225 x226 x227 x228 x229 x230 x231 x232
    refine (toByteS_kit bs _ w211 (unhide HS4) ((unhide HR_bs).up (unhide B214))).mono ?_
    rintro e w233 ⟨v234, S235, rfl, O236, L237, b238⟩
    have B239 := hide ((unhide B214).trans (b238.mono (unhide B214).size))
    clear B214
    have BU240 := hide ((unhide BU215).trans (b238.mono (unhide BU215).size))
    clear BU215
    have BX241 := hide ((unhide BX216).up b238)
    clear BX216
    have BX242 := hide ((unhide BX217).up b238)
    clear BX217
    have BX243 := hide ((unhide BX218).up b238)
    clear BX218
    have BX244 := hide ((unhide BX219).up b238)
    clear BX219
    have O245 := hide ((unhide O220).up b238)
    clear O220
    have O246 := hide ((unhide O221).up b238)
    clear O221
    have O247 := hide ((unhide O222).up b238)
    clear O222
    have O248 := hide ((unhide O223).up b238)
    clear O223
    have Z249 := hide (show w211.heap.size ≤ w233.heap.size from b238.size)
    clear b238
    have H250 := hide (unhide O236).lt
    obtain ⟨x251, x252⟩ := (unhide BX241).two
    obtain ⟨x253, x254⟩ := (unhide BX242).two
    obtain ⟨x255, x256⟩ := (unhide BX243).two
    obtain ⟨x257, x258⟩ := (unhide BX244).two
    go_wp2_with fail
    clear x251 x252 x253 x254 x255 x256 x257 x258
    refine (eqByteS_kit bs _ _ w233 (unhide HS4) (unhide O246).rd (unhide O236).rd).mono ?_
    rintro e w259 ⟨rfl, b260⟩
    have B261 := hide ((unhide B239).trans (b260.mono (unhide B239).size))
    clear B239
    have BU262 := hide ((unhide BU240).trans (b260.mono (unhide BU240).size))
    clear BU240
    have BX263 := hide ((unhide BX241).up b260)
    clear BX241
    have BX264 := hide ((unhide BX242).up b260)
    clear BX242
    have BX265 := hide ((unhide BX243).up b260)
    clear BX243
    have BX266 := hide ((unhide BX244).up b260)
    clear BX244
    have O267 := hide ((unhide O245).up b260)
    clear O245
    have O268 := hide ((unhide O246).up b260)
    clear O246
    have O269 := hide ((unhide O247).up b260)
    clear O247
    have O270 := hide ((unhide O248).up b260)
    clear O248
    have Z271 := hide (show w233.heap.size ≤ w259.heap.size from b260.size)
    clear b260
    obtain ⟨x272, x273⟩ := (unhide BX263).two
    obtain ⟨x274, x275⟩ := (unhide BX264).two
    obtain ⟨x276, x277⟩ := (unhide BX265).two
    obtain ⟨x278, x279⟩ := (unhide BX266).two
    go_wp2_with fail
    clear x272 x273 x274 x275 x276 x277 x278 x279
    refine (markSplit_kit S68 (d) _ w259 (1) N_d (1) (by omega) (unhide HN_d) (by omega) (unhide HS16) (unhide O267)).mono ?_
    rintro e w280 ⟨rfl, P281⟩
    have t282 := (unhide P281).2
    have B283 := hide ((unhide B261).trans (t282.below (unhide B261).size (fun k hk => by have z := unhide L70 k hk; have y := unhide H77 k hk; have z0 := unhide Z8; have z1 := unhide Z15; have z2 := unhide Z27; have z3 := unhide Z40; have z4 := unhide Z52; have z5 := unhide Z65; have z6 := unhide Z76; have z7 := unhide Z94; have z8 := unhide Z107; have z9 := unhide Z133; have z10 := unhide Z159; have z11 := unhide Z172; have z12 := unhide Z193; have z13 := unhide Z224; have z14 := unhide Z249; have z15 := unhide Z271; omega)))
    clear B261
    have BU284 := hide ((unhide BU262).trans (t282.below (unhide BU262).size (fun k hk => by have z := unhide L70 k hk; have y := unhide H77 k hk; have z0 := unhide Z8; have z1 := unhide Z15; have z2 := unhide Z27; have z3 := unhide Z40; have z4 := unhide Z52; have z5 := unhide Z65; have z6 := unhide Z76; have z7 := unhide Z94; have z8 := unhide Z107; have z9 := unhide Z133; have z10 := unhide Z159; have z11 := unhide Z172; have z12 := unhide Z193; have z13 := unhide Z224; have z14 := unhide Z249; have z15 := unhide Z271; omega)))
    clear BU262
    have BX285 := hide ((unhide BX263).turn t282 (fun hk => by have z := unhide L70 _ hk; have y := unhide H77 _ hk; have z0 := unhide Z8; have z1 := unhide Z15; have z2 := unhide Z27; have z3 := unhide Z40; have z4 := unhide Z52; have z5 := unhide Z65; have z6 := unhide Z76; have z7 := unhide Z94; have z8 := unhide Z107; have z9 := unhide Z133; have z10 := unhide Z159; have z11 := unhide Z172; have z12 := unhide Z193; have z13 := unhide Z224; have z14 := unhide Z249; have z15 := unhide Z271; omega))
    clear BX263
    have BX286 := hide ((unhide BX264).turn t282 (fun hk => by have z := unhide L70 _ hk; have y := unhide H77 _ hk; have z0 := unhide Z8; have z1 := unhide Z15; have z2 := unhide Z27; have z3 := unhide Z40; have z4 := unhide Z52; have z5 := unhide Z65; have z6 := unhide Z76; have z7 := unhide Z94; have z8 := unhide Z107; have z9 := unhide Z133; have z10 := unhide Z159; have z11 := unhide Z172; have z12 := unhide Z193; have z13 := unhide Z224; have z14 := unhide Z249; have z15 := unhide Z271; omega))
    clear BX264
    have BX287 := hide ((unhide BX265).turn t282 (fun hk => by have z := unhide L70 _ hk; have y := unhide H77 _ hk; have z0 := unhide Z8; have z1 := unhide Z15; have z2 := unhide Z27; have z3 := unhide Z40; have z4 := unhide Z52; have z5 := unhide Z65; have z6 := unhide Z76; have z7 := unhide Z94; have z8 := unhide Z107; have z9 := unhide Z133; have z10 := unhide Z159; have z11 := unhide Z172; have z12 := unhide Z193; have z13 := unhide Z224; have z14 := unhide Z249; have z15 := unhide Z271; omega))
    clear BX265
    have BX288 := hide ((unhide BX266).turn t282 (fun hk => by have z := unhide L70 _ hk; have y := unhide H77 _ hk; have z0 := unhide Z8; have z1 := unhide Z15; have z2 := unhide Z27; have z3 := unhide Z40; have z4 := unhide Z52; have z5 := unhide Z65; have z6 := unhide Z76; have z7 := unhide Z94; have z8 := unhide Z107; have z9 := unhide Z133; have z10 := unhide Z159; have z11 := unhide Z172; have z12 := unhide Z193; have z13 := unhide Z224; have z14 := unhide Z249; have z15 := unhide Z271; omega))
    clear BX266
    have O289 := hide ((unhide O268).turn t282 (fun k hk hm => by have z := unhide L70 k hm; have y := unhide H77 k hm; have u := unhide L99 k hk; have v := unhide H108 k hk; have z0 := unhide Z8; have z1 := unhide Z15; have z2 := unhide Z27; have z3 := unhide Z40; have z4 := unhide Z52; have z5 := unhide Z65; have z6 := unhide Z76; have z7 := unhide Z94; have z8 := unhide Z107; have z9 := unhide Z133; have z10 := unhide Z159; have z11 := unhide Z172; have z12 := unhide Z193; have z13 := unhide Z224; have z14 := unhide Z249; have z15 := unhide Z271; omega))
    clear O268
    have O290 := hide ((unhide O269).turn t282 (fun k hk hm => by have z := unhide L70 k hm; have y := unhide H77 k hm; have u := unhide L120 k hk; have v := unhide H134 k hk; have z0 := unhide Z8; have z1 := unhide Z15; have z2 := unhide Z27; have z3 := unhide Z40; have z4 := unhide Z52; have z5 := unhide Z65; have z6 := unhide Z76; have z7 := unhide Z94; have z8 := unhide Z107; have z9 := unhide Z133; have z10 := unhide Z159; have z11 := unhide Z172; have z12 := unhide Z193; have z13 := unhide Z224; have z14 := unhide Z249; have z15 := unhide Z271; omega))
    clear O269
    have O291 := hide ((unhide O270).turn t282 (fun k hk hm => by have z := unhide L70 k hm; have y := unhide H77 k hm; have u := unhide L124 k hk; have v := unhide H135 k hk; have z0 := unhide Z8; have z1 := unhide Z15; have z2 := unhide Z27; have z3 := unhide Z40; have z4 := unhide Z52; have z5 := unhide Z65; have z6 := unhide Z76; have z7 := unhide Z94; have z8 := unhide Z107; have z9 := unhide Z133; have z10 := unhide Z159; have z11 := unhide Z172; have z12 := unhide Z193; have z13 := unhide Z224; have z14 := unhide Z249; have z15 := unhide Z271; omega))
    clear O270
    have Z292 := hide (show w259.heap.size ≤ w280.heap.size from t282.size)
    have O293 := hide (unhide P281).1
    clear P281 t282
    have nf293 : ¬ (1 + (N_d : Int)) < 0 := by omega
    obtain ⟨x294, x295⟩ := (unhide BX285).two
    obtain ⟨x296, x297⟩ := (unhide BX286).two
    obtain ⟨x298, x299⟩ := (unhide BX287).two
    obtain ⟨x300, x301⟩ := (unhide BX288).two
    go_wp2_with fail
    clear x294 x295 x296 x297 x298 x299 x300 x301
    refine (markByteS_kit S97 (bs) _ w280 (1 + N_d) N_bs (1 + (N_d : Int)) (by omega) (unhide HN_bs) (by omega) (unhide HS4) (unhide O289)).mono ?_
    rintro e w302 ⟨rfl, P303⟩
    have t304 := (unhide P303).2
    have B305 := hide ((unhide B283).trans (t304.below (unhide B283).size (fun k hk => by have z := unhide L99 k hk; have y := unhide H108 k hk; have z0 := unhide Z8; have z1 := unhide Z15; have z2 := unhide Z27; have z3 := unhide Z40; have z4 := unhide Z52; have z5 := unhide Z65; have z6 := unhide Z76; have z7 := unhide Z94; have z8 := unhide Z107; have z9 := unhide Z133; have z10 := unhide Z159; have z11 := unhide Z172; have z12 := unhide Z193; have z13 := unhide Z224; have z14 := unhide Z249; have z15 := unhide Z271; have z16 := unhide Z292; omega)))
    clear B283
    have BU306 := hide ((unhide BU284).trans (t304.below (unhide BU284).size (fun k hk => by have z := unhide L99 k hk; have y := unhide H108 k hk; have z0 := unhide Z8; have z1 := unhide Z15; have z2 := unhide Z27; have z3 := unhide Z40; have z4 := unhide Z52; have z5 := unhide Z65; have z6 := unhide Z76; have z7 := unhide Z94; have z8 := unhide Z107; have z9 := unhide Z133; have z10 := unhide Z159; have z11 := unhide Z172; have z12 := unhide Z193; have z13 := unhide Z224; have z14 := unhide Z249; have z15 := unhide Z271; have z16 := unhide Z292; omega)))
    clear BU284
    have BX307 := hide ((unhide BX285).turn t304 (fun hk => by have z := unhide L99 _ hk; have y := unhide H108 _ hk; have z0 := unhide Z8; have z1 := unhide Z15; have z2 := unhide Z27; have z3 := unhide Z40; have z4 := unhide Z52; have z5 := unhide Z65; have z6 := unhide Z76; have z7 := unhide Z94; have z8 := unhide Z107; have z9 := unhide Z133; have z10 := unhide Z159; have z11 := unhide Z172; have z12 := unhide Z193; have z13 := unhide Z224; have z14 := unhide Z249; have z15 := unhide Z271; have z16 := unhide Z292; omega))
    clear BX285
    have BX308 := hide ((unhide BX286).turn t304 (fun hk => by have z := unhide L99 _ hk; have y := unhide H108 _ hk; have z0 := unhide Z8; have z1 := unhide Z15; have z2 := unhide Z27; have z3 := unhide Z40; have z4 := unhide Z52; have z5 := unhide Z65; have z6 := unhide Z76; have z7 := unhide Z94; have z8 := unhide Z107; have z9 := unhide Z133; have z10 := unhide Z159; have z11 := unhide Z172; have z12 := unhide Z193; have z13 := unhide Z224; have z14 := unhide Z249; have z15 := unhide Z271; have z16 := unhide Z292; omega))
    clear BX286
    have BX309 := hide ((unhide BX287).turn t304 (fun hk => by have z := unhide L99 _ hk; have y := unhide H108 _ hk; have z0 := unhide Z8; have z1 := unhide Z15; have z2 := unhide Z27; have z3 := unhide Z40; have z4 := unhide Z52; have z5 := unhide Z65; have z6 := unhide Z76; have z7 := unhide Z94; have z8 := unhide Z107; have z9 := unhide Z133; have z10 := unhide Z159; have z11 := unhide Z172; have z12 := unhide Z193; have z13 := unhide Z224; have z14 := unhide Z249; have z15 := unhide Z271; have z16 := unhide Z292; omega))
    clear BX287
    have BX310 := hide ((unhide BX288).turn t304 (fun hk => by have z := unhide L99 _ hk; have y := unhide H108 _ hk; have z0 := unhide Z8; have z1 := unhide Z15; have z2 := unhide Z27; have z3 := unhide Z40; have z4 := unhide Z52; have z5 := unhide Z65; have z6 := unhide Z76; have z7 := unhide Z94; have z8 := unhide Z107; have z9 := unhide Z133; have z10 := unhide Z159; have z11 := unhide Z172; have z12 := unhide Z193; have z13 := unhide Z224; have z14 := unhide Z249; have z15 := unhide Z271; have z16 := unhide Z292; omega))
    clear BX288
    have O311 := hide ((unhide O293).turn t304 (fun k hk hm => by have z := unhide L99 k hm; have y := unhide H108 k hm; have u := unhide L70 k hk; have v := unhide H77 k hk; have z0 := unhide Z8; have z1 := unhide Z15; have z2 := unhide Z27; have z3 := unhide Z40; have z4 := unhide Z52; have z5 := unhide Z65; have z6 := unhide Z76; have z7 := unhide Z94; have z8 := unhide Z107; have z9 := unhide Z133; have z10 := unhide Z159; have z11 := unhide Z172; have z12 := unhide Z193; have z13 := unhide Z224; have z14 := unhide Z249; have z15 := unhide Z271; have z16 := unhide Z292; omega))
    clear O293
    have O312 := hide ((unhide O290).turn t304 (fun k hk hm => by have z := unhide L99 k hm; have y := unhide H108 k hm; have u := unhide L120 k hk; have v := unhide H134 k hk; have z0 := unhide Z8; have z1 := unhide Z15; have z2 := unhide Z27; have z3 := unhide Z40; have z4 := unhide Z52; have z5 := unhide Z65; have z6 := unhide Z76; have z7 := unhide Z94; have z8 := unhide Z107; have z9 := unhide Z133; have z10 := unhide Z159; have z11 := unhide Z172; have z12 := unhide Z193; have z13 := unhide Z224; have z14 := unhide Z249; have z15 := unhide Z271; have z16 := unhide Z292; omega))
    clear O290
    have O313 := hide ((unhide O291).turn t304 (fun k hk hm => by have z := unhide L99 k hm; have y := unhide H108 k hm; have u := unhide L124 k hk; have v := unhide H135 k hk; have z0 := unhide Z8; have z1 := unhide Z15; have z2 := unhide Z27; have z3 := unhide Z40; have z4 := unhide Z52; have z5 := unhide Z65; have z6 := unhide Z76; have z7 := unhide Z94; have z8 := unhide Z107; have z9 := unhide Z133; have z10 := unhide Z159; have z11 := unhide Z172; have z12 := unhide Z193; have z13 := unhide Z224; have z14 := unhide Z249; have z15 := unhide Z271; have z16 := unhide Z292; omega))
    clear O291
    have Z314 := hide (show w280.heap.size ≤ w302.heap.size from t304.size)
    have O315 := hide (unhide P303).1
    clear P303 t304
    have nf315 : ¬ (1 + (N_d : Int) + (N_bs : Int)) < 0 := by omega
    obtain ⟨x316, x317⟩ := (unhide BX307).two
    obtain ⟨x318, x319⟩ := (unhide BX308).two
    obtain ⟨x320, x321⟩ := (unhide BX309).two
    obtain ⟨x322, x323⟩ := (unhide BX310).two
    go_wp2_with fail
    clear x316 x317 x318 x319 x320 x321 x322 x323
    refine (eqSplit_kit (feedS d bs) _ _ w302 (unhide HRS0) (unhide O312).rd ((unhide U47).up (unhide BU306))).mono ?_
    rintro e w324 ⟨rfl, b325⟩
    have B326 := hide ((unhide B305).trans (b325.mono (unhide B305).size))
    clear B305
    have BU327 := hide ((unhide BU306).trans (b325.mono (unhide BU306).size))
    clear BU306
    have BX328 := hide ((unhide BX307).up b325)
    clear BX307
    have BX329 := hide ((unhide BX308).up b325)
    clear BX308
    have BX330 := hide ((unhide BX309).up b325)
    clear BX309
    have BX331 := hide ((unhide BX310).up b325)
    clear BX310
    have O332 := hide ((unhide O311).up b325)
    clear O311
    have O333 := hide ((unhide O315).up b325)
    clear O315
    have O334 := hide ((unhide O312).up b325)
    clear O312
    have O335 := hide ((unhide O313).up b325)
    clear O313
    have Z336 := hide (show w302.heap.size ≤ w324.heap.size from b325.size)
    clear b325
    obtain ⟨x337, x338⟩ := (unhide BX328).two
    obtain ⟨x339, x340⟩ := (unhide BX329).two
    obtain ⟨x341, x342⟩ := (unhide BX330).two
    obtain ⟨x343, x344⟩ := (unhide BX331).two
    go_wp2_with fail
    clear x337 x338 x339 x340 x341 x342 x343 x344
    refine (eqByteSS_kit (feedH d bs) _ _ w324 (unhide HRS1) (unhide O335).rd ((unhide U49).up (unhide BU327))).mono ?_
    rintro e w345 ⟨rfl, b346⟩
    have B347 := hide ((unhide B326).trans (b346.mono (unhide B326).size))
    clear B326
    have BU348 := hide ((unhide BU327).trans (b346.mono (unhide BU327).size))
    clear BU327
    have BX349 := hide ((unhide BX328).up b346)
    clear BX328
    have BX350 := hide ((unhide BX329).up b346)
    clear BX329
    have BX351 := hide ((unhide BX330).up b346)
    clear BX330
    have BX352 := hide ((unhide BX331).up b346)
    clear BX331
    have O353 := hide ((unhide O332).up b346)
    clear O332
    have O354 := hide ((unhide O333).up b346)
    clear O333
    have O355 := hide ((unhide O334).up b346)
    clear O334
    have O356 := hide ((unhide O335).up b346)
    clear O335
    have Z357 := hide (show w324.heap.size ≤ w345.heap.size from b346.size)
    clear b346
    obtain ⟨x358, x359⟩ := (unhide BX349).two
    obtain ⟨x360, x361⟩ := (unhide BX350).two
    obtain ⟨x362, x363⟩ := (unhide BX351).two
    obtain ⟨x364, x365⟩ := (unhide BX352).two
    go_wp2_with fail
    clear x358 x359 x360 x361 x362 x363 x364 x365
    refine (markSplit_kit S118 (feedS d bs) _ w345 (1) M_0 (1) (by omega) (unhide HM_0) (by omega) (unhide HRS0) (unhide O355)).mono ?_
    rintro e w366 ⟨rfl, P367⟩
    have t368 := (unhide P367).2
    have B369 := hide ((unhide B347).trans (t368.below (unhide B347).size (fun k hk => by have z := unhide L120 k hk; have y := unhide H134 k hk; have z0 := unhide Z8; have z1 := unhide Z15; have z2 := unhide Z27; have z3 := unhide Z40; have z4 := unhide Z52; have z5 := unhide Z65; have z6 := unhide Z76; have z7 := unhide Z94; have z8 := unhide Z107; have z9 := unhide Z133; have z10 := unhide Z159; have z11 := unhide Z172; have z12 := unhide Z193; have z13 := unhide Z224; have z14 := unhide Z249; have z15 := unhide Z271; have z16 := unhide Z292; have z17 := unhide Z314; have z18 := unhide Z336; have z19 := unhide Z357; omega)))
    clear B347
    have BU370 := hide ((unhide BU348).trans (t368.below (unhide BU348).size (fun k hk => by have z := unhide L120 k hk; have y := unhide H134 k hk; have z0 := unhide Z8; have z1 := unhide Z15; have z2 := unhide Z27; have z3 := unhide Z40; have z4 := unhide Z52; have z5 := unhide Z65; have z6 := unhide Z76; have z7 := unhide Z94; have z8 := unhide Z107; have z9 := unhide Z133; have z10 := unhide Z159; have z11 := unhide Z172; have z12 := unhide Z193; have z13 := unhide Z224; have z14 := unhide Z249; have z15 := unhide Z271; have z16 := unhide Z292; have z17 := unhide Z314; have z18 := unhide Z336; have z19 := unhide Z357; omega)))
    clear BU348
    have BX371 := hide ((unhide BX349).turn t368 (fun hk => by have z := unhide L120 _ hk; have y := unhide H134 _ hk; have z0 := unhide Z8; have z1 := unhide Z15; have z2 := unhide Z27; have z3 := unhide Z40; have z4 := unhide Z52; have z5 := unhide Z65; have z6 := unhide Z76; have z7 := unhide Z94; have z8 := unhide Z107; have z9 := unhide Z133; have z10 := unhide Z159; have z11 := unhide Z172; have z12 := unhide Z193; have z13 := unhide Z224; have z14 := unhide Z249; have z15 := unhide Z271; have z16 := unhide Z292; have z17 := unhide Z314; have z18 := unhide Z336; have z19 := unhide Z357; omega))
    clear BX349
    have BX372 := hide ((unhide BX350).turn t368 (fun hk => by have z := unhide L120 _ hk; have y := unhide H134 _ hk; have z0 := unhide Z8; have z1 := unhide Z15; have z2 := unhide Z27; have z3 := unhide Z40; have z4 := unhide Z52; have z5 := unhide Z65; have z6 := unhide Z76; have z7 := unhide Z94; have z8 := unhide Z107; have z9 := unhide Z133; have z10 := unhide Z159; have z11 := unhide Z172; have z12 := unhide Z193; have z13 := unhide Z224; have z14 := unhide Z249; have z15 := unhide Z271; have z16 := unhide Z292; have z17 := unhide Z314; have z18 := unhide Z336; have z19 := unhide Z357; omega))
    clear BX350
    have BX373 := hide ((unhide BX351).turn t368 (fun hk => by have z := unhide L120 _ hk; have y := unhide H134 _ hk; have z0 := unhide Z8; have z1 := unhide Z15; have z2 := unhide Z27; have z3 := unhide Z40; have z4 := unhide Z52; have z5 := unhide Z65; have z6 := unhide Z76; have z7 := unhide Z94; have z8 := unhide Z107; have z9 := unhide Z133; have z10 := unhide Z159; have z11 := unhide Z172; have z12 := unhide Z193; have z13 := unhide Z224; have z14 := unhide Z249; have z15 := unhide Z271; have z16 := unhide Z292; have z17 := unhide Z314; have z18 := unhide Z336; have z19 := unhide Z357; omega))
    clear BX351
    have BX374 := hide ((unhide BX352).turn t368 (fun hk => by have z := unhide L120 _ hk; have y := unhide H134 _ hk; have z0 := unhide Z8; have z1 := unhide Z15; have z2 := unhide Z27; have z3 := unhide Z40; have z4 := unhide Z52; have z5 := unhide Z65; have z6 := unhide Z76; have z7 := unhide Z94; have z8 := unhide Z107; have z9 := unhide Z133; have z10 := unhide Z159; have z11 := unhide Z172; have z12 := unhide Z193; have z13 := unhide Z224; have z14 := unhide Z249; have z15 := unhide Z271; have z16 := unhide Z292; have z17 := unhide Z314; have z18 := unhide Z336; have z19 := unhide Z357; omega))
    clear BX352
    have O375 := hide ((unhide O353).turn t368 (fun k hk hm => by have z := unhide L120 k hm; have y := unhide H134 k hm; have u := unhide L70 k hk; have v := unhide H77 k hk; have z0 := unhide Z8; have z1 := unhide Z15; have z2 := unhide Z27; have z3 := unhide Z40; have z4 := unhide Z52; have z5 := unhide Z65; have z6 := unhide Z76; have z7 := unhide Z94; have z8 := unhide Z107; have z9 := unhide Z133; have z10 := unhide Z159; have z11 := unhide Z172; have z12 := unhide Z193; have z13 := unhide Z224; have z14 := unhide Z249; have z15 := unhide Z271; have z16 := unhide Z292; have z17 := unhide Z314; have z18 := unhide Z336; have z19 := unhide Z357; omega))
    clear O353
    have O376 := hide ((unhide O354).turn t368 (fun k hk hm => by have z := unhide L120 k hm; have y := unhide H134 k hm; have u := unhide L99 k hk; have v := unhide H108 k hk; have z0 := unhide Z8; have z1 := unhide Z15; have z2 := unhide Z27; have z3 := unhide Z40; have z4 := unhide Z52; have z5 := unhide Z65; have z6 := unhide Z76; have z7 := unhide Z94; have z8 := unhide Z107; have z9 := unhide Z133; have z10 := unhide Z159; have z11 := unhide Z172; have z12 := unhide Z193; have z13 := unhide Z224; have z14 := unhide Z249; have z15 := unhide Z271; have z16 := unhide Z292; have z17 := unhide Z314; have z18 := unhide Z336; have z19 := unhide Z357; omega))
    clear O354
    have O377 := hide ((unhide O356).turn t368 (fun k hk hm => unhide AP125 k hm hk))
    clear O356
    have Z378 := hide (show w345.heap.size ≤ w366.heap.size from t368.size)
    have O379 := hide (unhide P367).1
    clear P367 t368
    have nf379 : ¬ (1 + (M_0 : Int)) < 0 := by omega
    obtain ⟨x380, x381⟩ := (unhide BX371).two
    obtain ⟨x382, x383⟩ := (unhide BX372).two
    obtain ⟨x384, x385⟩ := (unhide BX373).two
    obtain ⟨x386, x387⟩ := (unhide BX374).two
    go_wp2_with fail
    clear x380 x381 x382 x383 x384 x385 x386 x387
    refine (markByteSS_kit S122 (feedH d bs) _ w366 (1 + M_0) M_1 (1 + (M_0 : Int)) (by omega) (unhide HM_1) (by omega) (unhide HRS1) (unhide O377)).mono ?_
    rintro e w388 ⟨rfl, P389⟩
    have t390 := (unhide P389).2
    have B391 := hide ((unhide B369).trans (t390.below (unhide B369).size (fun k hk => by have z := unhide L124 k hk; have y := unhide H135 k hk; have z0 := unhide Z8; have z1 := unhide Z15; have z2 := unhide Z27; have z3 := unhide Z40; have z4 := unhide Z52; have z5 := unhide Z65; have z6 := unhide Z76; have z7 := unhide Z94; have z8 := unhide Z107; have z9 := unhide Z133; have z10 := unhide Z159; have z11 := unhide Z172; have z12 := unhide Z193; have z13 := unhide Z224; have z14 := unhide Z249; have z15 := unhide Z271; have z16 := unhide Z292; have z17 := unhide Z314; have z18 := unhide Z336; have z19 := unhide Z357; have z20 := unhide Z378; omega)))
    clear B369
    have BU392 := hide ((unhide BU370).trans (t390.below (unhide BU370).size (fun k hk => by have z := unhide L124 k hk; have y := unhide H135 k hk; have z0 := unhide Z8; have z1 := unhide Z15; have z2 := unhide Z27; have z3 := unhide Z40; have z4 := unhide Z52; have z5 := unhide Z65; have z6 := unhide Z76; have z7 := unhide Z94; have z8 := unhide Z107; have z9 := unhide Z133; have z10 := unhide Z159; have z11 := unhide Z172; have z12 := unhide Z193; have z13 := unhide Z224; have z14 := unhide Z249; have z15 := unhide Z271; have z16 := unhide Z292; have z17 := unhide Z314; have z18 := unhide Z336; have z19 := unhide Z357; have z20 := unhide Z378; omega)))
    clear BU370
    have BX393 := hide ((unhide BX371).turn t390 (fun hk => by have z := unhide L124 _ hk; have y := unhide H135 _ hk; have z0 := unhide Z8; have z1 := unhide Z15; have z2 := unhide Z27; have z3 := unhide Z40; have z4 := unhide Z52; have z5 := unhide Z65; have z6 := unhide Z76; have z7 := unhide Z94; have z8 := unhide Z107; have z9 := unhide Z133; have z10 := unhide Z159; have z11 := unhide Z172; have z12 := unhide Z193; have z13 := unhide Z224; have z14 := unhide Z249; have z15 := unhide Z271; have z16 := unhide Z292; have z17 := unhide Z314; have z18 := unhide Z336; have z19 := unhide Z357; have z20 := unhide Z378; omega))
    clear BX371
    have BX394 := hide ((unhide BX372).turn t390 (fun hk => by have z := unhide L124 _ hk; have y := unhide H135 _ hk; have z0 := unhide Z8; have z1 := unhide Z15; have z2 := unhide Z27; have z3 := unhide Z40; have z4 := unhide Z52; have z5 := unhide Z65; have z6 := unhide Z76; have z7 := unhide Z94; have z8 := unhide Z107; have z9 := unhide Z133; have z10 := unhide Z159; have z11 := unhide Z172; have z12 := unhide Z193; have z13 := unhide Z224; have z14 := unhide Z249; have z15 := unhide Z271; have z16 := unhide Z292; have z17 := unhide Z314; have z18 := unhide Z336; have z19 := unhide Z357; have z20 := unhide Z378; omega))
    clear BX372
    have BX395 := hide ((unhide BX373).turn t390 (fun hk => by have z := unhide L124 _ hk; have y := unhide H135 _ hk; have z0 := unhide Z8; have z1 := unhide Z15; have z2 := unhide Z27; have z3 := unhide Z40; have z4 := unhide Z52; have z5 := unhide Z65; have z6 := unhide Z76; have z7 := unhide Z94; have z8 := unhide Z107; have z9 := unhide Z133; have z10 := unhide Z159; have z11 := unhide Z172; have z12 := unhide Z193; have z13 := unhide Z224; have z14 := unhide Z249; have z15 := unhide Z271; have z16 := unhide Z292; have z17 := unhide Z314; have z18 := unhide Z336; have z19 := unhide Z357; have z20 := unhide Z378; omega))
    clear BX373
    have BX396 := hide ((unhide BX374).turn t390 (fun hk => by have z := unhide L124 _ hk; have y := unhide H135 _ hk; have z0 := unhide Z8; have z1 := unhide Z15; have z2 := unhide Z27; have z3 := unhide Z40; have z4 := unhide Z52; have z5 := unhide Z65; have z6 := unhide Z76; have z7 := unhide Z94; have z8 := unhide Z107; have z9 := unhide Z133; have z10 := unhide Z159; have z11 := unhide Z172; have z12 := unhide Z193; have z13 := unhide Z224; have z14 := unhide Z249; have z15 := unhide Z271; have z16 := unhide Z292; have z17 := unhide Z314; have z18 := unhide Z336; have z19 := unhide Z357; have z20 := unhide Z378; omega))
    clear BX374
    have O397 := hide ((unhide O375).turn t390 (fun k hk hm => by have z := unhide L124 k hm; have y := unhide H135 k hm; have u := unhide L70 k hk; have v := unhide H77 k hk; have z0 := unhide Z8; have z1 := unhide Z15; have z2 := unhide Z27; have z3 := unhide Z40; have z4 := unhide Z52; have z5 := unhide Z65; have z6 := unhide Z76; have z7 := unhide Z94; have z8 := unhide Z107; have z9 := unhide Z133; have z10 := unhide Z159; have z11 := unhide Z172; have z12 := unhide Z193; have z13 := unhide Z224; have z14 := unhide Z249; have z15 := unhide Z271; have z16 := unhide Z292; have z17 := unhide Z314; have z18 := unhide Z336; have z19 := unhide Z357; have z20 := unhide Z378; omega))
    clear O375
    have O398 := hide ((unhide O376).turn t390 (fun k hk hm => by have z := unhide L124 k hm; have y := unhide H135 k hm; have u := unhide L99 k hk; have v := unhide H108 k hk; have z0 := unhide Z8; have z1 := unhide Z15; have z2 := unhide Z27; have z3 := unhide Z40; have z4 := unhide Z52; have z5 := unhide Z65; have z6 := unhide Z76; have z7 := unhide Z94; have z8 := unhide Z107; have z9 := unhide Z133; have z10 := unhide Z159; have z11 := unhide Z172; have z12 := unhide Z193; have z13 := unhide Z224; have z14 := unhide Z249; have z15 := unhide Z271; have z16 := unhide Z292; have z17 := unhide Z314; have z18 := unhide Z336; have z19 := unhide Z357; have z20 := unhide Z378; omega))
    clear O376
    have O399 := hide ((unhide O379).turn t390 (fun k hk hm => unhide AP125 k hk hm))
    clear O379
    have Z400 := hide (show w366.heap.size ≤ w388.heap.size from t390.size)
    have O401 := hide (unhide P389).1
    clear P389 t390
    have nf401 : ¬ (1 + (M_0 : Int) + (M_1 : Int)) < 0 := by omega
    obtain ⟨x402, x403⟩ := (unhide BX393).two
    obtain ⟨x404, x405⟩ := (unhide BX394).two
    obtain ⟨x406, x407⟩ := (unhide BX395).two
    obtain ⟨x408, x409⟩ := (unhide BX396).two
    go_wp2_with fail
    clear x402 x403 x404 x405 x406 x407 x408 x409
    refine (heldSplit_kit (feedS d bs) _ w388 (1) M_0 (1) (by omega) (unhide HM_0) (by omega) (unhide HRS0) (unhide O399).rd).mono ?_
    rintro e w410 ⟨rfl, b411⟩
    have B412 := hide ((unhide B391).trans (b411.mono (unhide B391).size))
    clear B391
    have BU413 := hide ((unhide BU392).trans (b411.mono (unhide BU392).size))
    clear BU392
    have BX414 := hide ((unhide BX393).up b411)
    clear BX393
    have BX415 := hide ((unhide BX394).up b411)
    clear BX394
    have BX416 := hide ((unhide BX395).up b411)
    clear BX395
    have BX417 := hide ((unhide BX396).up b411)
    clear BX396
    have O418 := hide ((unhide O397).up b411)
    clear O397
    have O419 := hide ((unhide O398).up b411)
    clear O398
    have O420 := hide ((unhide O399).up b411)
    clear O399
    have O421 := hide ((unhide O401).up b411)
    clear O401
    have Z422 := hide (show w388.heap.size ≤ w410.heap.size from b411.size)
    clear b411
    obtain ⟨x423, x424⟩ := (unhide BX414).two
    obtain ⟨x425, x426⟩ := (unhide BX415).two
    obtain ⟨x427, x428⟩ := (unhide BX416).two
    obtain ⟨x429, x430⟩ := (unhide BX417).two
    go_wp2_with fail
    clear x423 x424 x425 x426 x427 x428 x429 x430
    refine (heldByteSS_kit (feedH d bs) _ w410 (1 + M_0) M_1 (1 + (M_0 : Int)) (by omega) (unhide HM_1) (by omega) (unhide HRS1) (unhide O421).rd).mono ?_
    rintro e w431 ⟨rfl, b432⟩
    have B433 := hide ((unhide B412).trans (b432.mono (unhide B412).size))
    clear B412
    have BU434 := hide ((unhide BU413).trans (b432.mono (unhide BU413).size))
    clear BU413
    have BX435 := hide ((unhide BX414).up b432)
    clear BX414
    have BX436 := hide ((unhide BX415).up b432)
    clear BX415
    have BX437 := hide ((unhide BX416).up b432)
    clear BX416
    have BX438 := hide ((unhide BX417).up b432)
    clear BX417
    have O439 := hide ((unhide O418).up b432)
    clear O418
    have O440 := hide ((unhide O419).up b432)
    clear O419
    have O441 := hide ((unhide O420).up b432)
    clear O420
    have O442 := hide ((unhide O421).up b432)
    clear O421
    have Z443 := hide (show w410.heap.size ≤ w431.heap.size from b432.size)
    clear b432
    obtain ⟨x444, x445⟩ := (unhide BX435).two
    obtain ⟨x446, x447⟩ := (unhide BX436).two
    obtain ⟨x448, x449⟩ := (unhide BX437).two
    obtain ⟨x450, x451⟩ := (unhide BX438).two
    go_wp2_with fail
    clear x444 x445 x446 x447 x448 x449 x450 x451
    refine (toSplit_kit d _ w431 (unhide HS16) ((unhide HR_d).up (unhide B433))).mono ?_
    rintro e w452 ⟨v453, S454, rfl, O455, L456, b457⟩
    have B458 := hide ((unhide B433).trans (b457.mono (unhide B433).size))
    clear B433
    have BU459 := hide ((unhide BU434).trans (b457.mono (unhide BU434).size))
    clear BU434
    have BX460 := hide ((unhide BX435).up b457)
    clear BX435
    have BX461 := hide ((unhide BX436).up b457)
    clear BX436
    have BX462 := hide ((unhide BX437).up b457)
    clear BX437
    have BX463 := hide ((unhide BX438).up b457)
    clear BX438
    have O464 := hide ((unhide O439).up b457)
    clear O439
    have O465 := hide ((unhide O440).up b457)
    clear O440
    have O466 := hide ((unhide O441).up b457)
    clear O441
    have O467 := hide ((unhide O442).up b457)
    clear O442
    have Z468 := hide (show w431.heap.size ≤ w452.heap.size from b457.size)
    clear b457
    have H469 := hide (unhide O455).lt
    obtain ⟨x470, x471⟩ := (unhide BX460).two
    obtain ⟨x472, x473⟩ := (unhide BX461).two
    obtain ⟨x474, x475⟩ := (unhide BX462).two
    obtain ⟨x476, x477⟩ := (unhide BX463).two
    go_wp2_with fail
    clear x470 x471 x472 x473 x474 x475 x476 x477
    refine (toByteS_kit bs _ w452 (unhide HS4) ((unhide HR_bs).up (unhide B458))).mono ?_
    rintro e w478 ⟨v479, S480, rfl, O481, L482, b483⟩
    have B484 := hide ((unhide B458).trans (b483.mono (unhide B458).size))
    clear B458
    have BU485 := hide ((unhide BU459).trans (b483.mono (unhide BU459).size))
    clear BU459
    have BX486 := hide ((unhide BX460).up b483)
    clear BX460
    have BX487 := hide ((unhide BX461).up b483)
    clear BX461
    have BX488 := hide ((unhide BX462).up b483)
    clear BX462
    have BX489 := hide ((unhide BX463).up b483)
    clear BX463
    have O490 := hide ((unhide O464).up b483)
    clear O464
    have O491 := hide ((unhide O465).up b483)
    clear O465
    have O492 := hide ((unhide O466).up b483)
    clear O466
    have O493 := hide ((unhide O467).up b483)
    clear O467
    have O494 := hide ((unhide O455).up b483)
    clear O455
    have Z495 := hide (show w452.heap.size ≤ w478.heap.size from b483.size)
    clear b483
    have H496 := hide (unhide O481).lt
    obtain ⟨x497, x498⟩ := (unhide BX486).two
    obtain ⟨x499, x500⟩ := (unhide BX487).two
    obtain ⟨x501, x502⟩ := (unhide BX488).two
    obtain ⟨x503, x504⟩ := (unhide BX489).two
    go_wp2_with fail
    clear x497 x498 x499 x500 x501 x502 x503 x504
    refine (impl_kit d _ bs _ w478 (unhide HS16) (unhide HS4) (unhide O494).rd (unhide O481).rd).mono ?_
    rintro e w505 ⟨v507, S508, v511, S512, rfl, O509, L510, O513, L514, AP515, b506⟩
    clear O494
    clear O481
    have B516 := hide ((unhide B484).trans (b506.mono (unhide B484).size))
    clear B484
    have BU517 := hide ((unhide BU485).trans (b506.mono (unhide BU485).size))
    clear BU485
    have BX518 := hide ((unhide BX486).up b506)
    clear BX486
    have BX519 := hide ((unhide BX487).up b506)
    clear BX487
    have BX520 := hide ((unhide BX488).up b506)
    clear BX488
    have BX521 := hide ((unhide BX489).up b506)
    clear BX489
    have O522 := hide ((unhide O490).up b506)
    clear O490
    have O523 := hide ((unhide O491).up b506)
    clear O491
    have O524 := hide ((unhide O492).up b506)
    clear O492
    have O525 := hide ((unhide O493).up b506)
    clear O493
    have Z526 := hide (show w478.heap.size ≤ w505.heap.size from b506.size)
    clear b506
    obtain ⟨q_h0_0, q_h0_1, q_h0_2, q_h0_3, rfl⟩ := (unhide O509).rd.form
    have H527 := hide (unhide O509).lt
    obtain ⟨q_h1_0, q_h1_1, q_h1_2, rfl⟩ := (unhide O513).rd.form
    have H528 := hide (unhide O513).lt
    obtain ⟨x529, x530⟩ := (unhide BX518).two
    obtain ⟨x531, x532⟩ := (unhide BX519).two
    obtain ⟨x533, x534⟩ := (unhide BX520).two
    obtain ⟨x535, x536⟩ := (unhide BX521).two
    have lt537 : w.heap.size < w505.heap.size := (unhide BX518).1
    have lt538 : w44.heap.size < w505.heap.size := (unhide BX519).1
    have lt539 : w66.heap.size < w505.heap.size := (unhide BX520).1
    have lt540 : w115.heap.size < w505.heap.size := (unhide BX521).1
    obtain ⟨bx541, b542, zz543⟩ := boxNew2 w505 (.slice q_h0_0 q_h0_1 q_h0_2) (.int .i64 q_h0_3) 26
    go_wp2_with fail
    generalize w505.alloc (.cells #[.slice q_h0_0 q_h0_1 q_h0_2, .int .i64 q_h0_3] 26) = W544 at *
    have B546 := hide ((unhide B516).trans (b542.mono (unhide B516).size))
    clear B516
    have BU547 := hide ((unhide BU517).trans (b542.mono (unhide BU517).size))
    clear BU517
    have BX548 := hide ((unhide BX518).up b542)
    clear BX518
    have BX549 := hide ((unhide BX519).up b542)
    clear BX519
    have BX550 := hide ((unhide BX520).up b542)
    clear BX520
    have BX551 := hide ((unhide BX521).up b542)
    clear BX521
    have O552 := hide ((unhide O522).up b542)
    clear O522
    have O553 := hide ((unhide O523).up b542)
    clear O523
    have O554 := hide ((unhide O524).up b542)
    clear O524
    have O555 := hide ((unhide O525).up b542)
    clear O525
    have O556 := hide ((unhide O509).up b542)
    clear O509
    have O557 := hide ((unhide O513).up b542)
    clear O513
    have Z558 := hide (show w505.heap.size < W544.heap.size from zz543)
    have BX545 := hide bx541
    clear bx541 b542 zz543
    clear x529 x530 x531 x532 x533 x534 x535 x536 lt537 lt538 lt539 lt540
    refine (eqSplit_kit (feedS d bs) _ _ W544 (unhide HRS0) (unhide O556).rd ((unhide U47).up (unhide BU547))).mono ?_
    rintro e w559 ⟨rfl, b560⟩
    have B561 := hide ((unhide B546).trans (b560.mono (unhide B546).size))
    clear B546
    have BU562 := hide ((unhide BU547).trans (b560.mono (unhide BU547).size))
    clear BU547
    have BX563 := hide ((unhide BX548).up b560)
    clear BX548
    have BX564 := hide ((unhide BX549).up b560)
    clear BX549
    have BX565 := hide ((unhide BX550).up b560)
    clear BX550
    have BX566 := hide ((unhide BX551).up b560)
    clear BX551
    have BX567 := hide ((unhide BX545).up b560)
    clear BX545
    have O568 := hide ((unhide O552).up b560)
    clear O552
    have O569 := hide ((unhide O553).up b560)
    clear O553
    have O570 := hide ((unhide O554).up b560)
    clear O554
    have O571 := hide ((unhide O555).up b560)
    clear O555
    have O572 := hide ((unhide O556).up b560)
    clear O556
    have O573 := hide ((unhide O557).up b560)
    clear O557
    have Z574 := hide (show W544.heap.size ≤ w559.heap.size from b560.size)
    clear b560
    obtain ⟨x575, x576⟩ := (unhide BX563).two
    obtain ⟨x577, x578⟩ := (unhide BX564).two
    obtain ⟨x579, x580⟩ := (unhide BX565).two
    obtain ⟨x581, x582⟩ := (unhide BX566).two
    obtain ⟨x583, x584⟩ := (unhide BX567).two
    go_wp2_with fail
    clear x575 x576 x577 x578 x579 x580 x581 x582 x583 x584
    refine (eqByteSS_kit (feedH d bs) _ _ w559 (unhide HRS1) (unhide O573).rd ((unhide U49).up (unhide BU562))).mono ?_
    rintro e w585 ⟨rfl, b586⟩
    have B587 := hide ((unhide B561).trans (b586.mono (unhide B561).size))
    clear B561
    have BU588 := hide ((unhide BU562).trans (b586.mono (unhide BU562).size))
    clear BU562
    have BX589 := hide ((unhide BX563).up b586)
    clear BX563
    have BX590 := hide ((unhide BX564).up b586)
    clear BX564
    have BX591 := hide ((unhide BX565).up b586)
    clear BX565
    have BX592 := hide ((unhide BX566).up b586)
    clear BX566
    have BX593 := hide ((unhide BX567).up b586)
    clear BX567
    have O594 := hide ((unhide O568).up b586)
    clear O568
    have O595 := hide ((unhide O569).up b586)
    clear O569
    have O596 := hide ((unhide O570).up b586)
    clear O570
    have O597 := hide ((unhide O571).up b586)
    clear O571
    have O598 := hide ((unhide O572).up b586)
    clear O572
    have O599 := hide ((unhide O573).up b586)
    clear O573
    have Z600 := hide (show w559.heap.size ≤ w585.heap.size from b586.size)
    clear b586
    obtain ⟨x601, x602⟩ := (unhide BX589).two
    obtain ⟨x603, x604⟩ := (unhide BX590).two
    obtain ⟨x605, x606⟩ := (unhide BX591).two
    obtain ⟨x607, x608⟩ := (unhide BX592).two
    obtain ⟨x609, x610⟩ := (unhide BX593).two
    go_wp2_with fail
    clear x601 x602 x603 x604 x605 x606 x607 x608 x609 x610
    refine (heldSplit_kit (feedS d bs) _ w585 (1) M_0 (1) (by omega) (unhide HM_0) (by omega) (unhide HRS0) (unhide O596).rd).mono ?_
    rintro e w611 ⟨rfl, b612⟩
    have B613 := hide ((unhide B587).trans (b612.mono (unhide B587).size))
    clear B587
    have BU614 := hide ((unhide BU588).trans (b612.mono (unhide BU588).size))
    clear BU588
    have BX615 := hide ((unhide BX589).up b612)
    clear BX589
    have BX616 := hide ((unhide BX590).up b612)
    clear BX590
    have BX617 := hide ((unhide BX591).up b612)
    clear BX591
    have BX618 := hide ((unhide BX592).up b612)
    clear BX592
    have BX619 := hide ((unhide BX593).up b612)
    clear BX593
    have O620 := hide ((unhide O594).up b612)
    clear O594
    have O621 := hide ((unhide O595).up b612)
    clear O595
    have O622 := hide ((unhide O596).up b612)
    clear O596
    have O623 := hide ((unhide O597).up b612)
    clear O597
    have O624 := hide ((unhide O598).up b612)
    clear O598
    have O625 := hide ((unhide O599).up b612)
    clear O599
    have Z626 := hide (show w585.heap.size ≤ w611.heap.size from b612.size)
    clear b612
    obtain ⟨x627, x628⟩ := (unhide BX615).two
    obtain ⟨x629, x630⟩ := (unhide BX616).two
    obtain ⟨x631, x632⟩ := (unhide BX617).two
    obtain ⟨x633, x634⟩ := (unhide BX618).two
    obtain ⟨x635, x636⟩ := (unhide BX619).two
    go_wp2_with fail
    clear x627 x628 x629 x630 x631 x632 x633 x634 x635 x636
    refine (heldByteSS_kit (feedH d bs) _ w611 (1 + M_0) M_1 (1 + (M_0 : Int)) (by omega) (unhide HM_1) (by omega) (unhide HRS1) (unhide O623).rd).mono ?_
    rintro e w637 ⟨rfl, b638⟩
    have B639 := hide ((unhide B613).trans (b638.mono (unhide B613).size))
    clear B613
    have BU640 := hide ((unhide BU614).trans (b638.mono (unhide BU614).size))
    clear BU614
    have BX641 := hide ((unhide BX615).up b638)
    clear BX615
    have BX642 := hide ((unhide BX616).up b638)
    clear BX616
    have BX643 := hide ((unhide BX617).up b638)
    clear BX617
    have BX644 := hide ((unhide BX618).up b638)
    clear BX618
    have BX645 := hide ((unhide BX619).up b638)
    clear BX619
    have O646 := hide ((unhide O620).up b638)
    clear O620
    have O647 := hide ((unhide O621).up b638)
    clear O621
    have O648 := hide ((unhide O622).up b638)
    clear O622
    have O649 := hide ((unhide O623).up b638)
    clear O623
    have O650 := hide ((unhide O624).up b638)
    clear O624
    have O651 := hide ((unhide O625).up b638)
    clear O625
    have Z652 := hide (show w611.heap.size ≤ w637.heap.size from b638.size)
    clear b638
    obtain ⟨x653, x654⟩ := (unhide BX641).two
    obtain ⟨x655, x656⟩ := (unhide BX642).two
    obtain ⟨x657, x658⟩ := (unhide BX643).two
    obtain ⟨x659, x660⟩ := (unhide BX644).two
    obtain ⟨x661, x662⟩ := (unhide BX645).two
    go_wp2_with fail
    go_ret
    exact ⟨rfl, unhide B639⟩

theorem own : ownKnob Try.prog.godebug = none := by kernel_rfl
theorem laidOut : laidOutB Try.prog = true := by kernel_rfl

set_option maxRecDepth 100000 in
theorem lifted (os : Os) (started : os.Started) (H : Type) (enc : TypeId × Value → H) :
    ReturnsInHanded {} Try.checked os 3 .any (Rows.fnExactSplitFeedSpec.pre6 enc Try.prog Try.f3 Rows.fnExactSplitFeedRow.domain false) (Rows.fnExactSplitFeedSpec.post enc Try.prog Try.f3 false true false false) := by
  refine returnsInHanded_of_change (C := Try.checked) own started (by kernel_rfl) Try.func3
    (ChangeSpec.witness6 (enc := enc) (C := Try.checked) false ⟨#[], #[.agg #[.slice none 0 0, .int .i64 0], .slice none 0 0], []⟩ 8 (by kernel_rfl) (by kernel_rfl) (by kernel_rfl) (by kernel_rfl)) ?_
  intro W base args ds gs before hval0 hW hcnd _
  have hval : ∀ (j : Nat) t v, Try.f3.params[j]? = some t → args[j]? = some v → Value.okWide Try.prog W .any base t v := hval0
  have hW' := hW
  obtain ⟨p, q, hA0, hV, rfl, hfz, hnd⟩ := hW
  have hA : DataW.TrodAll enc Try.prog W 0 (fun _ => true) true Try.f3.params.toList args.toList ds p := hA0
  rw [Try.params3] at hA hval
  obtain ⟨v0, v1, d0, d1, p0, p1, rfl, rfl, rfl, h0, h1⟩ := trodAll_two hA
  obtain ⟨rfl, rfl⟩ := trodVars_none hV
  obtain ⟨cs, rfl, hcs⟩ := aggOf Try.underlying24 cellsSplit (hval 0 24 v0 rfl rfl)
  obtain ⟨c0, c1, rfl⟩ := array2 hcs
  obtain ⟨d, hr, hf⟩ := openSplit h0
  have k1 := h1
  have lt1 : ∀ x ∈ p1, x.block < W.heap.size := by obtain ⟨m, hm⟩ := k1; exact DataW.trod_lt m _ _ _ hm
  obtain ⟨a1, len1, cap1, rfl⟩ := okWide_slice Try.underlying22 (hval 1 22 v1 rfl rfl)
  obtain ⟨bs, rfl, hl, hlc, hn⟩ := open_byteS h1
  have k0 := h0
  have lt0 : ∀ x ∈ p0, x.block < W.heap.size := by obtain ⟨m, hm⟩ := k0; exact DataW.trod_lt m _ _ _ hm
  clear hA0 hval0
  refine (walk d _ bs _ W hf hr hl ⟨a1, cap1, rfl, hn, hlc⟩).mono fun e W' ⟨he, bel⟩ => ?_
  subst he
  exact ⟨_, rfl, _, _, _, [], _, [], hW', trodAll_mk1 (shut_bool Try.underlying4 _), trodAll_mk2 (Below.trod laidOut (by kernel_rfl) (of_decide_eq_true (by kernel_rfl)) k0 bel lt0) (Below.trod laidOut (by kernel_rfl) (of_decide_eq_true (by kernel_rfl)) k1 bel lt1), rfl, bel.frame _, fun h => by cases h⟩

theorem over : Rows.fnExactSplitFeedRow.holds Try.pinned (OpenSpec.ofChange Rows.fnExactSplitFeedSpec) :=
  OpenClaim.holds_of_wide 3 Try.f3 rfl rfl rfl rfl rfl rfl rfl ⟨rfl, rfl, rfl, rfl, rfl⟩ rfl rfl rfl rfl rfl (by kernel_rfl) Try.func3 (by kernel_rfl)
    (of_decide_eq_true (by kernel_rfl)) (by unfold Func.isWrapper; first | (rw [if_pos (by decide +kernel)]; kernel_rfl) | (rw [if_neg (by decide +kernel)]; exact ⟨rfl, rfl⟩))
    (fun os started H enc _ => lifted os started H enc)

end Go.Proofs.Ytaciimcdfbkgiaa.fnExactSplitFeed

namespace Go.Proofs.Ytaciimcdfbkgiaa
theorem fnExactSplitFeed_holds : Rows.FnExactSplitFeedSaid :=
  fnExactSplitFeed.over
end Go.Proofs.Ytaciimcdfbkgiaa
