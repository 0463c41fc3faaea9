/-
  Proved: at every argument the law on DiskWrite answers true, and the arguments read afterwards as before: the program writes behind what is there as the specification does, and its answer owns its memory. No condition.
-/
import Derived.Test.YtaajldeejakonaaSpecWriteN
import Derived.Test.YtaajldeejakonaaDiskKit
import Derived.Test.YtaajldeejakonaaByKit
import Derived.Test.YtaajldeejakonaaByArg
import Derived.Test.YtaajldeejakonaaRows
import Derived.WalkKit
import Derived.ProofKit
import Derived.OpenShut
import Derived.Handy
namespace Go.Proofs.Ytaajldeejakonaa.fnExactDiskWrite
open Go.ChangeShapes Go.WideShapes Go.ChangeAt Go.RowKit Go.Deep Go.Maps
set_option linter.unusedVariables false

theorem spec_kit (d : DiskV) (v : Value) (bs : List UInt8) (vb : Value) (w : World) (hs : SmallDisk d) (hb : SmallByteS bs) (h : DiskRd w v d) (h2 : ByRd w vb bs) :
    Calls Try.prog 5 #[v, vb] w fun e w' => ∃ v, e = .returned (.tuple #[v, .int .i64 (wrI d bs)]) ∧ Hid (DiskRd w' v (wrV d bs)) ∧ Below w.heap.size w w' := by
  refine (specWrite_any d v bs vb w hs (by unfold SmallByteS at hb; omega) h h2).mono ?_
  rintro e w' ⟨v, S, rfl, h1, h2, h3⟩
  exact ⟨_, rfl, (unhide h1).rd, h3⟩
theorem impl_kit (d : DiskV) (v : Value) (bs : List UInt8) (vb : Value) (w : World) (hs : SmallDisk d) (hb : SmallByteS bs) (h : DiskRd w v d) (h2 : ByRd w vb bs) :
    Calls Try.prog 8 #[v, vb] w fun e w' => ∃ v S, e = .returned (.tuple #[v, .int .i64 (wrI d bs)]) ∧ Hid (DiskOwn S w' v (wrV d bs)) ∧ Hid (∀ k ∈ S, w.heap.size ≤ k) ∧ Below w.heap.size w w' := implWrite_any d v bs vb w hs (by unfold SmallByteS at hb; omega) h h2

set_option maxHeartbeats 12800000 in
theorem walk (d : DiskV) (v_d : Value) (bs : List UInt8) (v_bs : Value) (w : World) (hf_d : DiskFit d) (hr_d : DiskRd w v_d d) (hf_bs : ByFit bs) (hr_bs : ByRd w v_bs bs) :
    Calls Try.prog 3 #[v_d, v_bs] w fun e w' => e = .returned (.bool true) ∧ Below w.heap.size w w' := by
  have HF_d := hide hf_d
  clear hf_d
  have HR_d := hide hr_d
  obtain ⟨p_d0, p_d1, p_d2, p_d3, p_d4, p_d5, p_d6, p_d7, rfl⟩ := hr_d.form
  clear hr_d
  have HF_bs := hide hf_bs
  clear hf_bs
  have HR_bs := hide hr_bs
  obtain ⟨p_bs0, p_bs1, p_bs2, rfl⟩ := hr_bs.form
  clear hr_bs
  go_enter Try.func3, Try.ntmps3
  obtain ⟨bx1, b2, zz3⟩ := boxNew4 w (.slice p_d0 p_d1 p_d2) (.slice p_d3 p_d4 p_d5) (.int .i64 p_d6) (.bool p_d7) 24
  by_cases hl_bs : (p_bs1 : Int) ≤ 1048576
  rotate_left
  · go_wp2_with fail
    go_ret
    exact ⟨rfl, by go_grown⟩
  have HS4 := hide (small_of_len (unhide HR_bs) hl_bs)
  go_wp2_with fail
  generalize w.alloc (.cells #[.slice p_d0 p_d1 p_d2, .slice p_d3 p_d4 p_d5, .int .i64 p_d6, .bool p_d7] 24) = W5 at *
  have B7 := hide b2
  have Z8 := hide (show w.heap.size < W5.heap.size from zz3)
  have BX6 := hide bx1
  clear bx1 b2 zz3
  refine (szDisk_kit d _ W5 (unhide HF_d) ((unhide HR_d).up (unhide B7))).mono ?_
  rintro e w9 ⟨q10, rfl, HQ11, b12⟩
  have B13 := hide ((unhide B7).trans (b12.mono (unhide B7).size))
  clear B7
  have BX14 := hide ((unhide BX6).up b12)
  clear BX6
  have Z15 := hide (show W5.heap.size ≤ w9.heap.size from b12.size)
  clear b12
  by_cases hnegq10 : q10 < 0
  · go_wp2_with fail
    go_ret
    exact ⟨rfl, unhide B13⟩
  have HS16 := hide (unhide HQ11 (by omega))
  obtain ⟨N_d, HN_d⟩ : ∃ N, Hid (nDisk d = N) := ⟨_, rfl⟩
  have NL_d : N_d ≤ 100000000 := by rw [← unhide HN_d]; exact nDisk_le (unhide HS16)
  obtain ⟨N_bs, HN_bs⟩ : ∃ N, Hid (nByteS bs = N) := ⟨_, rfl⟩
  have NL_bs : N_bs ≤ 100000000 := by rw [← unhide HN_bs]; exact nByteS_le (unhide HS4)
  have HRS0 := hide (show SmallDisk (wrV d bs) from small_wrV (unhide HS16))
  obtain ⟨M_0, HM_0⟩ : ∃ N, Hid (nDisk (wrV d bs) = N) := ⟨_, rfl⟩
  have ML_0 : M_0 ≤ 100000000 := by rw [← unhide HM_0]; exact nDisk_le (unhide HRS0)
  obtain ⟨x17, x18, x19, x20⟩ := (unhide BX14).four
  go_wp2_with fail
  clear x17 x18 x19 x20
  refine (toDisk_kit d _ w9 (unhide HS16) ((unhide HR_d).up (unhide B13))).mono ?_
  rintro e w21 ⟨v22, S23, rfl, O24, L25, b26⟩
  have B27 := hide ((unhide B13).trans (b26.mono (unhide B13).size))
  clear B13
  have BX28 := hide ((unhide BX14).up b26)
  clear BX14
  have Z29 := hide (show w9.heap.size ≤ w21.heap.size from b26.size)
  clear b26
  have H30 := hide (unhide O24).lt
  obtain ⟨x31, x32, x33, x34⟩ := (unhide BX28).four
  go_wp2_with fail
  clear x31 x32 x33 x34
  refine (toByteS_kit bs _ w21 (unhide HS4) ((unhide HR_bs).up (unhide B27))).mono ?_
  rintro e w35 ⟨v36, S37, rfl, O38, L39, b40⟩
  have B41 := hide ((unhide B27).trans (b40.mono (unhide B27).size))
  clear B27
  have BX42 := hide ((unhide BX28).up b40)
  clear BX28
  have O43 := hide ((unhide O24).up b40)
  clear O24
  have Z44 := hide (show w21.heap.size ≤ w35.heap.size from b40.size)
  clear b40
  have H45 := hide (unhide O38).lt
  obtain ⟨x46, x47, x48, x49⟩ := (unhide BX42).four
  go_wp2_with fail
  clear x46 x47 x48 x49
  refine (spec_kit d _ bs _ w35 (unhide HS16) (unhide HS4) (unhide O43).rd (unhide O38).rd).mono ?_
  rintro e w50 ⟨v52, rfl, U53, b51⟩
  clear O43
  clear O38
  have B54 := hide ((unhide B41).trans (b51.mono (unhide B41).size))
  clear B41
  have BX55 := hide ((unhide BX42).up b51)
  clear BX42
  have Z56 := hide (show w35.heap.size ≤ w50.heap.size from b51.size)
  clear b51
  obtain ⟨q_w0_0, q_w0_1, q_w0_2, q_w0_3, q_w0_4, q_w0_5, q_w0_6, q_w0_7, rfl⟩ := (unhide U53).form
  have BU57 := hide (Below.refl w50.heap.size w50)
  obtain ⟨x58, x59, x60, x61⟩ := (unhide BX55).four
  have lt62 : w.heap.size < w50.heap.size := (unhide BX55).1
  obtain ⟨bx63, b64, zz65⟩ := boxNew4 w50 (.slice q_w0_0 q_w0_1 q_w0_2) (.slice q_w0_3 q_w0_4 q_w0_5) (.int .i64 q_w0_6) (.bool q_w0_7) 26
  go_wp2_with fail
  generalize w50.alloc (.cells #[.slice q_w0_0 q_w0_1 q_w0_2, .slice q_w0_3 q_w0_4 q_w0_5, .int .i64 q_w0_6, .bool q_w0_7] 26) = W66 at *
  have B68 := hide ((unhide B54).trans (b64.mono (unhide B54).size))
  clear B54
  have BU69 := hide ((unhide BU57).trans (b64.mono (unhide BU57).size))
  clear BU57
  have BX70 := hide ((unhide BX55).up b64)
  clear BX55
  have Z71 := hide (show w50.heap.size < W66.heap.size from zz65)
  have BX67 := hide bx63
  clear bx63 b64 zz65
  clear x58 x59 x60 x61 lt62
  refine (toDisk_kit d _ W66 (unhide HS16) ((unhide HR_d).up (unhide B68))).mono ?_
  rintro e w72 ⟨v73, S74, rfl, O75, L76, b77⟩
  have B78 := hide ((unhide B68).trans (b77.mono (unhide B68).size))
  clear B68
  have BU79 := hide ((unhide BU69).trans (b77.mono (unhide BU69).size))
  clear BU69
  have BX80 := hide ((unhide BX70).up b77)
  clear BX70
  have BX81 := hide ((unhide BX67).up b77)
  clear BX67
  have Z82 := hide (show W66.heap.size ≤ w72.heap.size from b77.size)
  clear b77
  have H83 := hide (unhide O75).lt
  obtain ⟨r_d0, r_d1, r_d2, r_d3, r_d4, r_d5, r_d6, r_d7, rfl⟩ := (unhide O75).rd.form
  obtain ⟨x84, x85, x86, x87⟩ := (unhide BX80).four
  obtain ⟨x88, x89, x90, x91⟩ := (unhide BX81).four
  have lt92 : w.heap.size < w72.heap.size := (unhide BX80).1
  have lt93 : w50.heap.size < w72.heap.size := (unhide BX81).1
  obtain ⟨bx94, b95, zz96⟩ := boxNew4 w72 (.slice r_d0 r_d1 r_d2) (.slice r_d3 r_d4 r_d5) (.int .i64 r_d6) (.bool r_d7) 26
  go_wp2_with fail
  generalize w72.alloc (.cells #[.slice r_d0 r_d1 r_d2, .slice r_d3 r_d4 r_d5, .int .i64 r_d6, .bool r_d7] 26) = W97 at *
  have B99 := hide ((unhide B78).trans (b95.mono (unhide B78).size))
  clear B78
  have BU100 := hide ((unhide BU79).trans (b95.mono (unhide BU79).size))
  clear BU79
  have BX101 := hide ((unhide BX80).up b95)
  clear BX80
  have BX102 := hide ((unhide BX81).up b95)
  clear BX81
  have O103 := hide ((unhide O75).up b95)
  clear O75
  have Z104 := hide (show w72.heap.size < W97.heap.size from zz96)
  have BX98 := hide bx94
  clear bx94 b95 zz96
  clear x84 x85 x86 x87 x88 x89 x90 x91 lt92 lt93
  refine (toByteS_kit bs _ W97 (unhide HS4) ((unhide HR_bs).up (unhide B99))).mono ?_
  rintro e w105 ⟨v106, S107, rfl, O108, L109, b110⟩
  have B111 := hide ((unhide B99).trans (b110.mono (unhide B99).size))
  clear B99
  have BU112 := hide ((unhide BU100).trans (b110.mono (unhide BU100).size))
  clear BU100
  have BX113 := hide ((unhide BX101).up b110)
  clear BX101
  have BX114 := hide ((unhide BX102).up b110)
  clear BX102
  have BX115 := hide ((unhide BX98).up b110)
  clear BX98
  have O116 := hide ((unhide O103).up b110)
  clear O103
  have Z117 := hide (show W97.heap.size ≤ w105.heap.size from b110.size)
  clear b110
  have H118 := hide (unhide O108).lt
  obtain ⟨r_bs0, r_bs1, r_bs2, rfl⟩ := (unhide O108).rd.form
  obtain ⟨x119, x120, x121, x122⟩ := (unhide BX113).four
  obtain ⟨x123, x124, x125, x126⟩ := (unhide BX114).four
  obtain ⟨x127, x128, x129, x130⟩ := (unhide BX115).four
  go_wp2_with fail
  clear x119 x120 x121 x122 x123 x124 x125 x126 x127 x128 x129 x130
  refine (impl_kit d _ bs _ w105 (unhide HS16) (unhide HS4) (unhide O116).rd (unhide O108).rd).mono ?_
  rintro e w131 ⟨v133, S134, rfl, O135, L136, b132⟩
  have B137 := hide ((unhide B111).trans (b132.mono (unhide B111).size))
  clear B111
  have BU138 := hide ((unhide BU112).trans (b132.mono (unhide BU112).size))
  clear BU112
  have BX139 := hide ((unhide BX113).up b132)
  clear BX113
  have BX140 := hide ((unhide BX114).up b132)
  clear BX114
  have BX141 := hide ((unhide BX115).up b132)
  clear BX115
  have O142 := hide ((unhide O116).up b132)
  clear O116
  have O143 := hide ((unhide O108).up b132)
  clear O108
  have Z144 := hide (show w105.heap.size ≤ w131.heap.size from b132.size)
  clear b132
  obtain ⟨q_g0_0, q_g0_1, q_g0_2, q_g0_3, q_g0_4, q_g0_5, q_g0_6, q_g0_7, rfl⟩ := (unhide O135).rd.form
  have H145 := hide (unhide O135).lt
  obtain ⟨x146, x147, x148, x149⟩ := (unhide BX139).four
  obtain ⟨x150, x151, x152, x153⟩ := (unhide BX140).four
  obtain ⟨x154, x155, x156, x157⟩ := (unhide BX141).four
  have lt158 : w.heap.size < w131.heap.size := (unhide BX139).1
  have lt159 : w50.heap.size < w131.heap.size := (unhide BX140).1
  have lt160 : w72.heap.size < w131.heap.size := (unhide BX141).1
  obtain ⟨bx161, b162, zz163⟩ := boxNew4 w131 (.slice q_g0_0 q_g0_1 q_g0_2) (.slice q_g0_3 q_g0_4 q_g0_5) (.int .i64 q_g0_6) (.bool q_g0_7) 26
  go_wp2_with fail
  generalize w131.alloc (.cells #[.slice q_g0_0 q_g0_1 q_g0_2, .slice q_g0_3 q_g0_4 q_g0_5, .int .i64 q_g0_6, .bool q_g0_7] 26) = W164 at *
  have B166 := hide ((unhide B137).trans (b162.mono (unhide B137).size))
  clear B137
  have BU167 := hide ((unhide BU138).trans (b162.mono (unhide BU138).size))
  clear BU138
  have BX168 := hide ((unhide BX139).up b162)
  clear BX139
  have BX169 := hide ((unhide BX140).up b162)
  clear BX140
  have BX170 := hide ((unhide BX141).up b162)
  clear BX141
  have O171 := hide ((unhide O142).up b162)
  clear O142
  have O172 := hide ((unhide O143).up b162)
  clear O143
  have O173 := hide ((unhide O135).up b162)
  clear O135
  have Z174 := hide (show w131.heap.size < W164.heap.size from zz163)
  have BX165 := hide bx161
  clear bx161 b162 zz163
  clear x146 x147 x148 x149 x150 x151 x152 x153 x154 x155 x156 x157 lt158 lt159 lt160
  refine (eqDisk_kit (wrV d bs) _ _ W164 (unhide HRS0) (unhide O173).rd ((unhide U53).up (unhide BU167))).mono ?_
  rintro e w175 ⟨rfl, b176⟩
  have B177 := hide ((unhide B166).trans (b176.mono (unhide B166).size))
  clear B166
  have BU178 := hide ((unhide BU167).trans (b176.mono (unhide BU167).size))
  clear BU167
  have BX179 := hide ((unhide BX168).up b176)
  clear BX168
  have BX180 := hide ((unhide BX169).up b176)
  clear BX169
  have BX181 := hide ((unhide BX170).up b176)
  clear BX170
  have BX182 := hide ((unhide BX165).up b176)
  clear BX165
  have O183 := hide ((unhide O171).up b176)
  clear O171
  have O184 := hide ((unhide O172).up b176)
  clear O172
  have O185 := hide ((unhide O173).up b176)
  clear O173
  have Z186 := hide (show W164.heap.size ≤ w175.heap.size from b176.size)
  clear b176
  obtain ⟨x187, x188, x189, x190⟩ := (unhide BX179).four
  obtain ⟨x191, x192, x193, x194⟩ := (unhide BX180).four
  obtain ⟨x195, x196, x197, x198⟩ := (unhide BX181).four
  obtain ⟨x199, x200, x201, x202⟩ := (unhide BX182).four
  go_wp2_with fail
  have KP203 := hide (show ∀ X : World, Below w175.heap.size w175 X → (fun (X : World) => (X.cell? ⟨w.heap.size, 0, none⟩ = some (.slice p_d0 p_d1 p_d2) ∧ X.cell? ⟨w.heap.size, 1, none⟩ = some (.slice p_d3 p_d4 p_d5) ∧ X.cell? ⟨w.heap.size, 2, none⟩ = some (.int .i64 p_d6) ∧ X.cell? ⟨w.heap.size, 3, none⟩ = some (.bool p_d7)) ∧ (X.cell? ⟨w72.heap.size, 0, none⟩ = some (.slice r_d0 r_d1 r_d2) ∧ X.cell? ⟨w72.heap.size, 1, none⟩ = some (.slice r_d3 r_d4 r_d5) ∧ X.cell? ⟨w72.heap.size, 2, none⟩ = some (.int .i64 r_d6) ∧ X.cell? ⟨w72.heap.size, 3, none⟩ = some (.bool r_d7)) ∧ Hid (Below w175.heap.size w175 X)) X from fun X b => ⟨((unhide BX179).up b).four, ((unhide BX181).up b).four, hide b⟩)
  have BD204 := hide ((Below.refl w175.heap.size w175).drew)
  go_region_held3 (fun (X : World) => (X.cell? ⟨w.heap.size, 0, none⟩ = some (.slice p_d0 p_d1 p_d2) ∧ X.cell? ⟨w.heap.size, 1, none⟩ = some (.slice p_d3 p_d4 p_d5) ∧ X.cell? ⟨w.heap.size, 2, none⟩ = some (.int .i64 p_d6) ∧ X.cell? ⟨w.heap.size, 3, none⟩ = some (.bool p_d7)) ∧ (X.cell? ⟨w72.heap.size, 0, none⟩ = some (.slice r_d0 r_d1 r_d2) ∧ X.cell? ⟨w72.heap.size, 1, none⟩ = some (.slice r_d3 r_d4 r_d5) ∧ X.cell? ⟨w72.heap.size, 2, none⟩ = some (.int .i64 r_d6) ∧ X.cell? ⟨w72.heap.size, 3, none⟩ = some (.bool r_d7)) ∧ Hid (Below w175.heap.size w175 X)) ((refine unhide KP203 _ ?_; exact unhide (by assumption)))
    (first
      | (go_at_call 9; have _t := BB211; refine (eqDisk_kit d _ _ _ (unhide HS16) ((unhide O183).up (unhide BB211)).rd (unhide O208).rd).mono ?_; rintro e w212 ⟨rfl, b213⟩; have BB214 := hide ((unhide BB211).trans (b213.mono (unhide BB211).size)); clear b213)
      | (go_at_call 6; refine (toDisk_kit d _ _ (unhide HS16) ((unhide HR_d).up ((unhide B177).trans ((unhide BD204).mono (unhide B177).size)))).mono ?_; rintro e w205 ⟨v206, S207, rfl, O208, L209, b210⟩; have BB211 := hide ((unhide BD204).trans (b210.mono (unhide BD204).size)); clear b210)
      | fail)
  clear x187 x188 x189 x190 x191 x192 x193 x194 x195 x196 x197 x198 x199 x200 x201 x202
  all_goals
    try clear _t
    have B215 := hide ((unhide B177).trans ((unhide BB214).mono (unhide B177).size))
    clear B177
    have BU216 := hide ((unhide BU178).trans ((unhide BB214).mono (unhide BU178).size))
    clear BU178
    have BX217 := hide ((unhide BX179).up (unhide BB214))
    clear BX179
    have BX218 := hide ((unhide BX180).up (unhide BB214))
    clear BX180
    have BX219 := hide ((unhide BX181).up (unhide BB214))
    clear BX181
    have BX220 := hide ((unhide BX182).up (unhide BB214))
    clear BX182
    have O221 := hide ((unhide O183).up (unhide BB214))
    clear O183
    have O222 := hide ((unhide O184).up (unhide BB214))
    clear O184
    have O223 := hide ((unhide O185).up (unhide BB214))
    clear O185
    have Z224 := hide (show w175.heap.size ≤ w212.heap.size from (unhide BB214).size)
    clear BB214 BB211 KP203 BD204 O208 L209
    obtain ⟨x225, x226, x227, x228⟩ := (unhide BX217).four
    obtain ⟨x229, x230, x231, x232⟩ := (unhide BX218).four
    obtain ⟨x233, x234, x235, x236⟩ := (unhide BX219).four
    obtain ⟨x237, x238, x239, x240⟩ := (unhide BX220).four
    go_wp2_with fail
    clear x225 x226 x227 x228 x229 x230 x231 x232 x233 x234 x235 x236 x237 x238 x239 x240
    refine (toByteS_kit bs _ w212 (unhide HS4) ((unhide HR_bs).up (unhide B215))).mono ?_
    rintro e w241 ⟨v242, S243, rfl, O244, L245, b246⟩
    have B247 := hide ((unhide B215).trans (b246.mono (unhide B215).size))
    clear B215
    have BU248 := hide ((unhide BU216).trans (b246.mono (unhide BU216).size))
    clear BU216
    have BX249 := hide ((unhide BX217).up b246)
    clear BX217
    have BX250 := hide ((unhide BX218).up b246)
    clear BX218
    have BX251 := hide ((unhide BX219).up b246)
    clear BX219
    have BX252 := hide ((unhide BX220).up b246)
    clear BX220
    have O253 := hide ((unhide O221).up b246)
    clear O221
    have O254 := hide ((unhide O222).up b246)
    clear O222
    have O255 := hide ((unhide O223).up b246)
    clear O223
    have Z256 := hide (show w212.heap.size ≤ w241.heap.size from b246.size)
    clear b246
    have H257 := hide (unhide O244).lt
    obtain ⟨x258, x259, x260, x261⟩ := (unhide BX249).four
    obtain ⟨x262, x263, x264, x265⟩ := (unhide BX250).four
    obtain ⟨x266, x267, x268, x269⟩ := (unhide BX251).four
    obtain ⟨x270, x271, x272, x273⟩ := (unhide BX252).four
    go_wp2_with fail
    clear x258 x259 x260 x261 x262 x263 x264 x265 x266 x267 x268 x269 x270 x271 x272 x273
    refine (eqByteS_kit bs _ _ w241 (unhide HS4) (unhide O254).rd (unhide O244).rd).mono ?_
    rintro e w274 ⟨rfl, b275⟩
    have B276 := hide ((unhide B247).trans (b275.mono (unhide B247).size))
    clear B247
    have BU277 := hide ((unhide BU248).trans (b275.mono (unhide BU248).size))
    clear BU248
    have BX278 := hide ((unhide BX249).up b275)
    clear BX249
    have BX279 := hide ((unhide BX250).up b275)
    clear BX250
    have BX280 := hide ((unhide BX251).up b275)
    clear BX251
    have BX281 := hide ((unhide BX252).up b275)
    clear BX252
    have O282 := hide ((unhide O253).up b275)
    clear O253
    have O283 := hide ((unhide O254).up b275)
    clear O254
    have O284 := hide ((unhide O255).up b275)
    clear O255
    have Z285 := hide (show w241.heap.size ≤ w274.heap.size from b275.size)
    clear b275
    obtain ⟨x286, x287, x288, x289⟩ := (unhide BX278).four
    obtain ⟨x290, x291, x292, x293⟩ := (unhide BX279).four
    obtain ⟨x294, x295, x296, x297⟩ := (unhide BX280).four
    obtain ⟨x298, x299, x300, x301⟩ := (unhide BX281).four
    go_wp2_with fail
    clear x286 x287 x288 x289 x290 x291 x292 x293 x294 x295 x296 x297 x298 x299 x300 x301
    refine (markDisk_kit S74 (d) _ w274 (1) N_d (1) (by omega) (unhide HN_d) (by omega) (unhide HS16) (unhide O282)).mono ?_
    rintro e w302 ⟨rfl, P303⟩
    have t304 := (unhide P303).2
    have B305 := hide ((unhide B276).trans (t304.below (unhide B276).size (fun k hk => by have z := unhide L76 k hk; have y := unhide H83 k hk; have z0 := unhide Z8; have z1 := unhide Z15; have z2 := unhide Z29; have z3 := unhide Z44; have z4 := unhide Z56; have z5 := unhide Z71; have z6 := unhide Z82; have z7 := unhide Z104; have z8 := unhide Z117; have z9 := unhide Z144; have z10 := unhide Z174; have z11 := unhide Z186; have z12 := unhide Z224; have z13 := unhide Z256; have z14 := unhide Z285; omega)))
    clear B276
    have BU306 := hide ((unhide BU277).trans (t304.below (unhide BU277).size (fun k hk => by have z := unhide L76 k hk; have y := unhide H83 k hk; have z0 := unhide Z8; have z1 := unhide Z15; have z2 := unhide Z29; have z3 := unhide Z44; have z4 := unhide Z56; have z5 := unhide Z71; have z6 := unhide Z82; have z7 := unhide Z104; have z8 := unhide Z117; have z9 := unhide Z144; have z10 := unhide Z174; have z11 := unhide Z186; have z12 := unhide Z224; have z13 := unhide Z256; have z14 := unhide Z285; omega)))
    clear BU277
    have BX307 := hide ((unhide BX278).turn t304 (fun hk => by have z := unhide L76 _ hk; have y := unhide H83 _ hk; have z0 := unhide Z8; have z1 := unhide Z15; have z2 := unhide Z29; have z3 := unhide Z44; have z4 := unhide Z56; have z5 := unhide Z71; have z6 := unhide Z82; have z7 := unhide Z104; have z8 := unhide Z117; have z9 := unhide Z144; have z10 := unhide Z174; have z11 := unhide Z186; have z12 := unhide Z224; have z13 := unhide Z256; have z14 := unhide Z285; omega))
    clear BX278
    have BX308 := hide ((unhide BX279).turn t304 (fun hk => by have z := unhide L76 _ hk; have y := unhide H83 _ hk; have z0 := unhide Z8; have z1 := unhide Z15; have z2 := unhide Z29; have z3 := unhide Z44; have z4 := unhide Z56; have z5 := unhide Z71; have z6 := unhide Z82; have z7 := unhide Z104; have z8 := unhide Z117; have z9 := unhide Z144; have z10 := unhide Z174; have z11 := unhide Z186; have z12 := unhide Z224; have z13 := unhide Z256; have z14 := unhide Z285; omega))
    clear BX279
    have BX309 := hide ((unhide BX280).turn t304 (fun hk => by have z := unhide L76 _ hk; have y := unhide H83 _ hk; have z0 := unhide Z8; have z1 := unhide Z15; have z2 := unhide Z29; have z3 := unhide Z44; have z4 := unhide Z56; have z5 := unhide Z71; have z6 := unhide Z82; have z7 := unhide Z104; have z8 := unhide Z117; have z9 := unhide Z144; have z10 := unhide Z174; have z11 := unhide Z186; have z12 := unhide Z224; have z13 := unhide Z256; have z14 := unhide Z285; omega))
    clear BX280
    have BX310 := hide ((unhide BX281).turn t304 (fun hk => by have z := unhide L76 _ hk; have y := unhide H83 _ hk; have z0 := unhide Z8; have z1 := unhide Z15; have z2 := unhide Z29; have z3 := unhide Z44; have z4 := unhide Z56; have z5 := unhide Z71; have z6 := unhide Z82; have z7 := unhide Z104; have z8 := unhide Z117; have z9 := unhide Z144; have z10 := unhide Z174; have z11 := unhide Z186; have z12 := unhide Z224; have z13 := unhide Z256; have z14 := unhide Z285; omega))
    clear BX281
    have O311 := hide ((unhide O283).turn t304 (fun k hk hm => by have z := unhide L76 k hm; have y := unhide H83 k hm; have u := unhide L109 k hk; have v := unhide H118 k hk; have z0 := unhide Z8; have z1 := unhide Z15; have z2 := unhide Z29; have z3 := unhide Z44; have z4 := unhide Z56; have z5 := unhide Z71; have z6 := unhide Z82; have z7 := unhide Z104; have z8 := unhide Z117; have z9 := unhide Z144; have z10 := unhide Z174; have z11 := unhide Z186; have z12 := unhide Z224; have z13 := unhide Z256; have z14 := unhide Z285; omega))
    clear O283
    have O312 := hide ((unhide O284).turn t304 (fun k hk hm => by have z := unhide L76 k hm; have y := unhide H83 k hm; have u := unhide L136 k hk; have v := unhide H145 k hk; have z0 := unhide Z8; have z1 := unhide Z15; have z2 := unhide Z29; have z3 := unhide Z44; have z4 := unhide Z56; have z5 := unhide Z71; have z6 := unhide Z82; have z7 := unhide Z104; have z8 := unhide Z117; have z9 := unhide Z144; have z10 := unhide Z174; have z11 := unhide Z186; have z12 := unhide Z224; have z13 := unhide Z256; have z14 := unhide Z285; omega))
    clear O284
    have Z313 := hide (show w274.heap.size ≤ w302.heap.size from t304.size)
    have O314 := hide (unhide P303).1
    clear P303 t304
    have nf314 : ¬ (1 + (N_d : Int)) < 0 := by omega
    obtain ⟨x315, x316, x317, x318⟩ := (unhide BX307).four
    obtain ⟨x319, x320, x321, x322⟩ := (unhide BX308).four
    obtain ⟨x323, x324, x325, x326⟩ := (unhide BX309).four
    obtain ⟨x327, x328, x329, x330⟩ := (unhide BX310).four
    go_wp2_with fail
    clear x315 x316 x317 x318 x319 x320 x321 x322 x323 x324 x325 x326 x327 x328 x329 x330
    refine (markByteS_kit S107 (bs) _ w302 (1 + N_d) N_bs (1 + (N_d : Int)) (by omega) (unhide HN_bs) (by omega) (unhide HS4) (unhide O311)).mono ?_
    rintro e w331 ⟨rfl, P332⟩
    have t333 := (unhide P332).2
    have B334 := hide ((unhide B305).trans (t333.below (unhide B305).size (fun k hk => by have z := unhide L109 k hk; have y := unhide H118 k hk; have z0 := unhide Z8; have z1 := unhide Z15; have z2 := unhide Z29; have z3 := unhide Z44; have z4 := unhide Z56; have z5 := unhide Z71; have z6 := unhide Z82; have z7 := unhide Z104; have z8 := unhide Z117; have z9 := unhide Z144; have z10 := unhide Z174; have z11 := unhide Z186; have z12 := unhide Z224; have z13 := unhide Z256; have z14 := unhide Z285; have z15 := unhide Z313; omega)))
    clear B305
    have BU335 := hide ((unhide BU306).trans (t333.below (unhide BU306).size (fun k hk => by have z := unhide L109 k hk; have y := unhide H118 k hk; have z0 := unhide Z8; have z1 := unhide Z15; have z2 := unhide Z29; have z3 := unhide Z44; have z4 := unhide Z56; have z5 := unhide Z71; have z6 := unhide Z82; have z7 := unhide Z104; have z8 := unhide Z117; have z9 := unhide Z144; have z10 := unhide Z174; have z11 := unhide Z186; have z12 := unhide Z224; have z13 := unhide Z256; have z14 := unhide Z285; have z15 := unhide Z313; omega)))
    clear BU306
    have BX336 := hide ((unhide BX307).turn t333 (fun hk => by have z := unhide L109 _ hk; have y := unhide H118 _ hk; have z0 := unhide Z8; have z1 := unhide Z15; have z2 := unhide Z29; have z3 := unhide Z44; have z4 := unhide Z56; have z5 := unhide Z71; have z6 := unhide Z82; have z7 := unhide Z104; have z8 := unhide Z117; have z9 := unhide Z144; have z10 := unhide Z174; have z11 := unhide Z186; have z12 := unhide Z224; have z13 := unhide Z256; have z14 := unhide Z285; have z15 := unhide Z313; omega))
    clear BX307
    have BX337 := hide ((unhide BX308).turn t333 (fun hk => by have z := unhide L109 _ hk; have y := unhide H118 _ hk; have z0 := unhide Z8; have z1 := unhide Z15; have z2 := unhide Z29; have z3 := unhide Z44; have z4 := unhide Z56; have z5 := unhide Z71; have z6 := unhide Z82; have z7 := unhide Z104; have z8 := unhide Z117; have z9 := unhide Z144; have z10 := unhide Z174; have z11 := unhide Z186; have z12 := unhide Z224; have z13 := unhide Z256; have z14 := unhide Z285; have z15 := unhide Z313; omega))
    clear BX308
    have BX338 := hide ((unhide BX309).turn t333 (fun hk => by have z := unhide L109 _ hk; have y := unhide H118 _ hk; have z0 := unhide Z8; have z1 := unhide Z15; have z2 := unhide Z29; have z3 := unhide Z44; have z4 := unhide Z56; have z5 := unhide Z71; have z6 := unhide Z82; have z7 := unhide Z104; have z8 := unhide Z117; have z9 := unhide Z144; have z10 := unhide Z174; have z11 := unhide Z186; have z12 := unhide Z224; have z13 := unhide Z256; have z14 := unhide Z285; have z15 := unhide Z313; omega))
    clear BX309
    have BX339 := hide ((unhide BX310).turn t333 (fun hk => by have z := unhide L109 _ hk; have y := unhide H118 _ hk; have z0 := unhide Z8; have z1 := unhide Z15; have z2 := unhide Z29; have z3 := unhide Z44; have z4 := unhide Z56; have z5 := unhide Z71; have z6 := unhide Z82; have z7 := unhide Z104; have z8 := unhide Z117; have z9 := unhide Z144; have z10 := unhide Z174; have z11 := unhide Z186; have z12 := unhide Z224; have z13 := unhide Z256; have z14 := unhide Z285; have z15 := unhide Z313; omega))
    clear BX310
    have O340 := hide ((unhide O314).turn t333 (fun k hk hm => by have z := unhide L109 k hm; have y := unhide H118 k hm; have u := unhide L76 k hk; have v := unhide H83 k hk; have z0 := unhide Z8; have z1 := unhide Z15; have z2 := unhide Z29; have z3 := unhide Z44; have z4 := unhide Z56; have z5 := unhide Z71; have z6 := unhide Z82; have z7 := unhide Z104; have z8 := unhide Z117; have z9 := unhide Z144; have z10 := unhide Z174; have z11 := unhide Z186; have z12 := unhide Z224; have z13 := unhide Z256; have z14 := unhide Z285; have z15 := unhide Z313; omega))
    clear O314
    have O341 := hide ((unhide O312).turn t333 (fun k hk hm => by have z := unhide L109 k hm; have y := unhide H118 k hm; have u := unhide L136 k hk; have v := unhide H145 k hk; have z0 := unhide Z8; have z1 := unhide Z15; have z2 := unhide Z29; have z3 := unhide Z44; have z4 := unhide Z56; have z5 := unhide Z71; have z6 := unhide Z82; have z7 := unhide Z104; have z8 := unhide Z117; have z9 := unhide Z144; have z10 := unhide Z174; have z11 := unhide Z186; have z12 := unhide Z224; have z13 := unhide Z256; have z14 := unhide Z285; have z15 := unhide Z313; omega))
    clear O312
    have Z342 := hide (show w302.heap.size ≤ w331.heap.size from t333.size)
    have O343 := hide (unhide P332).1
    clear P332 t333
    have nf343 : ¬ (1 + (N_d : Int) + (N_bs : Int)) < 0 := by omega
    obtain ⟨x344, x345, x346, x347⟩ := (unhide BX336).four
    obtain ⟨x348, x349, x350, x351⟩ := (unhide BX337).four
    obtain ⟨x352, x353, x354, x355⟩ := (unhide BX338).four
    obtain ⟨x356, x357, x358, x359⟩ := (unhide BX339).four
    go_wp2_with fail
    clear x344 x345 x346 x347 x348 x349 x350 x351 x352 x353 x354 x355 x356 x357 x358 x359
    refine (eqDisk_kit (wrV d bs) _ _ w331 (unhide HRS0) (unhide O341).rd ((unhide U53).up (unhide BU335))).mono ?_
    rintro e w360 ⟨rfl, b361⟩
    have B362 := hide ((unhide B334).trans (b361.mono (unhide B334).size))
    clear B334
    have BU363 := hide ((unhide BU335).trans (b361.mono (unhide BU335).size))
    clear BU335
    have BX364 := hide ((unhide BX336).up b361)
    clear BX336
    have BX365 := hide ((unhide BX337).up b361)
    clear BX337
    have BX366 := hide ((unhide BX338).up b361)
    clear BX338
    have BX367 := hide ((unhide BX339).up b361)
    clear BX339
    have O368 := hide ((unhide O340).up b361)
    clear O340
    have O369 := hide ((unhide O343).up b361)
    clear O343
    have O370 := hide ((unhide O341).up b361)
    clear O341
    have Z371 := hide (show w331.heap.size ≤ w360.heap.size from b361.size)
    clear b361
    obtain ⟨x372, x373, x374, x375⟩ := (unhide BX364).four
    obtain ⟨x376, x377, x378, x379⟩ := (unhide BX365).four
    obtain ⟨x380, x381, x382, x383⟩ := (unhide BX366).four
    obtain ⟨x384, x385, x386, x387⟩ := (unhide BX367).four
    go_wp2_with fail
    clear x372 x373 x374 x375 x376 x377 x378 x379 x380 x381 x382 x383 x384 x385 x386 x387
    refine (markDisk_kit S134 (wrV d bs) _ w360 (1) M_0 (1) (by omega) (unhide HM_0) (by omega) (unhide HRS0) (unhide O370)).mono ?_
    rintro e w388 ⟨rfl, P389⟩
    have t390 := (unhide P389).2
    have B391 := hide ((unhide B362).trans (t390.below (unhide B362).size (fun k hk => by have z := unhide L136 k hk; have y := unhide H145 k hk; have z0 := unhide Z8; have z1 := unhide Z15; have z2 := unhide Z29; have z3 := unhide Z44; have z4 := unhide Z56; have z5 := unhide Z71; have z6 := unhide Z82; have z7 := unhide Z104; have z8 := unhide Z117; have z9 := unhide Z144; have z10 := unhide Z174; have z11 := unhide Z186; have z12 := unhide Z224; have z13 := unhide Z256; have z14 := unhide Z285; have z15 := unhide Z313; have z16 := unhide Z342; have z17 := unhide Z371; omega)))
    clear B362
    have BU392 := hide ((unhide BU363).trans (t390.below (unhide BU363).size (fun k hk => by have z := unhide L136 k hk; have y := unhide H145 k hk; have z0 := unhide Z8; have z1 := unhide Z15; have z2 := unhide Z29; have z3 := unhide Z44; have z4 := unhide Z56; have z5 := unhide Z71; have z6 := unhide Z82; have z7 := unhide Z104; have z8 := unhide Z117; have z9 := unhide Z144; have z10 := unhide Z174; have z11 := unhide Z186; have z12 := unhide Z224; have z13 := unhide Z256; have z14 := unhide Z285; have z15 := unhide Z313; have z16 := unhide Z342; have z17 := unhide Z371; omega)))
    clear BU363
    have BX393 := hide ((unhide BX364).turn t390 (fun hk => by have z := unhide L136 _ hk; have y := unhide H145 _ hk; have z0 := unhide Z8; have z1 := unhide Z15; have z2 := unhide Z29; have z3 := unhide Z44; have z4 := unhide Z56; have z5 := unhide Z71; have z6 := unhide Z82; have z7 := unhide Z104; have z8 := unhide Z117; have z9 := unhide Z144; have z10 := unhide Z174; have z11 := unhide Z186; have z12 := unhide Z224; have z13 := unhide Z256; have z14 := unhide Z285; have z15 := unhide Z313; have z16 := unhide Z342; have z17 := unhide Z371; omega))
    clear BX364
    have BX394 := hide ((unhide BX365).turn t390 (fun hk => by have z := unhide L136 _ hk; have y := unhide H145 _ hk; have z0 := unhide Z8; have z1 := unhide Z15; have z2 := unhide Z29; have z3 := unhide Z44; have z4 := unhide Z56; have z5 := unhide Z71; have z6 := unhide Z82; have z7 := unhide Z104; have z8 := unhide Z117; have z9 := unhide Z144; have z10 := unhide Z174; have z11 := unhide Z186; have z12 := unhide Z224; have z13 := unhide Z256; have z14 := unhide Z285; have z15 := unhide Z313; have z16 := unhide Z342; have z17 := unhide Z371; omega))
    clear BX365
    have BX395 := hide ((unhide BX366).turn t390 (fun hk => by have z := unhide L136 _ hk; have y := unhide H145 _ hk; have z0 := unhide Z8; have z1 := unhide Z15; have z2 := unhide Z29; have z3 := unhide Z44; have z4 := unhide Z56; have z5 := unhide Z71; have z6 := unhide Z82; have z7 := unhide Z104; have z8 := unhide Z117; have z9 := unhide Z144; have z10 := unhide Z174; have z11 := unhide Z186; have z12 := unhide Z224; have z13 := unhide Z256; have z14 := unhide Z285; have z15 := unhide Z313; have z16 := unhide Z342; have z17 := unhide Z371; omega))
    clear BX366
    have BX396 := hide ((unhide BX367).turn t390 (fun hk => by have z := unhide L136 _ hk; have y := unhide H145 _ hk; have z0 := unhide Z8; have z1 := unhide Z15; have z2 := unhide Z29; have z3 := unhide Z44; have z4 := unhide Z56; have z5 := unhide Z71; have z6 := unhide Z82; have z7 := unhide Z104; have z8 := unhide Z117; have z9 := unhide Z144; have z10 := unhide Z174; have z11 := unhide Z186; have z12 := unhide Z224; have z13 := unhide Z256; have z14 := unhide Z285; have z15 := unhide Z313; have z16 := unhide Z342; have z17 := unhide Z371; omega))
    clear BX367
    have O397 := hide ((unhide O368).turn t390 (fun k hk hm => by have z := unhide L136 k hm; have y := unhide H145 k hm; have u := unhide L76 k hk; have v := unhide H83 k hk; have z0 := unhide Z8; have z1 := unhide Z15; have z2 := unhide Z29; have z3 := unhide Z44; have z4 := unhide Z56; have z5 := unhide Z71; have z6 := unhide Z82; have z7 := unhide Z104; have z8 := unhide Z117; have z9 := unhide Z144; have z10 := unhide Z174; have z11 := unhide Z186; have z12 := unhide Z224; have z13 := unhide Z256; have z14 := unhide Z285; have z15 := unhide Z313; have z16 := unhide Z342; have z17 := unhide Z371; omega))
    clear O368
    have O398 := hide ((unhide O369).turn t390 (fun k hk hm => by have z := unhide L136 k hm; have y := unhide H145 k hm; have u := unhide L109 k hk; have v := unhide H118 k hk; have z0 := unhide Z8; have z1 := unhide Z15; have z2 := unhide Z29; have z3 := unhide Z44; have z4 := unhide Z56; have z5 := unhide Z71; have z6 := unhide Z82; have z7 := unhide Z104; have z8 := unhide Z117; have z9 := unhide Z144; have z10 := unhide Z174; have z11 := unhide Z186; have z12 := unhide Z224; have z13 := unhide Z256; have z14 := unhide Z285; have z15 := unhide Z313; have z16 := unhide Z342; have z17 := unhide Z371; omega))
    clear O369
    have Z399 := hide (show w360.heap.size ≤ w388.heap.size from t390.size)
    have O400 := hide (unhide P389).1
    clear P389 t390
    have nf400 : ¬ (1 + (M_0 : Int)) < 0 := by omega
    obtain ⟨x401, x402, x403, x404⟩ := (unhide BX393).four
    obtain ⟨x405, x406, x407, x408⟩ := (unhide BX394).four
    obtain ⟨x409, x410, x411, x412⟩ := (unhide BX395).four
    obtain ⟨x413, x414, x415, x416⟩ := (unhide BX396).four
    go_wp2_with fail
    clear x401 x402 x403 x404 x405 x406 x407 x408 x409 x410 x411 x412 x413 x414 x415 x416
    refine (heldDisk_kit (wrV d bs) _ w388 (1) M_0 (1) (by omega) (unhide HM_0) (by omega) (unhide HRS0) (unhide O400).rd).mono ?_
    rintro e w417 ⟨rfl, b418⟩
    have B419 := hide ((unhide B391).trans (b418.mono (unhide B391).size))
    clear B391
    have BU420 := hide ((unhide BU392).trans (b418.mono (unhide BU392).size))
    clear BU392
    have BX421 := hide ((unhide BX393).up b418)
    clear BX393
    have BX422 := hide ((unhide BX394).up b418)
    clear BX394
    have BX423 := hide ((unhide BX395).up b418)
    clear BX395
    have BX424 := hide ((unhide BX396).up b418)
    clear BX396
    have O425 := hide ((unhide O397).up b418)
    clear O397
    have O426 := hide ((unhide O398).up b418)
    clear O398
    have O427 := hide ((unhide O400).up b418)
    clear O400
    have Z428 := hide (show w388.heap.size ≤ w417.heap.size from b418.size)
    clear b418
    obtain ⟨x429, x430, x431, x432⟩ := (unhide BX421).four
    obtain ⟨x433, x434, x435, x436⟩ := (unhide BX422).four
    obtain ⟨x437, x438, x439, x440⟩ := (unhide BX423).four
    obtain ⟨x441, x442, x443, x444⟩ := (unhide BX424).four
    go_wp2_with fail
    clear x429 x430 x431 x432 x433 x434 x435 x436 x437 x438 x439 x440 x441 x442 x443 x444
    refine (toDisk_kit d _ w417 (unhide HS16) ((unhide HR_d).up (unhide B419))).mono ?_
    rintro e w445 ⟨v446, S447, rfl, O448, L449, b450⟩
    have B451 := hide ((unhide B419).trans (b450.mono (unhide B419).size))
    clear B419
    have BU452 := hide ((unhide BU420).trans (b450.mono (unhide BU420).size))
    clear BU420
    have BX453 := hide ((unhide BX421).up b450)
    clear BX421
    have BX454 := hide ((unhide BX422).up b450)
    clear BX422
    have BX455 := hide ((unhide BX423).up b450)
    clear BX423
    have BX456 := hide ((unhide BX424).up b450)
    clear BX424
    have O457 := hide ((unhide O425).up b450)
    clear O425
    have O458 := hide ((unhide O426).up b450)
    clear O426
    have O459 := hide ((unhide O427).up b450)
    clear O427
    have Z460 := hide (show w417.heap.size ≤ w445.heap.size from b450.size)
    clear b450
    have H461 := hide (unhide O448).lt
    obtain ⟨x462, x463, x464, x465⟩ := (unhide BX453).four
    obtain ⟨x466, x467, x468, x469⟩ := (unhide BX454).four
    obtain ⟨x470, x471, x472, x473⟩ := (unhide BX455).four
    obtain ⟨x474, x475, x476, x477⟩ := (unhide BX456).four
    go_wp2_with fail
    clear x462 x463 x464 x465 x466 x467 x468 x469 x470 x471 x472 x473 x474 x475 x476 x477
    refine (toByteS_kit bs _ w445 (unhide HS4) ((unhide HR_bs).up (unhide B451))).mono ?_
    rintro e w478 ⟨v479, S480, rfl, O481, L482, b483⟩
    have B484 := hide ((unhide B451).trans (b483.mono (unhide B451).size))
    clear B451
    have BU485 := hide ((unhide BU452).trans (b483.mono (unhide BU452).size))
    clear BU452
    have BX486 := hide ((unhide BX453).up b483)
    clear BX453
    have BX487 := hide ((unhide BX454).up b483)
    clear BX454
    have BX488 := hide ((unhide BX455).up b483)
    clear BX455
    have BX489 := hide ((unhide BX456).up b483)
    clear BX456
    have O490 := hide ((unhide O457).up b483)
    clear O457
    have O491 := hide ((unhide O458).up b483)
    clear O458
    have O492 := hide ((unhide O459).up b483)
    clear O459
    have O493 := hide ((unhide O448).up b483)
    clear O448
    have Z494 := hide (show w445.heap.size ≤ w478.heap.size from b483.size)
    clear b483
    have H495 := hide (unhide O481).lt
    obtain ⟨x496, x497, x498, x499⟩ := (unhide BX486).four
    obtain ⟨x500, x501, x502, x503⟩ := (unhide BX487).four
    obtain ⟨x504, x505, x506, x507⟩ := (unhide BX488).four
    obtain ⟨x508, x509, x510, x511⟩ := (unhide BX489).four
    go_wp2_with fail
    clear x496 x497 x498 x499 x500 x501 x502 x503 x504 x505 x506 x507 x508 x509 x510 x511
    refine (impl_kit d _ bs _ w478 (unhide HS16) (unhide HS4) (unhide O493).rd (unhide O481).rd).mono ?_
    rintro e w512 ⟨v514, S515, rfl, O516, L517, b513⟩
    clear O493
    clear O481
    have B518 := hide ((unhide B484).trans (b513.mono (unhide B484).size))
    clear B484
    have BU519 := hide ((unhide BU485).trans (b513.mono (unhide BU485).size))
    clear BU485
    have BX520 := hide ((unhide BX486).up b513)
    clear BX486
    have BX521 := hide ((unhide BX487).up b513)
    clear BX487
    have BX522 := hide ((unhide BX488).up b513)
    clear BX488
    have BX523 := hide ((unhide BX489).up b513)
    clear BX489
    have O524 := hide ((unhide O490).up b513)
    clear O490
    have O525 := hide ((unhide O491).up b513)
    clear O491
    have O526 := hide ((unhide O492).up b513)
    clear O492
    have Z527 := hide (show w478.heap.size ≤ w512.heap.size from b513.size)
    clear b513
    obtain ⟨q_h0_0, q_h0_1, q_h0_2, q_h0_3, q_h0_4, q_h0_5, q_h0_6, q_h0_7, rfl⟩ := (unhide O516).rd.form
    have H528 := hide (unhide O516).lt
    obtain ⟨x529, x530, x531, x532⟩ := (unhide BX520).four
    obtain ⟨x533, x534, x535, x536⟩ := (unhide BX521).four
    obtain ⟨x537, x538, x539, x540⟩ := (unhide BX522).four
    obtain ⟨x541, x542, x543, x544⟩ := (unhide BX523).four
    have lt545 : w.heap.size < w512.heap.size := (unhide BX520).1
    have lt546 : w50.heap.size < w512.heap.size := (unhide BX521).1
    have lt547 : w72.heap.size < w512.heap.size := (unhide BX522).1
    have lt548 : w131.heap.size < w512.heap.size := (unhide BX523).1
    obtain ⟨bx549, b550, zz551⟩ := boxNew4 w512 (.slice q_h0_0 q_h0_1 q_h0_2) (.slice q_h0_3 q_h0_4 q_h0_5) (.int .i64 q_h0_6) (.bool q_h0_7) 26
    go_wp2_with fail
    generalize w512.alloc (.cells #[.slice q_h0_0 q_h0_1 q_h0_2, .slice q_h0_3 q_h0_4 q_h0_5, .int .i64 q_h0_6, .bool q_h0_7] 26) = W552 at *
    have B554 := hide ((unhide B518).trans (b550.mono (unhide B518).size))
    clear B518
    have BU555 := hide ((unhide BU519).trans (b550.mono (unhide BU519).size))
    clear BU519
    have BX556 := hide ((unhide BX520).up b550)
    clear BX520
    have BX557 := hide ((unhide BX521).up b550)
    clear BX521
    have BX558 := hide ((unhide BX522).up b550)
    clear BX522
    have BX559 := hide ((unhide BX523).up b550)
    clear BX523
    have O560 := hide ((unhide O524).up b550)
    clear O524
    have O561 := hide ((unhide O525).up b550)
    clear O525
    have O562 := hide ((unhide O526).up b550)
    clear O526
    have O563 := hide ((unhide O516).up b550)
    clear O516
    have Z564 := hide (show w512.heap.size < W552.heap.size from zz551)
    have BX553 := hide bx549
    clear bx549 b550 zz551
    clear x529 x530 x531 x532 x533 x534 x535 x536 x537 x538 x539 x540 x541 x542 x543 x544 lt545 lt546 lt547 lt548
    refine (eqDisk_kit (wrV d bs) _ _ W552 (unhide HRS0) (unhide O563).rd ((unhide U53).up (unhide BU555))).mono ?_
    rintro e w565 ⟨rfl, b566⟩
    have B567 := hide ((unhide B554).trans (b566.mono (unhide B554).size))
    clear B554
    have BU568 := hide ((unhide BU555).trans (b566.mono (unhide BU555).size))
    clear BU555
    have BX569 := hide ((unhide BX556).up b566)
    clear BX556
    have BX570 := hide ((unhide BX557).up b566)
    clear BX557
    have BX571 := hide ((unhide BX558).up b566)
    clear BX558
    have BX572 := hide ((unhide BX559).up b566)
    clear BX559
    have BX573 := hide ((unhide BX553).up b566)
    clear BX553
    have O574 := hide ((unhide O560).up b566)
    clear O560
    have O575 := hide ((unhide O561).up b566)
    clear O561
    have O576 := hide ((unhide O562).up b566)
    clear O562
    have O577 := hide ((unhide O563).up b566)
    clear O563
    have Z578 := hide (show W552.heap.size ≤ w565.heap.size from b566.size)
    clear b566
    obtain ⟨x579, x580, x581, x582⟩ := (unhide BX569).four
    obtain ⟨x583, x584, x585, x586⟩ := (unhide BX570).four
    obtain ⟨x587, x588, x589, x590⟩ := (unhide BX571).four
    obtain ⟨x591, x592, x593, x594⟩ := (unhide BX572).four
    obtain ⟨x595, x596, x597, x598⟩ := (unhide BX573).four
    go_wp2_with fail
    clear x579 x580 x581 x582 x583 x584 x585 x586 x587 x588 x589 x590 x591 x592 x593 x594 x595 x596 x597 x598
    refine (heldDisk_kit (wrV d bs) _ w565 (1) M_0 (1) (by omega) (unhide HM_0) (by omega) (unhide HRS0) (unhide O576).rd).mono ?_
    rintro e w599 ⟨rfl, b600⟩
    have B601 := hide ((unhide B567).trans (b600.mono (unhide B567).size))
    clear B567
    have BU602 := hide ((unhide BU568).trans (b600.mono (unhide BU568).size))
    clear BU568
    have BX603 := hide ((unhide BX569).up b600)
    clear BX569
    have BX604 := hide ((unhide BX570).up b600)
    clear BX570
    have BX605 := hide ((unhide BX571).up b600)
    clear BX571
    have BX606 := hide ((unhide BX572).up b600)
    clear BX572
    have BX607 := hide ((unhide BX573).up b600)
    clear BX573
    have O608 := hide ((unhide O574).up b600)
    clear O574
    have O609 := hide ((unhide O575).up b600)
    clear O575
    have O610 := hide ((unhide O576).up b600)
    clear O576
    have O611 := hide ((unhide O577).up b600)
    clear O577
    have Z612 := hide (show w565.heap.size ≤ w599.heap.size from b600.size)
    clear b600
    obtain ⟨x613, x614, x615, x616⟩ := (unhide BX603).four
    obtain ⟨x617, x618, x619, x620⟩ := (unhide BX604).four
    obtain ⟨x621, x622, x623, x624⟩ := (unhide BX605).four
    obtain ⟨x625, x626, x627, x628⟩ := (unhide BX606).four
    obtain ⟨x629, x630, x631, x632⟩ := (unhide BX607).four
    go_wp2_with fail
    go_ret
    exact ⟨rfl, unhide B601⟩

theorem own : ownKnob Try.prog.godebug = none := by kernel_rfl
theorem laidOut : laidOutB Try.prog = true := by kernel_rfl

set_option maxRecDepth 100000 in
theorem lifted (os : Os) (started : os.Started) (H : Type) (enc : TypeId × Value → H) :
    ReturnsInHanded {} Try.checked os 3 .any (Rows.fnExactDiskWriteSpec.pre6 enc Try.prog Try.f3 Rows.fnExactDiskWriteRow.domain false) (Rows.fnExactDiskWriteSpec.post enc Try.prog Try.f3 false true false false) := by
  refine returnsInHanded_of_change (C := Try.checked) own started (by kernel_rfl) Try.func3
    (ChangeSpec.witness6 (enc := enc) (C := Try.checked) false ⟨#[], #[.agg #[.slice none 0 0, .slice none 0 0, .int .i64 0, .bool false], .slice none 0 0], []⟩ 8 (by kernel_rfl) (by kernel_rfl) (by kernel_rfl) (by kernel_rfl)) ?_
  intro W base args ds gs before hval0 hW hcnd _
  have hval : ∀ (j : Nat) t v, Try.f3.params[j]? = some t → args[j]? = some v → Value.okWide Try.prog W .any base t v := hval0
  have hW' := hW
  obtain ⟨p, q, hA0, hV, rfl, hfz, hnd⟩ := hW
  have hA : DataW.TrodAll enc Try.prog W 0 (fun _ => true) true Try.f3.params.toList args.toList ds p := hA0
  rw [Try.params3] at hA hval
  obtain ⟨v0, v1, d0, d1, p0, p1, rfl, rfl, rfl, h0, h1⟩ := trodAll_two hA
  obtain ⟨rfl, rfl⟩ := trodVars_none hV
  obtain ⟨cs, rfl, hcs⟩ := aggOf Try.underlying24 cellsDisk (hval 0 24 v0 rfl rfl)
  obtain ⟨c0, c1, c2, c3, rfl⟩ := array4 hcs
  obtain ⟨d, hr, hf⟩ := openDisk h0
  have k1 := h1
  have lt1 : ∀ x ∈ p1, x.block < W.heap.size := by obtain ⟨m, hm⟩ := k1; exact DataW.trod_lt m _ _ _ hm
  obtain ⟨a1, len1, cap1, rfl⟩ := okWide_slice Try.underlying22 (hval 1 22 v1 rfl rfl)
  obtain ⟨bs, rfl, hl, hlc, hn⟩ := open_byteS h1
  have k0 := h0
  have lt0 : ∀ x ∈ p0, x.block < W.heap.size := by obtain ⟨m, hm⟩ := k0; exact DataW.trod_lt m _ _ _ hm
  clear hA0 hval0
  refine (walk d _ bs _ W hf hr hl ⟨a1, cap1, rfl, hn, hlc⟩).mono fun e W' ⟨he, bel⟩ => ?_
  subst he
  exact ⟨_, rfl, _, _, _, [], _, [], hW', trodAll_mk1 (shut_bool Try.underlying4 _), trodAll_mk2 (Below.trod laidOut (by kernel_rfl) (of_decide_eq_true (by kernel_rfl)) k0 bel lt0) (Below.trod laidOut (by kernel_rfl) (of_decide_eq_true (by kernel_rfl)) k1 bel lt1), rfl, bel.frame _, fun h => by cases h⟩

theorem over : Rows.fnExactDiskWriteRow.holds Try.pinned (OpenSpec.ofChange Rows.fnExactDiskWriteSpec) :=
  OpenClaim.holds_of_wide 3 Try.f3 rfl rfl rfl rfl rfl rfl rfl ⟨rfl, rfl, rfl, rfl, rfl⟩ rfl rfl rfl rfl rfl (by kernel_rfl) Try.func3 (by kernel_rfl)
    (of_decide_eq_true (by kernel_rfl)) (by unfold Func.isWrapper; first | (rw [if_pos (by decide +kernel)]; kernel_rfl) | (rw [if_neg (by decide +kernel)]; exact ⟨rfl, rfl⟩))
    (fun os started H enc _ => lifted os started H enc)

end Go.Proofs.Ytaajldeejakonaa.fnExactDiskWrite

namespace Go.Proofs.Ytaajldeejakonaa
theorem fnExactDiskWrite_holds : Rows.FnExactDiskWriteSaid :=
  fnExactDiskWrite.over
end Go.Proofs.Ytaajldeejakonaa
