/-
  Proved: at every argument the law on DiskSync answers true, and the argument reads afterwards as before: the program makes safe what was written as the specification does, and its answer owns its memory. No condition.
-/
import Derived.Test.YtdohnjikfdapnaaSpecSync
import Derived.Test.YtdohnjikfdapnaaDiskKit
import Derived.Test.YtdohnjikfdapnaaByKit
import Derived.Test.YtdohnjikfdapnaaByArg
import Derived.Test.YtdohnjikfdapnaaBoxes
import Derived.Test.YtdohnjikfdapnaaRows
import Derived.WalkKit
import Derived.ProofKit
import Derived.OpenShut
import Derived.Handy
namespace Go.Proofs.Ytdohnjikfdapnaa.fnExactDiskSync
open Go.ChangeShapes Go.WideShapes Go.ChangeAt Go.RowKit Go.Deep Go.Maps
set_option linter.unusedVariables false

theorem small_syncV {d : DiskV} (h : SmallDisk d) : SmallDisk (syncV d) := by
  unfold syncV
  split
  · rename_i hb
    have := disk_small (d := d) hb
    unfold cutOut
    split
    · exact h
    · split
      · unfold SmallDisk fellD
        simp
        omega
      · unfold SmallDisk cutD
        simp
        omega
  · unfold SmallDisk noDisk
    simp
theorem specSync_kit (d : DiskV) (v : Value) (w : World) (hs : SmallDisk d) (h : DiskRd w v d) :
    Calls Try.prog 6 #[v] w fun e w' => ∃ v, e = .returned (.tuple #[v, .int .i64 (syncI d)]) ∧ Hid (DiskRd w' v (syncV d)) ∧ Below w.heap.size w w' := by
  refine (specSync_any d v w hs h).mono ?_
  rintro e w' ⟨v, S, rfl, h1, h2, h3⟩
  exact ⟨_, rfl, (unhide h1).rd, h3⟩
theorem implSync_kit (d : DiskV) (v : Value) (w : World) (hs : SmallDisk d) (h : DiskRd w v d) :
    Calls Try.prog 8 #[v] w fun e w' => ∃ v S, e = .returned (.tuple #[v, .int .i64 (syncI d)]) ∧ Hid (DiskOwn S w' v (syncV d)) ∧ Hid (∀ k ∈ S, w.heap.size ≤ k) ∧ Below w.heap.size w w' := implSync_any d v w hs h

set_option maxHeartbeats 12800000 in
theorem walk (d : DiskV) (v_d : Value) (w : World) (hf_d : DiskFit d) (hr_d : DiskRd w v_d d) :
    Calls Try.prog 3 #[v_d] w fun e w' => e = .returned (.bool true) ∧ Below w.heap.size w w' := by
  have HF_d := hide hf_d
  clear hf_d
  have HR_d := hide hr_d
  obtain ⟨p_d0, p_d1, p_d2, p_d3, p_d4, p_d5, p_d6, p_d7, rfl⟩ := hr_d.form
  clear hr_d
  go_enter Try.func3, Try.ntmps3
  obtain ⟨bx1, b2, zz3⟩ := boxNew4 w (.slice p_d0 p_d1 p_d2) (.slice p_d3 p_d4 p_d5) (.int .i64 p_d6) (.bool p_d7) 24
  go_wp2_with fail
  generalize w.alloc (.cells #[.slice p_d0 p_d1 p_d2, .slice p_d3 p_d4 p_d5, .int .i64 p_d6, .bool p_d7] 24) = W4 at *
  have B6 := hide b2
  have Z7 := hide (show w.heap.size < W4.heap.size from zz3)
  have BX5 := hide bx1
  clear bx1 b2 zz3
  refine (szDisk_kit d _ W4 (unhide HF_d) ((unhide HR_d).up (unhide B6))).mono ?_
  rintro e w8 ⟨q9, rfl, HQ10, b11⟩
  have B12 := hide ((unhide B6).trans (b11.mono (unhide B6).size))
  clear B6
  have BX13 := hide ((unhide BX5).up b11)
  clear BX5
  have Z14 := hide (show W4.heap.size ≤ w8.heap.size from b11.size)
  clear b11
  by_cases hnegq9 : q9 < 0
  · go_wp2_with fail
    go_ret
    exact ⟨rfl, unhide B12⟩
  have HS15 := hide (unhide HQ10 (by omega))
  obtain ⟨N_d, HN_d⟩ : ∃ N, Hid (nDisk d = N) := ⟨_, rfl⟩
  have NL_d : N_d ≤ 100000000 := by rw [← unhide HN_d]; exact nDisk_le (unhide HS15)
  have HRS0 := hide (show SmallDisk (syncV d) from small_syncV (unhide HS15))
  obtain ⟨M_0, HM_0⟩ : ∃ N, Hid (nDisk (syncV d) = N) := ⟨_, rfl⟩
  have ML_0 : M_0 ≤ 100000000 := by rw [← unhide HM_0]; exact nDisk_le (unhide HRS0)
  obtain ⟨x16, x17, x18, x19⟩ := (unhide BX13).four
  go_wp2_with fail
  clear x16 x17 x18 x19
  refine (toDisk_kit d _ w8 (unhide HS15) ((unhide HR_d).up (unhide B12))).mono ?_
  rintro e w20 ⟨v21, S22, rfl, O23, L24, b25⟩
  have B26 := hide ((unhide B12).trans (b25.mono (unhide B12).size))
  clear B12
  have BX27 := hide ((unhide BX13).up b25)
  clear BX13
  have Z28 := hide (show w8.heap.size ≤ w20.heap.size from b25.size)
  clear b25
  have H29 := hide (unhide O23).lt
  obtain ⟨x30, x31, x32, x33⟩ := (unhide BX27).four
  go_wp2_with fail
  clear x30 x31 x32 x33
  refine (specSync_kit d _ w20 (unhide HS15) (unhide O23).rd).mono ?_
  rintro e w34 ⟨v36, rfl, U37, b35⟩
  clear O23
  have B38 := hide ((unhide B26).trans (b35.mono (unhide B26).size))
  clear B26
  have BX39 := hide ((unhide BX27).up b35)
  clear BX27
  have Z40 := hide (show w20.heap.size ≤ w34.heap.size from b35.size)
  clear b35
  obtain ⟨q_w0_0, q_w0_1, q_w0_2, q_w0_3, q_w0_4, q_w0_5, q_w0_6, q_w0_7, rfl⟩ := (unhide U37).form
  have BU41 := hide (Below.refl w34.heap.size w34)
  obtain ⟨x42, x43, x44, x45⟩ := (unhide BX39).four
  have lt46 : w.heap.size < w34.heap.size := (unhide BX39).1
  obtain ⟨bx47, b48, zz49⟩ := boxNew4 w34 (.slice q_w0_0 q_w0_1 q_w0_2) (.slice q_w0_3 q_w0_4 q_w0_5) (.int .i64 q_w0_6) (.bool q_w0_7) 26
  go_wp2_with fail
  generalize w34.alloc (.cells #[.slice q_w0_0 q_w0_1 q_w0_2, .slice q_w0_3 q_w0_4 q_w0_5, .int .i64 q_w0_6, .bool q_w0_7] 26) = W50 at *
  have B52 := hide ((unhide B38).trans (b48.mono (unhide B38).size))
  clear B38
  have BU53 := hide ((unhide BU41).trans (b48.mono (unhide BU41).size))
  clear BU41
  have BX54 := hide ((unhide BX39).up b48)
  clear BX39
  have Z55 := hide (show w34.heap.size < W50.heap.size from zz49)
  have BX51 := hide bx47
  clear bx47 b48 zz49
  clear x42 x43 x44 x45 lt46
  refine (toDisk_kit d _ W50 (unhide HS15) ((unhide HR_d).up (unhide B52))).mono ?_
  rintro e w56 ⟨v57, S58, rfl, O59, L60, b61⟩
  have B62 := hide ((unhide B52).trans (b61.mono (unhide B52).size))
  clear B52
  have BU63 := hide ((unhide BU53).trans (b61.mono (unhide BU53).size))
  clear BU53
  have BX64 := hide ((unhide BX54).up b61)
  clear BX54
  have BX65 := hide ((unhide BX51).up b61)
  clear BX51
  have Z66 := hide (show W50.heap.size ≤ w56.heap.size from b61.size)
  clear b61
  have H67 := hide (unhide O59).lt
  obtain ⟨r_d0, r_d1, r_d2, r_d3, r_d4, r_d5, r_d6, r_d7, rfl⟩ := (unhide O59).rd.form
  obtain ⟨x68, x69, x70, x71⟩ := (unhide BX64).four
  obtain ⟨x72, x73, x74, x75⟩ := (unhide BX65).four
  have lt76 : w.heap.size < w56.heap.size := (unhide BX64).1
  have lt77 : w34.heap.size < w56.heap.size := (unhide BX65).1
  obtain ⟨bx78, b79, zz80⟩ := boxNew4 w56 (.slice r_d0 r_d1 r_d2) (.slice r_d3 r_d4 r_d5) (.int .i64 r_d6) (.bool r_d7) 26
  go_wp2_with fail
  generalize w56.alloc (.cells #[.slice r_d0 r_d1 r_d2, .slice r_d3 r_d4 r_d5, .int .i64 r_d6, .bool r_d7] 26) = W81 at *
  have B83 := hide ((unhide B62).trans (b79.mono (unhide B62).size))
  clear B62
  have BU84 := hide ((unhide BU63).trans (b79.mono (unhide BU63).size))
  clear BU63
  have BX85 := hide ((unhide BX64).up b79)
  clear BX64
  have BX86 := hide ((unhide BX65).up b79)
  clear BX65
  have O87 := hide ((unhide O59).up b79)
  clear O59
  have Z88 := hide (show w56.heap.size < W81.heap.size from zz80)
  have BX82 := hide bx78
  clear bx78 b79 zz80
  clear x68 x69 x70 x71 x72 x73 x74 x75 lt76 lt77
  refine (implSync_kit d _ W81 (unhide HS15) (unhide O87).rd).mono ?_
  rintro e w89 ⟨v91, S92, rfl, O93, L94, b90⟩
  have B95 := hide ((unhide B83).trans (b90.mono (unhide B83).size))
  clear B83
  have BU96 := hide ((unhide BU84).trans (b90.mono (unhide BU84).size))
  clear BU84
  have BX97 := hide ((unhide BX85).up b90)
  clear BX85
  have BX98 := hide ((unhide BX86).up b90)
  clear BX86
  have BX99 := hide ((unhide BX82).up b90)
  clear BX82
  have O100 := hide ((unhide O87).up b90)
  clear O87
  have Z101 := hide (show W81.heap.size ≤ w89.heap.size from b90.size)
  clear b90
  obtain ⟨q_g0_0, q_g0_1, q_g0_2, q_g0_3, q_g0_4, q_g0_5, q_g0_6, q_g0_7, rfl⟩ := (unhide O93).rd.form
  have H102 := hide (unhide O93).lt
  obtain ⟨x103, x104, x105, x106⟩ := (unhide BX97).four
  obtain ⟨x107, x108, x109, x110⟩ := (unhide BX98).four
  obtain ⟨x111, x112, x113, x114⟩ := (unhide BX99).four
  have lt115 : w.heap.size < w89.heap.size := (unhide BX97).1
  have lt116 : w34.heap.size < w89.heap.size := (unhide BX98).1
  have lt117 : w56.heap.size < w89.heap.size := (unhide BX99).1
  obtain ⟨bx118, b119, zz120⟩ := boxNew4 w89 (.slice q_g0_0 q_g0_1 q_g0_2) (.slice q_g0_3 q_g0_4 q_g0_5) (.int .i64 q_g0_6) (.bool q_g0_7) 26
  go_wp2_with fail
  generalize w89.alloc (.cells #[.slice q_g0_0 q_g0_1 q_g0_2, .slice q_g0_3 q_g0_4 q_g0_5, .int .i64 q_g0_6, .bool q_g0_7] 26) = W121 at *
  have B123 := hide ((unhide B95).trans (b119.mono (unhide B95).size))
  clear B95
  have BU124 := hide ((unhide BU96).trans (b119.mono (unhide BU96).size))
  clear BU96
  have BX125 := hide ((unhide BX97).up b119)
  clear BX97
  have BX126 := hide ((unhide BX98).up b119)
  clear BX98
  have BX127 := hide ((unhide BX99).up b119)
  clear BX99
  have O128 := hide ((unhide O100).up b119)
  clear O100
  have O129 := hide ((unhide O93).up b119)
  clear O93
  have Z130 := hide (show w89.heap.size < W121.heap.size from zz120)
  have BX122 := hide bx118
  clear bx118 b119 zz120
  clear x103 x104 x105 x106 x107 x108 x109 x110 x111 x112 x113 x114 lt115 lt116 lt117
  refine (eqDisk_kit (syncV d) _ _ W121 (unhide HRS0) (unhide O129).rd ((unhide U37).up (unhide BU124))).mono ?_
  rintro e w131 ⟨rfl, b132⟩
  have B133 := hide ((unhide B123).trans (b132.mono (unhide B123).size))
  clear B123
  have BU134 := hide ((unhide BU124).trans (b132.mono (unhide BU124).size))
  clear BU124
  have BX135 := hide ((unhide BX125).up b132)
  clear BX125
  have BX136 := hide ((unhide BX126).up b132)
  clear BX126
  have BX137 := hide ((unhide BX127).up b132)
  clear BX127
  have BX138 := hide ((unhide BX122).up b132)
  clear BX122
  have O139 := hide ((unhide O128).up b132)
  clear O128
  have O140 := hide ((unhide O129).up b132)
  clear O129
  have Z141 := hide (show W121.heap.size ≤ w131.heap.size from b132.size)
  clear b132
  obtain ⟨x142, x143, x144, x145⟩ := (unhide BX135).four
  obtain ⟨x146, x147, x148, x149⟩ := (unhide BX136).four
  obtain ⟨x150, x151, x152, x153⟩ := (unhide BX137).four
  obtain ⟨x154, x155, x156, x157⟩ := (unhide BX138).four
  go_wp2_with fail
  have KP158 := hide (show ∀ X : World, Below w131.heap.size w131 X → (fun (X : World) => (X.cell? ⟨w.heap.size, 0, none⟩ = some (.slice p_d0 p_d1 p_d2) ∧ X.cell? ⟨w.heap.size, 1, none⟩ = some (.slice p_d3 p_d4 p_d5) ∧ X.cell? ⟨w.heap.size, 2, none⟩ = some (.int .i64 p_d6) ∧ X.cell? ⟨w.heap.size, 3, none⟩ = some (.bool p_d7)) ∧ (X.cell? ⟨w56.heap.size, 0, none⟩ = some (.slice r_d0 r_d1 r_d2) ∧ X.cell? ⟨w56.heap.size, 1, none⟩ = some (.slice r_d3 r_d4 r_d5) ∧ X.cell? ⟨w56.heap.size, 2, none⟩ = some (.int .i64 r_d6) ∧ X.cell? ⟨w56.heap.size, 3, none⟩ = some (.bool r_d7)) ∧ Hid (Below w131.heap.size w131 X)) X from fun X b => ⟨((unhide BX135).up b).four, ((unhide BX137).up b).four, hide b⟩)
  have BD159 := hide ((Below.refl w131.heap.size w131).drew)
  go_region_held3 (fun (X : World) => (X.cell? ⟨w.heap.size, 0, none⟩ = some (.slice p_d0 p_d1 p_d2) ∧ X.cell? ⟨w.heap.size, 1, none⟩ = some (.slice p_d3 p_d4 p_d5) ∧ X.cell? ⟨w.heap.size, 2, none⟩ = some (.int .i64 p_d6) ∧ X.cell? ⟨w.heap.size, 3, none⟩ = some (.bool p_d7)) ∧ (X.cell? ⟨w56.heap.size, 0, none⟩ = some (.slice r_d0 r_d1 r_d2) ∧ X.cell? ⟨w56.heap.size, 1, none⟩ = some (.slice r_d3 r_d4 r_d5) ∧ X.cell? ⟨w56.heap.size, 2, none⟩ = some (.int .i64 r_d6) ∧ X.cell? ⟨w56.heap.size, 3, none⟩ = some (.bool r_d7)) ∧ Hid (Below w131.heap.size w131 X)) ((refine unhide KP158 _ ?_; exact unhide (by assumption)))
    (first
      | (go_at_call 9; have _t := BB166; refine (eqDisk_kit d _ _ _ (unhide HS15) ((unhide O139).up (unhide BB166)).rd (unhide O163).rd).mono ?_; rintro e w167 ⟨rfl, b168⟩; have BB169 := hide ((unhide BB166).trans (b168.mono (unhide BB166).size)); clear b168)
      | (go_at_call 7; refine (toDisk_kit d _ _ (unhide HS15) ((unhide HR_d).up ((unhide B133).trans ((unhide BD159).mono (unhide B133).size)))).mono ?_; rintro e w160 ⟨v161, S162, rfl, O163, L164, b165⟩; have BB166 := hide ((unhide BD159).trans (b165.mono (unhide BD159).size)); clear b165)
      | fail)
  clear x142 x143 x144 x145 x146 x147 x148 x149 x150 x151 x152 x153 x154 x155 x156 x157
  all_goals
    try clear _t
    have B170 := hide ((unhide B133).trans ((unhide BB169).mono (unhide B133).size))
    clear B133
    have BU171 := hide ((unhide BU134).trans ((unhide BB169).mono (unhide BU134).size))
    clear BU134
    have BX172 := hide ((unhide BX135).up (unhide BB169))
    clear BX135
    have BX173 := hide ((unhide BX136).up (unhide BB169))
    clear BX136
    have BX174 := hide ((unhide BX137).up (unhide BB169))
    clear BX137
    have BX175 := hide ((unhide BX138).up (unhide BB169))
    clear BX138
    have O176 := hide ((unhide O139).up (unhide BB169))
    clear O139
    have O177 := hide ((unhide O140).up (unhide BB169))
    clear O140
    have Z178 := hide (show w131.heap.size ≤ w167.heap.size from (unhide BB169).size)
    clear BB169 BB166 KP158 BD159 O163 L164
    obtain ⟨x179, x180, x181, x182⟩ := (unhide BX172).four
    obtain ⟨x183, x184, x185, x186⟩ := (unhide BX173).four
    obtain ⟨x187, x188, x189, x190⟩ := (unhide BX174).four
    obtain ⟨x191, x192, x193, x194⟩ := (unhide BX175).four
    go_wp2_with fail
    clear x179 x180 x181 x182 x183 x184 x185 x186 x187 x188 x189 x190 x191 x192 x193 x194
    refine (markDisk_kit S58 (d) _ w167 (1) N_d (1) (by omega) (unhide HN_d) (by omega) (unhide HS15) (unhide O176)).mono ?_
    rintro e w195 ⟨rfl, P196⟩
    have t197 := (unhide P196).2
    have B198 := hide ((unhide B170).trans (t197.below (unhide B170).size (fun k hk => by have z := unhide L60 k hk; have y := unhide H67 k hk; have z0 := unhide Z7; have z1 := unhide Z14; have z2 := unhide Z28; have z3 := unhide Z40; have z4 := unhide Z55; have z5 := unhide Z66; have z6 := unhide Z88; have z7 := unhide Z101; have z8 := unhide Z130; have z9 := unhide Z141; have z10 := unhide Z178; omega)))
    clear B170
    have BU199 := hide ((unhide BU171).trans (t197.below (unhide BU171).size (fun k hk => by have z := unhide L60 k hk; have y := unhide H67 k hk; have z0 := unhide Z7; have z1 := unhide Z14; have z2 := unhide Z28; have z3 := unhide Z40; have z4 := unhide Z55; have z5 := unhide Z66; have z6 := unhide Z88; have z7 := unhide Z101; have z8 := unhide Z130; have z9 := unhide Z141; have z10 := unhide Z178; omega)))
    clear BU171
    have BX200 := hide ((unhide BX172).turn t197 (fun hk => by have z := unhide L60 _ hk; have y := unhide H67 _ hk; have z0 := unhide Z7; have z1 := unhide Z14; have z2 := unhide Z28; have z3 := unhide Z40; have z4 := unhide Z55; have z5 := unhide Z66; have z6 := unhide Z88; have z7 := unhide Z101; have z8 := unhide Z130; have z9 := unhide Z141; have z10 := unhide Z178; omega))
    clear BX172
    have BX201 := hide ((unhide BX173).turn t197 (fun hk => by have z := unhide L60 _ hk; have y := unhide H67 _ hk; have z0 := unhide Z7; have z1 := unhide Z14; have z2 := unhide Z28; have z3 := unhide Z40; have z4 := unhide Z55; have z5 := unhide Z66; have z6 := unhide Z88; have z7 := unhide Z101; have z8 := unhide Z130; have z9 := unhide Z141; have z10 := unhide Z178; omega))
    clear BX173
    have BX202 := hide ((unhide BX174).turn t197 (fun hk => by have z := unhide L60 _ hk; have y := unhide H67 _ hk; have z0 := unhide Z7; have z1 := unhide Z14; have z2 := unhide Z28; have z3 := unhide Z40; have z4 := unhide Z55; have z5 := unhide Z66; have z6 := unhide Z88; have z7 := unhide Z101; have z8 := unhide Z130; have z9 := unhide Z141; have z10 := unhide Z178; omega))
    clear BX174
    have BX203 := hide ((unhide BX175).turn t197 (fun hk => by have z := unhide L60 _ hk; have y := unhide H67 _ hk; have z0 := unhide Z7; have z1 := unhide Z14; have z2 := unhide Z28; have z3 := unhide Z40; have z4 := unhide Z55; have z5 := unhide Z66; have z6 := unhide Z88; have z7 := unhide Z101; have z8 := unhide Z130; have z9 := unhide Z141; have z10 := unhide Z178; omega))
    clear BX175
    have O204 := hide ((unhide O177).turn t197 (fun k hk hm => by have z := unhide L60 k hm; have y := unhide H67 k hm; have u := unhide L94 k hk; have v := unhide H102 k hk; have z0 := unhide Z7; have z1 := unhide Z14; have z2 := unhide Z28; have z3 := unhide Z40; have z4 := unhide Z55; have z5 := unhide Z66; have z6 := unhide Z88; have z7 := unhide Z101; have z8 := unhide Z130; have z9 := unhide Z141; have z10 := unhide Z178; omega))
    clear O177
    have Z205 := hide (show w167.heap.size ≤ w195.heap.size from t197.size)
    have O206 := hide (unhide P196).1
    clear P196 t197
    have nf206 : ¬ (1 + (N_d : Int)) < 0 := by omega
    obtain ⟨x207, x208, x209, x210⟩ := (unhide BX200).four
    obtain ⟨x211, x212, x213, x214⟩ := (unhide BX201).four
    obtain ⟨x215, x216, x217, x218⟩ := (unhide BX202).four
    obtain ⟨x219, x220, x221, x222⟩ := (unhide BX203).four
    go_wp2_with fail
    clear x207 x208 x209 x210 x211 x212 x213 x214 x215 x216 x217 x218 x219 x220 x221 x222
    refine (eqDisk_kit (syncV d) _ _ w195 (unhide HRS0) (unhide O204).rd ((unhide U37).up (unhide BU199))).mono ?_
    rintro e w223 ⟨rfl, b224⟩
    have B225 := hide ((unhide B198).trans (b224.mono (unhide B198).size))
    clear B198
    have BU226 := hide ((unhide BU199).trans (b224.mono (unhide BU199).size))
    clear BU199
    have BX227 := hide ((unhide BX200).up b224)
    clear BX200
    have BX228 := hide ((unhide BX201).up b224)
    clear BX201
    have BX229 := hide ((unhide BX202).up b224)
    clear BX202
    have BX230 := hide ((unhide BX203).up b224)
    clear BX203
    have O231 := hide ((unhide O206).up b224)
    clear O206
    have O232 := hide ((unhide O204).up b224)
    clear O204
    have Z233 := hide (show w195.heap.size ≤ w223.heap.size from b224.size)
    clear b224
    obtain ⟨x234, x235, x236, x237⟩ := (unhide BX227).four
    obtain ⟨x238, x239, x240, x241⟩ := (unhide BX228).four
    obtain ⟨x242, x243, x244, x245⟩ := (unhide BX229).four
    obtain ⟨x246, x247, x248, x249⟩ := (unhide BX230).four
    go_wp2_with fail
    clear x234 x235 x236 x237 x238 x239 x240 x241 x242 x243 x244 x245 x246 x247 x248 x249
    refine (markDisk_kit S92 (syncV d) _ w223 (1) M_0 (1) (by omega) (unhide HM_0) (by omega) (unhide HRS0) (unhide O232)).mono ?_
    rintro e w250 ⟨rfl, P251⟩
    have t252 := (unhide P251).2
    have B253 := hide ((unhide B225).trans (t252.below (unhide B225).size (fun k hk => by have z := unhide L94 k hk; have y := unhide H102 k hk; have z0 := unhide Z7; have z1 := unhide Z14; have z2 := unhide Z28; have z3 := unhide Z40; have z4 := unhide Z55; have z5 := unhide Z66; have z6 := unhide Z88; have z7 := unhide Z101; have z8 := unhide Z130; have z9 := unhide Z141; have z10 := unhide Z178; have z11 := unhide Z205; have z12 := unhide Z233; omega)))
    clear B225
    have BU254 := hide ((unhide BU226).trans (t252.below (unhide BU226).size (fun k hk => by have z := unhide L94 k hk; have y := unhide H102 k hk; have z0 := unhide Z7; have z1 := unhide Z14; have z2 := unhide Z28; have z3 := unhide Z40; have z4 := unhide Z55; have z5 := unhide Z66; have z6 := unhide Z88; have z7 := unhide Z101; have z8 := unhide Z130; have z9 := unhide Z141; have z10 := unhide Z178; have z11 := unhide Z205; have z12 := unhide Z233; omega)))
    clear BU226
    have BX255 := hide ((unhide BX227).turn t252 (fun hk => by have z := unhide L94 _ hk; have y := unhide H102 _ hk; have z0 := unhide Z7; have z1 := unhide Z14; have z2 := unhide Z28; have z3 := unhide Z40; have z4 := unhide Z55; have z5 := unhide Z66; have z6 := unhide Z88; have z7 := unhide Z101; have z8 := unhide Z130; have z9 := unhide Z141; have z10 := unhide Z178; have z11 := unhide Z205; have z12 := unhide Z233; omega))
    clear BX227
    have BX256 := hide ((unhide BX228).turn t252 (fun hk => by have z := unhide L94 _ hk; have y := unhide H102 _ hk; have z0 := unhide Z7; have z1 := unhide Z14; have z2 := unhide Z28; have z3 := unhide Z40; have z4 := unhide Z55; have z5 := unhide Z66; have z6 := unhide Z88; have z7 := unhide Z101; have z8 := unhide Z130; have z9 := unhide Z141; have z10 := unhide Z178; have z11 := unhide Z205; have z12 := unhide Z233; omega))
    clear BX228
    have BX257 := hide ((unhide BX229).turn t252 (fun hk => by have z := unhide L94 _ hk; have y := unhide H102 _ hk; have z0 := unhide Z7; have z1 := unhide Z14; have z2 := unhide Z28; have z3 := unhide Z40; have z4 := unhide Z55; have z5 := unhide Z66; have z6 := unhide Z88; have z7 := unhide Z101; have z8 := unhide Z130; have z9 := unhide Z141; have z10 := unhide Z178; have z11 := unhide Z205; have z12 := unhide Z233; omega))
    clear BX229
    have BX258 := hide ((unhide BX230).turn t252 (fun hk => by have z := unhide L94 _ hk; have y := unhide H102 _ hk; have z0 := unhide Z7; have z1 := unhide Z14; have z2 := unhide Z28; have z3 := unhide Z40; have z4 := unhide Z55; have z5 := unhide Z66; have z6 := unhide Z88; have z7 := unhide Z101; have z8 := unhide Z130; have z9 := unhide Z141; have z10 := unhide Z178; have z11 := unhide Z205; have z12 := unhide Z233; omega))
    clear BX230
    have O259 := hide ((unhide O231).turn t252 (fun k hk hm => by have z := unhide L94 k hm; have y := unhide H102 k hm; have u := unhide L60 k hk; have v := unhide H67 k hk; have z0 := unhide Z7; have z1 := unhide Z14; have z2 := unhide Z28; have z3 := unhide Z40; have z4 := unhide Z55; have z5 := unhide Z66; have z6 := unhide Z88; have z7 := unhide Z101; have z8 := unhide Z130; have z9 := unhide Z141; have z10 := unhide Z178; have z11 := unhide Z205; have z12 := unhide Z233; omega))
    clear O231
    have Z260 := hide (show w223.heap.size ≤ w250.heap.size from t252.size)
    have O261 := hide (unhide P251).1
    clear P251 t252
    have nf261 : ¬ (1 + (M_0 : Int)) < 0 := by omega
    obtain ⟨x262, x263, x264, x265⟩ := (unhide BX255).four
    obtain ⟨x266, x267, x268, x269⟩ := (unhide BX256).four
    obtain ⟨x270, x271, x272, x273⟩ := (unhide BX257).four
    obtain ⟨x274, x275, x276, x277⟩ := (unhide BX258).four
    go_wp2_with fail
    clear x262 x263 x264 x265 x266 x267 x268 x269 x270 x271 x272 x273 x274 x275 x276 x277
    refine (heldDisk_kit (syncV d) _ w250 (1) M_0 (1) (by omega) (unhide HM_0) (by omega) (unhide HRS0) (unhide O261).rd).mono ?_
    rintro e w278 ⟨rfl, b279⟩
    have B280 := hide ((unhide B253).trans (b279.mono (unhide B253).size))
    clear B253
    have BU281 := hide ((unhide BU254).trans (b279.mono (unhide BU254).size))
    clear BU254
    have BX282 := hide ((unhide BX255).up b279)
    clear BX255
    have BX283 := hide ((unhide BX256).up b279)
    clear BX256
    have BX284 := hide ((unhide BX257).up b279)
    clear BX257
    have BX285 := hide ((unhide BX258).up b279)
    clear BX258
    have O286 := hide ((unhide O259).up b279)
    clear O259
    have O287 := hide ((unhide O261).up b279)
    clear O261
    have Z288 := hide (show w250.heap.size ≤ w278.heap.size from b279.size)
    clear b279
    obtain ⟨x289, x290, x291, x292⟩ := (unhide BX282).four
    obtain ⟨x293, x294, x295, x296⟩ := (unhide BX283).four
    obtain ⟨x297, x298, x299, x300⟩ := (unhide BX284).four
    obtain ⟨x301, x302, x303, x304⟩ := (unhide BX285).four
    go_wp2_with fail
    clear x289 x290 x291 x292 x293 x294 x295 x296 x297 x298 x299 x300 x301 x302 x303 x304
    refine (toDisk_kit d _ w278 (unhide HS15) ((unhide HR_d).up (unhide B280))).mono ?_
    rintro e w305 ⟨v306, S307, rfl, O308, L309, b310⟩
    have B311 := hide ((unhide B280).trans (b310.mono (unhide B280).size))
    clear B280
    have BU312 := hide ((unhide BU281).trans (b310.mono (unhide BU281).size))
    clear BU281
    have BX313 := hide ((unhide BX282).up b310)
    clear BX282
    have BX314 := hide ((unhide BX283).up b310)
    clear BX283
    have BX315 := hide ((unhide BX284).up b310)
    clear BX284
    have BX316 := hide ((unhide BX285).up b310)
    clear BX285
    have O317 := hide ((unhide O286).up b310)
    clear O286
    have O318 := hide ((unhide O287).up b310)
    clear O287
    have Z319 := hide (show w278.heap.size ≤ w305.heap.size from b310.size)
    clear b310
    have H320 := hide (unhide O308).lt
    obtain ⟨x321, x322, x323, x324⟩ := (unhide BX313).four
    obtain ⟨x325, x326, x327, x328⟩ := (unhide BX314).four
    obtain ⟨x329, x330, x331, x332⟩ := (unhide BX315).four
    obtain ⟨x333, x334, x335, x336⟩ := (unhide BX316).four
    go_wp2_with fail
    clear x321 x322 x323 x324 x325 x326 x327 x328 x329 x330 x331 x332 x333 x334 x335 x336
    refine (implSync_kit d _ w305 (unhide HS15) (unhide O308).rd).mono ?_
    rintro e w337 ⟨v339, S340, rfl, O341, L342, b338⟩
    clear O308
    have B343 := hide ((unhide B311).trans (b338.mono (unhide B311).size))
    clear B311
    have BU344 := hide ((unhide BU312).trans (b338.mono (unhide BU312).size))
    clear BU312
    have BX345 := hide ((unhide BX313).up b338)
    clear BX313
    have BX346 := hide ((unhide BX314).up b338)
    clear BX314
    have BX347 := hide ((unhide BX315).up b338)
    clear BX315
    have BX348 := hide ((unhide BX316).up b338)
    clear BX316
    have O349 := hide ((unhide O317).up b338)
    clear O317
    have O350 := hide ((unhide O318).up b338)
    clear O318
    have Z351 := hide (show w305.heap.size ≤ w337.heap.size from b338.size)
    clear b338
    obtain ⟨q_h0_0, q_h0_1, q_h0_2, q_h0_3, q_h0_4, q_h0_5, q_h0_6, q_h0_7, rfl⟩ := (unhide O341).rd.form
    have H352 := hide (unhide O341).lt
    obtain ⟨x353, x354, x355, x356⟩ := (unhide BX345).four
    obtain ⟨x357, x358, x359, x360⟩ := (unhide BX346).four
    obtain ⟨x361, x362, x363, x364⟩ := (unhide BX347).four
    obtain ⟨x365, x366, x367, x368⟩ := (unhide BX348).four
    have lt369 : w.heap.size < w337.heap.size := (unhide BX345).1
    have lt370 : w34.heap.size < w337.heap.size := (unhide BX346).1
    have lt371 : w56.heap.size < w337.heap.size := (unhide BX347).1
    have lt372 : w89.heap.size < w337.heap.size := (unhide BX348).1
    obtain ⟨bx373, b374, zz375⟩ := boxNew4 w337 (.slice q_h0_0 q_h0_1 q_h0_2) (.slice q_h0_3 q_h0_4 q_h0_5) (.int .i64 q_h0_6) (.bool q_h0_7) 26
    go_wp2_with fail
    generalize w337.alloc (.cells #[.slice q_h0_0 q_h0_1 q_h0_2, .slice q_h0_3 q_h0_4 q_h0_5, .int .i64 q_h0_6, .bool q_h0_7] 26) = W376 at *
    have B378 := hide ((unhide B343).trans (b374.mono (unhide B343).size))
    clear B343
    have BU379 := hide ((unhide BU344).trans (b374.mono (unhide BU344).size))
    clear BU344
    have BX380 := hide ((unhide BX345).up b374)
    clear BX345
    have BX381 := hide ((unhide BX346).up b374)
    clear BX346
    have BX382 := hide ((unhide BX347).up b374)
    clear BX347
    have BX383 := hide ((unhide BX348).up b374)
    clear BX348
    have O384 := hide ((unhide O349).up b374)
    clear O349
    have O385 := hide ((unhide O350).up b374)
    clear O350
    have O386 := hide ((unhide O341).up b374)
    clear O341
    have Z387 := hide (show w337.heap.size < W376.heap.size from zz375)
    have BX377 := hide bx373
    clear bx373 b374 zz375
    clear x353 x354 x355 x356 x357 x358 x359 x360 x361 x362 x363 x364 x365 x366 x367 x368 lt369 lt370 lt371 lt372
    refine (eqDisk_kit (syncV d) _ _ W376 (unhide HRS0) (unhide O386).rd ((unhide U37).up (unhide BU379))).mono ?_
    rintro e w388 ⟨rfl, b389⟩
    have B390 := hide ((unhide B378).trans (b389.mono (unhide B378).size))
    clear B378
    have BU391 := hide ((unhide BU379).trans (b389.mono (unhide BU379).size))
    clear BU379
    have BX392 := hide ((unhide BX380).up b389)
    clear BX380
    have BX393 := hide ((unhide BX381).up b389)
    clear BX381
    have BX394 := hide ((unhide BX382).up b389)
    clear BX382
    have BX395 := hide ((unhide BX383).up b389)
    clear BX383
    have BX396 := hide ((unhide BX377).up b389)
    clear BX377
    have O397 := hide ((unhide O384).up b389)
    clear O384
    have O398 := hide ((unhide O385).up b389)
    clear O385
    have O399 := hide ((unhide O386).up b389)
    clear O386
    have Z400 := hide (show W376.heap.size ≤ w388.heap.size from b389.size)
    clear b389
    obtain ⟨x401, x402, x403, x404⟩ := (unhide BX392).four
    obtain ⟨x405, x406, x407, x408⟩ := (unhide BX393).four
    obtain ⟨x409, x410, x411, x412⟩ := (unhide BX394).four
    obtain ⟨x413, x414, x415, x416⟩ := (unhide BX395).four
    obtain ⟨x417, x418, x419, x420⟩ := (unhide BX396).four
    go_wp2_with fail
    clear x401 x402 x403 x404 x405 x406 x407 x408 x409 x410 x411 x412 x413 x414 x415 x416 x417 x418 x419 x420
    refine (heldDisk_kit (syncV d) _ w388 (1) M_0 (1) (by omega) (unhide HM_0) (by omega) (unhide HRS0) (unhide O398).rd).mono ?_
    rintro e w421 ⟨rfl, b422⟩
    have B423 := hide ((unhide B390).trans (b422.mono (unhide B390).size))
    clear B390
    have BU424 := hide ((unhide BU391).trans (b422.mono (unhide BU391).size))
    clear BU391
    have BX425 := hide ((unhide BX392).up b422)
    clear BX392
    have BX426 := hide ((unhide BX393).up b422)
    clear BX393
    have BX427 := hide ((unhide BX394).up b422)
    clear BX394
    have BX428 := hide ((unhide BX395).up b422)
    clear BX395
    have BX429 := hide ((unhide BX396).up b422)
    clear BX396
    have O430 := hide ((unhide O397).up b422)
    clear O397
    have O431 := hide ((unhide O398).up b422)
    clear O398
    have O432 := hide ((unhide O399).up b422)
    clear O399
    have Z433 := hide (show w388.heap.size ≤ w421.heap.size from b422.size)
    clear b422
    obtain ⟨x434, x435, x436, x437⟩ := (unhide BX425).four
    obtain ⟨x438, x439, x440, x441⟩ := (unhide BX426).four
    obtain ⟨x442, x443, x444, x445⟩ := (unhide BX427).four
    obtain ⟨x446, x447, x448, x449⟩ := (unhide BX428).four
    obtain ⟨x450, x451, x452, x453⟩ := (unhide BX429).four
    go_wp2_with fail
    go_ret
    exact ⟨rfl, unhide B423⟩

theorem own : ownKnob Try.prog.godebug = none := by kernel_rfl
theorem laidOut : laidOutB Try.prog = true := by kernel_rfl

set_option maxRecDepth 100000 in
theorem lifted (os : Os) (started : os.Started) (H : Type) (enc : TypeId × Value → H) :
    ReturnsInHanded {} Try.checked os 3 .any (Rows.fnExactDiskSyncSpec.pre6 enc Try.prog Try.f3 Rows.fnExactDiskSyncRow.domain false) (Rows.fnExactDiskSyncSpec.post enc Try.prog Try.f3 false true false false) := by
  refine returnsInHanded_of_change (C := Try.checked) own started (by kernel_rfl) Try.func3
    (ChangeSpec.witness6 (enc := enc) (C := Try.checked) false ⟨#[], #[.agg #[.slice none 0 0, .slice none 0 0, .int .i64 0, .bool false]], []⟩ 8 (by kernel_rfl) (by kernel_rfl) (by kernel_rfl) (by kernel_rfl)) ?_
  intro W base args ds gs before hval0 hW hcnd _
  have hval : ∀ (j : Nat) t v, Try.f3.params[j]? = some t → args[j]? = some v → Value.okWide Try.prog W .any base t v := hval0
  have hW' := hW
  obtain ⟨p, q, hA0, hV, rfl, hfz, hnd⟩ := hW
  have hA : DataW.TrodAll enc Try.prog W 0 (fun _ => true) true Try.f3.params.toList args.toList ds p := hA0
  rw [Try.params3] at hA hval
  obtain ⟨v0, d0, rfl, rfl, h0⟩ := trodAll_one hA
  obtain ⟨rfl, rfl⟩ := trodVars_none hV
  obtain ⟨cs, rfl, hcs⟩ := aggOf Try.underlying24 cellsDisk (hval 0 24 v0 rfl rfl)
  obtain ⟨c0, c1, c2, c3, rfl⟩ := array4 hcs
  obtain ⟨d, hr, hf⟩ := openDisk h0
  have k0 := h0
  have lt0 : ∀ x ∈ p, x.block < W.heap.size := by obtain ⟨m, hm⟩ := k0; exact DataW.trod_lt m _ _ _ hm
  clear hA0 hval0
  refine (walk d _ W hf hr).mono fun e W' ⟨he, bel⟩ => ?_
  subst he
  exact ⟨_, rfl, _, _, _, [], _, [], hW', trodAll_mk1 (shut_bool Try.underlying4 _), trodAll_mk1 (Below.trod laidOut (by kernel_rfl) (of_decide_eq_true (by kernel_rfl)) k0 bel lt0), rfl, bel.frame _, fun h => by cases h⟩

theorem over : Rows.fnExactDiskSyncRow.holds Try.pinned (OpenSpec.ofChange Rows.fnExactDiskSyncSpec) :=
  OpenClaim.holds_of_wide 3 Try.f3 rfl rfl rfl rfl rfl rfl rfl ⟨rfl, rfl, rfl, rfl, rfl⟩ rfl rfl rfl rfl rfl (by kernel_rfl) Try.func3 (by kernel_rfl)
    (of_decide_eq_true (by kernel_rfl)) (by unfold Func.isWrapper; first | (rw [if_pos (by decide +kernel)]; kernel_rfl) | (rw [if_neg (by decide +kernel)]; exact ⟨rfl, rfl⟩))
    (fun os started H enc _ => lifted os started H enc)

end Go.Proofs.Ytdohnjikfdapnaa.fnExactDiskSync

namespace Go.Proofs.Ytdohnjikfdapnaa
theorem fnExactDiskSync_holds : Rows.FnExactDiskSyncSaid :=
  fnExactDiskSync.over
end Go.Proofs.Ytdohnjikfdapnaa
