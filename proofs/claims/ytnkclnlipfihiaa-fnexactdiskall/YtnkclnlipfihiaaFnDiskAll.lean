/-
  Proved: at every disk the law on DiskAll answers true, and the disk reads afterwards as before: the program reads a disk as the specification does, writes into no argument, and its answer owns its memory. No condition.
-/
import Derived.Test.YtnkclnlipfihiaaDiskAll
import Derived.Test.YtnkclnlipfihiaaDiskKit
import Derived.Test.YtnkclnlipfihiaaBoxes
import Derived.Test.YtnkclnlipfihiaaRows
import Derived.WalkKit
import Derived.ProofKit
import Derived.OpenShut
namespace Go.Proofs.Ytnkclnlipfihiaa.fnExactDiskAll
open Go.ChangeShapes Go.WideShapes Go.ChangeAt Go.RowKit Go.Deep Go.Maps
set_option linter.unusedVariables false

theorem small_allV {d : DiskV} (h : SmallDisk d) : SmallByteS (allV d) := by
  unfold allV SmallByteS
  split
  · rename_i hb
    have := disk_small (d := d) (by simp [allB] at hb; exact hb.1)
    simp; omega
  · simp
theorem fit_small {d : DiskV} (h : SmallDisk d) : d.safe.length ≤ maxLen ∧ d.soft.length ≤ maxLen := by have h1 := h.1; have h2 := h.2; unfold maxLen; omega
theorem specAll_kit (d : DiskV) (v : Value) (w : World) (hs : SmallDisk d) (h : DiskRd w v d) :
    Calls Try.prog 7 #[v] w fun e w' => ∃ v, e = .returned (.tuple #[v, .bool (allB d)]) ∧ Hid (ByRd w' v (allV d)) ∧ Below w.heap.size w w' := by
  refine (specAll_any d v w (fit_small hs) h).mono ?_
  rintro e w' ⟨a, n, c, rfl, _, r, b⟩
  exact ⟨_, rfl, r.rd, b⟩
theorem implAll_kit (d : DiskV) (v : Value) (w : World) (hs : SmallDisk d) (h : DiskRd w v d) :
    Calls Try.prog 9 #[v] w fun e w' => ∃ v S, e = .returned (.tuple #[v, .bool (allB d)]) ∧ Hid (ByOwn S w' v (allV d)) ∧ Hid (∀ k ∈ S, w.heap.size ≤ k) ∧ Below w.heap.size w w' := by
  refine (implAll_any d v w (by have := hs.1; omega) (by have := hs.2; omega) h).mono ?_
  rintro e w' ⟨a, n, c, rfl, _, r, b⟩
  obtain ⟨S, h1, h2, _⟩ := r.own
  exact ⟨_, S, rfl, h1, h2, b⟩

set_option maxHeartbeats 12800000 in
theorem walk (d : DiskV) (v_d : Value) (w : World) (hf_d : DiskFit d) (hr_d : DiskRd w v_d d) :
    Calls Try.prog 3 #[v_d] w fun e w' => e = .returned (.bool true) ∧ Below w.heap.size w w' := by
  have HF_d := hide hf_d
  clear hf_d
  have HR_d := hide hr_d
  obtain ⟨p_d0, p_d1, p_d2, p_d3, p_d4, p_d5, p_d6, p_d7, rfl⟩ := hr_d.form
  clear hr_d
  go_enter Try.func3, Try.ntmps3
  obtain ⟨bx1, b2, zz3⟩ := boxNew4 w (.slice p_d0 p_d1 p_d2) (.slice p_d3 p_d4 p_d5) (.int .i64 p_d6) (.bool p_d7) 24
  go_wp2_with fail
  generalize w.alloc (.cells #[.slice p_d0 p_d1 p_d2, .slice p_d3 p_d4 p_d5, .int .i64 p_d6, .bool p_d7] 24) = W4 at *
  have B6 := hide b2
  have Z7 := hide (show w.heap.size < W4.heap.size from zz3)
  have BX5 := hide bx1
  clear bx1 b2 zz3
  refine (szDisk_kit d _ W4 (unhide HF_d) ((unhide HR_d).up (unhide B6))).mono ?_
  rintro e w8 ⟨q9, rfl, HQ10, b11⟩
  have B12 := hide ((unhide B6).trans (b11.mono (unhide B6).size))
  clear B6
  have BX13 := hide ((unhide BX5).up b11)
  clear BX5
  have Z14 := hide (show W4.heap.size ≤ w8.heap.size from b11.size)
  clear b11
  by_cases hnegq9 : q9 < 0
  · go_wp2_with fail
    go_ret
    exact ⟨rfl, unhide B12⟩
  have HS15 := hide (unhide HQ10 (by omega))
  obtain ⟨N_d, HN_d⟩ : ∃ N, Hid (nDisk d = N) := ⟨_, rfl⟩
  have NL_d : N_d ≤ 100000000 := by rw [← unhide HN_d]; exact nDisk_le (unhide HS15)
  have HRS0 := hide (show SmallByteS (allV d) from small_allV (unhide HS15))
  obtain ⟨M_0, HM_0⟩ : ∃ N, Hid (nByteS (allV d) = N) := ⟨_, rfl⟩
  have ML_0 : M_0 ≤ 100000000 := by rw [← unhide HM_0]; exact nByteS_le (unhide HRS0)
  obtain ⟨x16, x17, x18, x19⟩ := (unhide BX13).four
  go_wp2_with fail
  clear x16 x17 x18 x19
  refine (toDisk_kit d _ w8 (unhide HS15) ((unhide HR_d).up (unhide B12))).mono ?_
  rintro e w20 ⟨v21, S22, rfl, O23, L24, b25⟩
  have B26 := hide ((unhide B12).trans (b25.mono (unhide B12).size))
  clear B12
  have BX27 := hide ((unhide BX13).up b25)
  clear BX13
  have Z28 := hide (show w8.heap.size ≤ w20.heap.size from b25.size)
  clear b25
  have H29 := hide (unhide O23).lt
  obtain ⟨x30, x31, x32, x33⟩ := (unhide BX27).four
  go_wp2_with fail
  clear x30 x31 x32 x33
  refine (specAll_kit d _ w20 (unhide HS15) (unhide O23).rd).mono ?_
  rintro e w34 ⟨v36, rfl, U37, b35⟩
  clear O23
  have B38 := hide ((unhide B26).trans (b35.mono (unhide B26).size))
  clear B26
  have BX39 := hide ((unhide BX27).up b35)
  clear BX27
  have Z40 := hide (show w20.heap.size ≤ w34.heap.size from b35.size)
  clear b35
  obtain ⟨q_w0_0, q_w0_1, q_w0_2, rfl⟩ := (unhide U37).form
  have BU41 := hide (Below.refl w34.heap.size w34)
  obtain ⟨x42, x43, x44, x45⟩ := (unhide BX39).four
  go_wp2_with fail
  clear x42 x43 x44 x45
  refine (toDisk_kit d _ w34 (unhide HS15) ((unhide HR_d).up (unhide B38))).mono ?_
  rintro e w46 ⟨v47, S48, rfl, O49, L50, b51⟩
  have B52 := hide ((unhide B38).trans (b51.mono (unhide B38).size))
  clear B38
  have BU53 := hide ((unhide BU41).trans (b51.mono (unhide BU41).size))
  clear BU41
  have BX54 := hide ((unhide BX39).up b51)
  clear BX39
  have Z55 := hide (show w34.heap.size ≤ w46.heap.size from b51.size)
  clear b51
  have H56 := hide (unhide O49).lt
  obtain ⟨r_d0, r_d1, r_d2, r_d3, r_d4, r_d5, r_d6, r_d7, rfl⟩ := (unhide O49).rd.form
  obtain ⟨x57, x58, x59, x60⟩ := (unhide BX54).four
  obtain ⟨bx61, b62, zz63⟩ := boxNew4 w46 (.slice r_d0 r_d1 r_d2) (.slice r_d3 r_d4 r_d5) (.int .i64 r_d6) (.bool r_d7) 28
  go_wp2_with fail
  generalize w46.alloc (.cells #[.slice r_d0 r_d1 r_d2, .slice r_d3 r_d4 r_d5, .int .i64 r_d6, .bool r_d7] 28) = W64 at *
  have B66 := hide ((unhide B52).trans (b62.mono (unhide B52).size))
  clear B52
  have BU67 := hide ((unhide BU53).trans (b62.mono (unhide BU53).size))
  clear BU53
  have BX68 := hide ((unhide BX54).up b62)
  clear BX54
  have O69 := hide ((unhide O49).up b62)
  clear O49
  have Z70 := hide (show w46.heap.size < W64.heap.size from zz63)
  have BX65 := hide bx61
  clear bx61 b62 zz63
  clear x57 x58 x59 x60
  refine (implAll_kit d _ W64 (unhide HS15) (unhide O69).rd).mono ?_
  rintro e w71 ⟨v73, S74, rfl, O75, L76, b72⟩
  have B77 := hide ((unhide B66).trans (b72.mono (unhide B66).size))
  clear B66
  have BU78 := hide ((unhide BU67).trans (b72.mono (unhide BU67).size))
  clear BU67
  have BX79 := hide ((unhide BX68).up b72)
  clear BX68
  have BX80 := hide ((unhide BX65).up b72)
  clear BX65
  have O81 := hide ((unhide O69).up b72)
  clear O69
  have Z82 := hide (show W64.heap.size ≤ w71.heap.size from b72.size)
  clear b72
  obtain ⟨q_g0_0, q_g0_1, q_g0_2, rfl⟩ := (unhide O75).rd.form
  have H83 := hide (unhide O75).lt
  obtain ⟨x84, x85, x86, x87⟩ := (unhide BX79).four
  obtain ⟨x88, x89, x90, x91⟩ := (unhide BX80).four
  go_wp2_with fail
  clear x84 x85 x86 x87 x88 x89 x90 x91
  refine (eqByteS_kit (allV d) _ _ w71 (unhide HRS0) (unhide O75).rd ((unhide U37).up (unhide BU78))).mono ?_
  rintro e w92 ⟨rfl, b93⟩
  have B94 := hide ((unhide B77).trans (b93.mono (unhide B77).size))
  clear B77
  have BU95 := hide ((unhide BU78).trans (b93.mono (unhide BU78).size))
  clear BU78
  have BX96 := hide ((unhide BX79).up b93)
  clear BX79
  have BX97 := hide ((unhide BX80).up b93)
  clear BX80
  have O98 := hide ((unhide O81).up b93)
  clear O81
  have O99 := hide ((unhide O75).up b93)
  clear O75
  have Z100 := hide (show w71.heap.size ≤ w92.heap.size from b93.size)
  clear b93
  obtain ⟨x101, x102, x103, x104⟩ := (unhide BX96).four
  obtain ⟨x105, x106, x107, x108⟩ := (unhide BX97).four
  go_wp2_with fail
  have KP109 := hide (show ∀ X : World, Below w92.heap.size w92 X → (fun (X : World) => (X.cell? ⟨w.heap.size, 0, none⟩ = some (.slice p_d0 p_d1 p_d2) ∧ X.cell? ⟨w.heap.size, 1, none⟩ = some (.slice p_d3 p_d4 p_d5) ∧ X.cell? ⟨w.heap.size, 2, none⟩ = some (.int .i64 p_d6) ∧ X.cell? ⟨w.heap.size, 3, none⟩ = some (.bool p_d7)) ∧ (X.cell? ⟨w46.heap.size, 0, none⟩ = some (.slice r_d0 r_d1 r_d2) ∧ X.cell? ⟨w46.heap.size, 1, none⟩ = some (.slice r_d3 r_d4 r_d5) ∧ X.cell? ⟨w46.heap.size, 2, none⟩ = some (.int .i64 r_d6) ∧ X.cell? ⟨w46.heap.size, 3, none⟩ = some (.bool r_d7)) ∧ Hid (Below w92.heap.size w92 X)) X from fun X b => ⟨((unhide BX96).up b).four, ((unhide BX97).up b).four, hide b⟩)
  have BD110 := hide ((Below.refl w92.heap.size w92).drew)
  go_region_held3 (fun (X : World) => (X.cell? ⟨w.heap.size, 0, none⟩ = some (.slice p_d0 p_d1 p_d2) ∧ X.cell? ⟨w.heap.size, 1, none⟩ = some (.slice p_d3 p_d4 p_d5) ∧ X.cell? ⟨w.heap.size, 2, none⟩ = some (.int .i64 p_d6) ∧ X.cell? ⟨w.heap.size, 3, none⟩ = some (.bool p_d7)) ∧ (X.cell? ⟨w46.heap.size, 0, none⟩ = some (.slice r_d0 r_d1 r_d2) ∧ X.cell? ⟨w46.heap.size, 1, none⟩ = some (.slice r_d3 r_d4 r_d5) ∧ X.cell? ⟨w46.heap.size, 2, none⟩ = some (.int .i64 r_d6) ∧ X.cell? ⟨w46.heap.size, 3, none⟩ = some (.bool r_d7)) ∧ Hid (Below w92.heap.size w92 X)) ((refine unhide KP109 _ ?_; exact unhide (by assumption)))
    (first
      | (go_at_call 11; have _t := BB117; refine (eqDisk_kit d _ _ _ (unhide HS15) ((unhide O98).up (unhide BB117)).rd (unhide O114).rd).mono ?_; rintro e w118 ⟨rfl, b119⟩; have BB120 := hide ((unhide BB117).trans (b119.mono (unhide BB117).size)); clear b119)
      | (go_at_call 8; refine (toDisk_kit d _ _ (unhide HS15) ((unhide HR_d).up ((unhide B94).trans ((unhide BD110).mono (unhide B94).size)))).mono ?_; rintro e w111 ⟨v112, S113, rfl, O114, L115, b116⟩; have BB117 := hide ((unhide BD110).trans (b116.mono (unhide BD110).size)); clear b116)
      | fail)
  clear x101 x102 x103 x104 x105 x106 x107 x108
  all_goals
    try clear _t
    have B121 := hide ((unhide B94).trans ((unhide BB120).mono (unhide B94).size))
    clear B94
    have BU122 := hide ((unhide BU95).trans ((unhide BB120).mono (unhide BU95).size))
    clear BU95
    have BX123 := hide ((unhide BX96).up (unhide BB120))
    clear BX96
    have BX124 := hide ((unhide BX97).up (unhide BB120))
    clear BX97
    have O125 := hide ((unhide O98).up (unhide BB120))
    clear O98
    have O126 := hide ((unhide O99).up (unhide BB120))
    clear O99
    have Z127 := hide (show w92.heap.size ≤ w118.heap.size from (unhide BB120).size)
    clear BB120 BB117 KP109 BD110 O114 L115
    obtain ⟨x128, x129, x130, x131⟩ := (unhide BX123).four
    obtain ⟨x132, x133, x134, x135⟩ := (unhide BX124).four
    go_wp2_with fail
    clear x128 x129 x130 x131 x132 x133 x134 x135
    refine (markDisk_kit S48 (d) _ w118 (1) N_d (1) (by omega) (unhide HN_d) (by omega) (unhide HS15) (unhide O125)).mono ?_
    rintro e w136 ⟨rfl, P137⟩
    have t138 := (unhide P137).2
    have B139 := hide ((unhide B121).trans (t138.below (unhide B121).size (fun k hk => by have z := unhide L50 k hk; have y := unhide H56 k hk; have z0 := unhide Z7; have z1 := unhide Z14; have z2 := unhide Z28; have z3 := unhide Z40; have z4 := unhide Z55; have z5 := unhide Z70; have z6 := unhide Z82; have z7 := unhide Z100; have z8 := unhide Z127; omega)))
    clear B121
    have BU140 := hide ((unhide BU122).trans (t138.below (unhide BU122).size (fun k hk => by have z := unhide L50 k hk; have y := unhide H56 k hk; have z0 := unhide Z7; have z1 := unhide Z14; have z2 := unhide Z28; have z3 := unhide Z40; have z4 := unhide Z55; have z5 := unhide Z70; have z6 := unhide Z82; have z7 := unhide Z100; have z8 := unhide Z127; omega)))
    clear BU122
    have BX141 := hide ((unhide BX123).turn t138 (fun hk => by have z := unhide L50 _ hk; have y := unhide H56 _ hk; have z0 := unhide Z7; have z1 := unhide Z14; have z2 := unhide Z28; have z3 := unhide Z40; have z4 := unhide Z55; have z5 := unhide Z70; have z6 := unhide Z82; have z7 := unhide Z100; have z8 := unhide Z127; omega))
    clear BX123
    have BX142 := hide ((unhide BX124).turn t138 (fun hk => by have z := unhide L50 _ hk; have y := unhide H56 _ hk; have z0 := unhide Z7; have z1 := unhide Z14; have z2 := unhide Z28; have z3 := unhide Z40; have z4 := unhide Z55; have z5 := unhide Z70; have z6 := unhide Z82; have z7 := unhide Z100; have z8 := unhide Z127; omega))
    clear BX124
    have O143 := hide ((unhide O126).turn t138 (fun k hk hm => by have z := unhide L50 k hm; have y := unhide H56 k hm; have u := unhide L76 k hk; have v := unhide H83 k hk; have z0 := unhide Z7; have z1 := unhide Z14; have z2 := unhide Z28; have z3 := unhide Z40; have z4 := unhide Z55; have z5 := unhide Z70; have z6 := unhide Z82; have z7 := unhide Z100; have z8 := unhide Z127; omega))
    clear O126
    have Z144 := hide (show w118.heap.size ≤ w136.heap.size from t138.size)
    have O145 := hide (unhide P137).1
    clear P137 t138
    have nf145 : ¬ (1 + (N_d : Int)) < 0 := by omega
    obtain ⟨x146, x147, x148, x149⟩ := (unhide BX141).four
    obtain ⟨x150, x151, x152, x153⟩ := (unhide BX142).four
    go_wp2_with fail
    clear x146 x147 x148 x149 x150 x151 x152 x153
    refine (eqByteS_kit (allV d) _ _ w136 (unhide HRS0) (unhide O143).rd ((unhide U37).up (unhide BU140))).mono ?_
    rintro e w154 ⟨rfl, b155⟩
    have B156 := hide ((unhide B139).trans (b155.mono (unhide B139).size))
    clear B139
    have BU157 := hide ((unhide BU140).trans (b155.mono (unhide BU140).size))
    clear BU140
    have BX158 := hide ((unhide BX141).up b155)
    clear BX141
    have BX159 := hide ((unhide BX142).up b155)
    clear BX142
    have O160 := hide ((unhide O145).up b155)
    clear O145
    have O161 := hide ((unhide O143).up b155)
    clear O143
    have Z162 := hide (show w136.heap.size ≤ w154.heap.size from b155.size)
    clear b155
    obtain ⟨x163, x164, x165, x166⟩ := (unhide BX158).four
    obtain ⟨x167, x168, x169, x170⟩ := (unhide BX159).four
    go_wp2_with fail
    clear x163 x164 x165 x166 x167 x168 x169 x170
    refine (markByteS_kit S74 (allV d) _ w154 (1) M_0 (1) (by omega) (unhide HM_0) (by omega) (unhide HRS0) (unhide O161)).mono ?_
    rintro e w171 ⟨rfl, P172⟩
    have t173 := (unhide P172).2
    have B174 := hide ((unhide B156).trans (t173.below (unhide B156).size (fun k hk => by have z := unhide L76 k hk; have y := unhide H83 k hk; have z0 := unhide Z7; have z1 := unhide Z14; have z2 := unhide Z28; have z3 := unhide Z40; have z4 := unhide Z55; have z5 := unhide Z70; have z6 := unhide Z82; have z7 := unhide Z100; have z8 := unhide Z127; have z9 := unhide Z144; have z10 := unhide Z162; omega)))
    clear B156
    have BU175 := hide ((unhide BU157).trans (t173.below (unhide BU157).size (fun k hk => by have z := unhide L76 k hk; have y := unhide H83 k hk; have z0 := unhide Z7; have z1 := unhide Z14; have z2 := unhide Z28; have z3 := unhide Z40; have z4 := unhide Z55; have z5 := unhide Z70; have z6 := unhide Z82; have z7 := unhide Z100; have z8 := unhide Z127; have z9 := unhide Z144; have z10 := unhide Z162; omega)))
    clear BU157
    have BX176 := hide ((unhide BX158).turn t173 (fun hk => by have z := unhide L76 _ hk; have y := unhide H83 _ hk; have z0 := unhide Z7; have z1 := unhide Z14; have z2 := unhide Z28; have z3 := unhide Z40; have z4 := unhide Z55; have z5 := unhide Z70; have z6 := unhide Z82; have z7 := unhide Z100; have z8 := unhide Z127; have z9 := unhide Z144; have z10 := unhide Z162; omega))
    clear BX158
    have BX177 := hide ((unhide BX159).turn t173 (fun hk => by have z := unhide L76 _ hk; have y := unhide H83 _ hk; have z0 := unhide Z7; have z1 := unhide Z14; have z2 := unhide Z28; have z3 := unhide Z40; have z4 := unhide Z55; have z5 := unhide Z70; have z6 := unhide Z82; have z7 := unhide Z100; have z8 := unhide Z127; have z9 := unhide Z144; have z10 := unhide Z162; omega))
    clear BX159
    have O178 := hide ((unhide O160).turn t173 (fun k hk hm => by have z := unhide L76 k hm; have y := unhide H83 k hm; have u := unhide L50 k hk; have v := unhide H56 k hk; have z0 := unhide Z7; have z1 := unhide Z14; have z2 := unhide Z28; have z3 := unhide Z40; have z4 := unhide Z55; have z5 := unhide Z70; have z6 := unhide Z82; have z7 := unhide Z100; have z8 := unhide Z127; have z9 := unhide Z144; have z10 := unhide Z162; omega))
    clear O160
    have Z179 := hide (show w154.heap.size ≤ w171.heap.size from t173.size)
    have O180 := hide (unhide P172).1
    clear P172 t173
    have nf180 : ¬ (1 + (M_0 : Int)) < 0 := by omega
    obtain ⟨x181, x182, x183, x184⟩ := (unhide BX176).four
    obtain ⟨x185, x186, x187, x188⟩ := (unhide BX177).four
    go_wp2_with fail
    clear x181 x182 x183 x184 x185 x186 x187 x188
    refine (heldByteS_kit (allV d) _ w171 (1) M_0 (1) (by omega) (unhide HM_0) (by omega) (unhide HRS0) (unhide O180).rd).mono ?_
    rintro e w189 ⟨rfl, b190⟩
    have B191 := hide ((unhide B174).trans (b190.mono (unhide B174).size))
    clear B174
    have BU192 := hide ((unhide BU175).trans (b190.mono (unhide BU175).size))
    clear BU175
    have BX193 := hide ((unhide BX176).up b190)
    clear BX176
    have BX194 := hide ((unhide BX177).up b190)
    clear BX177
    have O195 := hide ((unhide O178).up b190)
    clear O178
    have O196 := hide ((unhide O180).up b190)
    clear O180
    have Z197 := hide (show w171.heap.size ≤ w189.heap.size from b190.size)
    clear b190
    obtain ⟨x198, x199, x200, x201⟩ := (unhide BX193).four
    obtain ⟨x202, x203, x204, x205⟩ := (unhide BX194).four
    go_wp2_with fail
    clear x198 x199 x200 x201 x202 x203 x204 x205
    refine (toDisk_kit d _ w189 (unhide HS15) ((unhide HR_d).up (unhide B191))).mono ?_
    rintro e w206 ⟨v207, S208, rfl, O209, L210, b211⟩
    have B212 := hide ((unhide B191).trans (b211.mono (unhide B191).size))
    clear B191
    have BU213 := hide ((unhide BU192).trans (b211.mono (unhide BU192).size))
    clear BU192
    have BX214 := hide ((unhide BX193).up b211)
    clear BX193
    have BX215 := hide ((unhide BX194).up b211)
    clear BX194
    have O216 := hide ((unhide O195).up b211)
    clear O195
    have O217 := hide ((unhide O196).up b211)
    clear O196
    have Z218 := hide (show w189.heap.size ≤ w206.heap.size from b211.size)
    clear b211
    have H219 := hide (unhide O209).lt
    obtain ⟨x220, x221, x222, x223⟩ := (unhide BX214).four
    obtain ⟨x224, x225, x226, x227⟩ := (unhide BX215).four
    go_wp2_with fail
    clear x220 x221 x222 x223 x224 x225 x226 x227
    refine (implAll_kit d _ w206 (unhide HS15) (unhide O209).rd).mono ?_
    rintro e w228 ⟨v230, S231, rfl, O232, L233, b229⟩
    clear O209
    have B234 := hide ((unhide B212).trans (b229.mono (unhide B212).size))
    clear B212
    have BU235 := hide ((unhide BU213).trans (b229.mono (unhide BU213).size))
    clear BU213
    have BX236 := hide ((unhide BX214).up b229)
    clear BX214
    have BX237 := hide ((unhide BX215).up b229)
    clear BX215
    have O238 := hide ((unhide O216).up b229)
    clear O216
    have O239 := hide ((unhide O217).up b229)
    clear O217
    have Z240 := hide (show w206.heap.size ≤ w228.heap.size from b229.size)
    clear b229
    obtain ⟨q_h0_0, q_h0_1, q_h0_2, rfl⟩ := (unhide O232).rd.form
    have H241 := hide (unhide O232).lt
    obtain ⟨x242, x243, x244, x245⟩ := (unhide BX236).four
    obtain ⟨x246, x247, x248, x249⟩ := (unhide BX237).four
    go_wp2_with fail
    clear x242 x243 x244 x245 x246 x247 x248 x249
    refine (eqByteS_kit (allV d) _ _ w228 (unhide HRS0) (unhide O232).rd ((unhide U37).up (unhide BU235))).mono ?_
    rintro e w250 ⟨rfl, b251⟩
    have B252 := hide ((unhide B234).trans (b251.mono (unhide B234).size))
    clear B234
    have BU253 := hide ((unhide BU235).trans (b251.mono (unhide BU235).size))
    clear BU235
    have BX254 := hide ((unhide BX236).up b251)
    clear BX236
    have BX255 := hide ((unhide BX237).up b251)
    clear BX237
    have O256 := hide ((unhide O238).up b251)
    clear O238
    have O257 := hide ((unhide O239).up b251)
    clear O239
    have O258 := hide ((unhide O232).up b251)
    clear O232
    have Z259 := hide (show w228.heap.size ≤ w250.heap.size from b251.size)
    clear b251
    obtain ⟨x260, x261, x262, x263⟩ := (unhide BX254).four
    obtain ⟨x264, x265, x266, x267⟩ := (unhide BX255).four
    go_wp2_with fail
    clear x260 x261 x262 x263 x264 x265 x266 x267
    refine (heldByteS_kit (allV d) _ w250 (1) M_0 (1) (by omega) (unhide HM_0) (by omega) (unhide HRS0) (unhide O257).rd).mono ?_
    rintro e w268 ⟨rfl, b269⟩
    have B270 := hide ((unhide B252).trans (b269.mono (unhide B252).size))
    clear B252
    have BU271 := hide ((unhide BU253).trans (b269.mono (unhide BU253).size))
    clear BU253
    have BX272 := hide ((unhide BX254).up b269)
    clear BX254
    have BX273 := hide ((unhide BX255).up b269)
    clear BX255
    have O274 := hide ((unhide O256).up b269)
    clear O256
    have O275 := hide ((unhide O257).up b269)
    clear O257
    have O276 := hide ((unhide O258).up b269)
    clear O258
    have Z277 := hide (show w250.heap.size ≤ w268.heap.size from b269.size)
    clear b269
    obtain ⟨x278, x279, x280, x281⟩ := (unhide BX272).four
    obtain ⟨x282, x283, x284, x285⟩ := (unhide BX273).four
    go_wp2_with fail
    go_ret
    exact ⟨rfl, unhide B270⟩

theorem own : ownKnob Try.prog.godebug = none := by kernel_rfl
theorem laidOut : laidOutB Try.prog = true := by kernel_rfl

set_option maxRecDepth 100000 in
theorem lifted (os : Os) (started : os.Started) (H : Type) (enc : TypeId × Value → H) :
    ReturnsInHanded {} Try.checked os 3 .any (Rows.fnExactDiskAllSpec.pre6 enc Try.prog Try.f3 Rows.fnExactDiskAllRow.domain false) (Rows.fnExactDiskAllSpec.post enc Try.prog Try.f3 false true false false) := by
  refine returnsInHanded_of_change (C := Try.checked) own started (by kernel_rfl) Try.func3
    (ChangeSpec.witness6 (enc := enc) (C := Try.checked) false ⟨#[], #[.agg #[.slice none 0 0, .slice none 0 0, .int .i64 0, .bool false]], []⟩ 8 (by kernel_rfl) (by kernel_rfl) (by kernel_rfl) (by kernel_rfl)) ?_
  intro W base args ds gs before hval0 hW hcnd _
  have hval : ∀ (j : Nat) t v, Try.f3.params[j]? = some t → args[j]? = some v → Value.okWide Try.prog W .any base t v := hval0
  have hW' := hW
  obtain ⟨p, q, hA0, hV, rfl, hfz, hnd⟩ := hW
  have hA : DataW.TrodAll enc Try.prog W 0 (fun _ => true) true Try.f3.params.toList args.toList ds p := hA0
  rw [Try.params3] at hA hval
  obtain ⟨v0, d0, rfl, rfl, h0⟩ := trodAll_one hA
  obtain ⟨rfl, rfl⟩ := trodVars_none hV
  obtain ⟨cs, rfl, hcs⟩ := aggOf Try.underlying24 cellsDisk (hval 0 24 v0 rfl rfl)
  obtain ⟨c0, c1, c2, c3, rfl⟩ := array4 hcs
  obtain ⟨d, hr, hf⟩ := openDisk h0
  have k0 := h0
  have lt0 : ∀ x ∈ p, x.block < W.heap.size := by obtain ⟨m, hm⟩ := k0; exact DataW.trod_lt m _ _ _ hm
  clear hA0 hval0
  refine (walk d _ W hf hr).mono fun e W' ⟨he, bel⟩ => ?_
  subst he
  exact ⟨_, rfl, _, _, _, [], _, [], hW', trodAll_mk1 (shut_bool Try.underlying4 _), trodAll_mk1 (Below.trod laidOut (by kernel_rfl) (of_decide_eq_true (by kernel_rfl)) k0 bel lt0), rfl, bel.frame _, fun h => by cases h⟩

theorem over : Rows.fnExactDiskAllRow.holds Try.pinned (OpenSpec.ofChange Rows.fnExactDiskAllSpec) :=
  OpenClaim.holds_of_wide 3 Try.f3 rfl rfl rfl rfl rfl rfl rfl ⟨rfl, rfl, rfl, rfl, rfl⟩ rfl rfl rfl rfl rfl (by kernel_rfl) Try.func3 (by kernel_rfl)
    (of_decide_eq_true (by kernel_rfl)) (by unfold Func.isWrapper; first | (rw [if_pos (by decide +kernel)]; kernel_rfl) | (rw [if_neg (by decide +kernel)]; exact ⟨rfl, rfl⟩))
    (fun os started H enc _ => lifted os started H enc)

end Go.Proofs.Ytnkclnlipfihiaa.fnExactDiskAll

namespace Go.Proofs.Ytnkclnlipfihiaa
theorem fnExactDiskAll_holds : Rows.FnExactDiskAllSaid :=
  fnExactDiskAll.over
end Go.Proofs.Ytnkclnlipfihiaa
