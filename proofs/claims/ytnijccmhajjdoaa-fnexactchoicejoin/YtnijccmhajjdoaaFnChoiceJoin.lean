/-
  Proved: at every argument the law on ChoiceJoin answers true, and the arguments read afterwards as before: the program joins the stamps of a choice as the specification does, and its answer owns its memory. No condition.
-/
import Derived.Test.YtnijccmhajjdoaaMerged11
import Derived.Test.YtnijccmhajjdoaaChJoinI
import Derived.Test.YtnijccmhajjdoaaWinsFull
import Derived.Test.YtnijccmhajjdoaaMerged6
import Derived.Test.YtnijccmhajjdoaaMerged4
import Derived.Test.YtnijccmhajjdoaaRows
import Derived.WalkKit
import Derived.ProofKit
import Derived.OpenShut
import Derived.Handy
namespace Go.Proofs.Ytnijccmhajjdoaa.fnExactChoiceJoin
open Go.ChangeShapes Go.WideShapes Go.ChangeAt Go.RowKit Go.Deep Go.Maps
set_option linter.unusedVariables false

theorem spec_kit (ws : List (List ItemV)) (v : Value) (ps : List Int) (u : Value) (w : World) (hs : SmallItemSSF ws) (hsp : SmallIntS ps) (h : ItemSSRd w v ws) (hp : IntSRd w u ps) :
    Calls Try.prog 10 #[v, u] w fun e w' => ∃ v, e = .returned (.tuple #[v, .bool (chB ws ps)]) ∧ Hid (MarkSRd w' v (chV ws ps)) ∧ Below w.heap.size w w' := specChJoin_any ws v ps u w hs.1 hsp h hp
theorem impl_kit (ws : List (List ItemV)) (v : Value) (ps : List Int) (u : Value) (w : World) (hs : SmallItemSSF ws) (hsp : SmallIntS ps) (h : ItemSSRd w v ws) (hp : IntSRd w u ps) :
    Calls Try.prog 12 #[v, u] w fun e w' => ∃ v S, e = .returned (.tuple #[v, .bool (chB ws ps)]) ∧ Hid (MarkSOwn S w' v (chV ws ps)) ∧ Hid (∀ k ∈ S, w.heap.size ≤ k) ∧ Below w.heap.size w w' := implChJoin_any ws v ps u w hs.1 hsp h hp

set_option maxHeartbeats 12800000 in
theorem walk (ws : List (List ItemV)) (v_ws : Value) (ps : List Int) (v_ps : Value) (w : World) (hf_ws : ItemSSFit ws) (hr_ws : ItemSSRd w v_ws ws) (hf_ps : IntSFit ps) (hr_ps : IntSRd w v_ps ps) :
    Calls Try.prog 4 #[v_ws, v_ps] w fun e w' => e = .returned (.bool true) ∧ Below w.heap.size w w' := by
  have HF_ws := hide hf_ws
  clear hf_ws
  have HR_ws := hide hr_ws
  obtain ⟨p_ws0, p_ws1, p_ws2, rfl⟩ := hr_ws.form
  clear hr_ws
  have HF_ps := hide hf_ps
  clear hf_ps
  have HR_ps := hide hr_ps
  obtain ⟨p_ps0, p_ps1, p_ps2, rfl⟩ := hr_ps.form
  clear hr_ps
  go_enter Try.func4, Try.ntmps4
  have B00 := hide (Below.refl w.heap.size w)
  by_cases hl_ps : (p_ps1 : Int) ≤ 1048576
  rotate_left
  · go_wp2_with fail
    go_ret
    exact ⟨rfl, by go_grown⟩
  have HS1 := hide (small_of_lenI (unhide HF_ps) (unhide HR_ps) hl_ps)
  go_wp2_with fail
  refine (szItemSSF_kit ws _ w (unhide HF_ws) ((unhide HR_ws).up (unhide B00))).mono ?_
  rintro e w2 ⟨q3, rfl, HQ4, b5⟩
  have B6 := hide ((unhide B00).trans (b5.mono (unhide B00).size))
  clear B00
  have Z7 := hide (show w.heap.size ≤ w2.heap.size from b5.size)
  clear b5
  by_cases hnegq3 : q3 < 0
  · go_wp2_with fail
    go_ret
    exact ⟨rfl, unhide B6⟩
  have HS8 := hide (unhide HQ4 (by omega))
  obtain ⟨N_ws, HN_ws⟩ : ∃ N, Hid (nItemSSF ws = N) := ⟨_, rfl⟩
  have NL_ws : N_ws ≤ 100000000 := by rw [← unhide HN_ws]; exact nItemSSF_le (unhide HS8)
  obtain ⟨N_ps, HN_ps⟩ : ∃ N, Hid (nIntS ps = N) := ⟨_, rfl⟩
  have NL_ps : N_ps ≤ 100000000 := by rw [← unhide HN_ps]; exact nIntS_le (unhide HS1)
  have HRS0 := hide (show SmallMarkS (chV ws ps) from small_ch (unhide HS8).1)
  obtain ⟨M_0, HM_0⟩ : ∃ N, Hid (nMarkS (chV ws ps) = N) := ⟨_, rfl⟩
  have ML_0 : M_0 ≤ 100000000 := by rw [← unhide HM_0]; exact nMarkS_le (unhide HRS0)
  go_wp2_with fail
  refine (toItemSSF_kit ws _ w2 (unhide HS8) ((unhide HR_ws).up (unhide B6))).mono ?_
  rintro e w9 ⟨v10, S11, rfl, O12, L13, b14⟩
  have B15 := hide ((unhide B6).trans (b14.mono (unhide B6).size))
  clear B6
  have Z16 := hide (show w2.heap.size ≤ w9.heap.size from b14.size)
  clear b14
  have H17 := hide (unhide O12).lt
  go_wp2_with fail
  refine (toIntS_kit ps _ w9 (unhide HS1) ((unhide HR_ps).up (unhide B15))).mono ?_
  rintro e w18 ⟨v19, S20, rfl, O21, L22, b23⟩
  have B24 := hide ((unhide B15).trans (b23.mono (unhide B15).size))
  clear B15
  have O25 := hide ((unhide O12).up b23)
  clear O12
  have Z26 := hide (show w9.heap.size ≤ w18.heap.size from b23.size)
  clear b23
  have H27 := hide (unhide O21).lt
  go_wp2_with fail
  refine (spec_kit ws _ ps _ w18 (unhide HS8) (unhide HS1) (unhide O25).rd (unhide O21).rd).mono ?_
  rintro e w28 ⟨v30, rfl, U31, b29⟩
  clear O25
  clear O21
  have B32 := hide ((unhide B24).trans (b29.mono (unhide B24).size))
  clear B24
  have Z33 := hide (show w18.heap.size ≤ w28.heap.size from b29.size)
  clear b29
  obtain ⟨q_w0_0, q_w0_1, q_w0_2, rfl⟩ := (unhide U31).form
  have BU34 := hide (Below.refl w28.heap.size w28)
  go_wp2_with fail
  refine (toItemSSF_kit ws _ w28 (unhide HS8) ((unhide HR_ws).up (unhide B32))).mono ?_
  rintro e w35 ⟨v36, S37, rfl, O38, L39, b40⟩
  have B41 := hide ((unhide B32).trans (b40.mono (unhide B32).size))
  clear B32
  have BU42 := hide ((unhide BU34).trans (b40.mono (unhide BU34).size))
  clear BU34
  have Z43 := hide (show w28.heap.size ≤ w35.heap.size from b40.size)
  clear b40
  have H44 := hide (unhide O38).lt
  obtain ⟨r_ws0, r_ws1, r_ws2, rfl⟩ := (unhide O38).rd.form
  go_wp2_with fail
  refine (toIntS_kit ps _ w35 (unhide HS1) ((unhide HR_ps).up (unhide B41))).mono ?_
  rintro e w45 ⟨v46, S47, rfl, O48, L49, b50⟩
  have B51 := hide ((unhide B41).trans (b50.mono (unhide B41).size))
  clear B41
  have BU52 := hide ((unhide BU42).trans (b50.mono (unhide BU42).size))
  clear BU42
  have O53 := hide ((unhide O38).up b50)
  clear O38
  have Z54 := hide (show w35.heap.size ≤ w45.heap.size from b50.size)
  clear b50
  have H55 := hide (unhide O48).lt
  obtain ⟨r_ps0, r_ps1, r_ps2, rfl⟩ := (unhide O48).rd.form
  go_wp2_with fail
  refine (impl_kit ws _ ps _ w45 (unhide HS8) (unhide HS1) (unhide O53).rd (unhide O48).rd).mono ?_
  rintro e w56 ⟨v58, S59, rfl, O60, L61, b57⟩
  have B62 := hide ((unhide B51).trans (b57.mono (unhide B51).size))
  clear B51
  have BU63 := hide ((unhide BU52).trans (b57.mono (unhide BU52).size))
  clear BU52
  have O64 := hide ((unhide O53).up b57)
  clear O53
  have O65 := hide ((unhide O48).up b57)
  clear O48
  have Z66 := hide (show w45.heap.size ≤ w56.heap.size from b57.size)
  clear b57
  obtain ⟨q_g0_0, q_g0_1, q_g0_2, rfl⟩ := (unhide O60).rd.form
  have H67 := hide (unhide O60).lt
  go_wp2_with fail
  refine (eqMarkS_kit (chV ws ps) _ _ w56 (unhide HRS0) (unhide O60).rd ((unhide U31).up (unhide BU63))).mono ?_
  rintro e w68 ⟨rfl, b69⟩
  have B70 := hide ((unhide B62).trans (b69.mono (unhide B62).size))
  clear B62
  have BU71 := hide ((unhide BU63).trans (b69.mono (unhide BU63).size))
  clear BU63
  have O72 := hide ((unhide O64).up b69)
  clear O64
  have O73 := hide ((unhide O65).up b69)
  clear O65
  have O74 := hide ((unhide O60).up b69)
  clear O60
  have Z75 := hide (show w56.heap.size ≤ w68.heap.size from b69.size)
  clear b69
  go_wp2_with fail
  refine (toItemSSF_kit ws _ w68 (unhide HS8) ((unhide HR_ws).up (unhide B70))).mono ?_
  rintro e w76 ⟨v77, S78, rfl, O79, L80, b81⟩
  have B82 := hide ((unhide B70).trans (b81.mono (unhide B70).size))
  clear B70
  have BU83 := hide ((unhide BU71).trans (b81.mono (unhide BU71).size))
  clear BU71
  have O84 := hide ((unhide O72).up b81)
  clear O72
  have O85 := hide ((unhide O73).up b81)
  clear O73
  have O86 := hide ((unhide O74).up b81)
  clear O74
  have Z87 := hide (show w68.heap.size ≤ w76.heap.size from b81.size)
  clear b81
  have H88 := hide (unhide O79).lt
  go_wp2_with fail
  refine (eqItemSSF_kit ws _ _ w76 (unhide HS8) (unhide O84).rd (unhide O79).rd).mono ?_
  rintro e w89 ⟨rfl, b90⟩
  have B91 := hide ((unhide B82).trans (b90.mono (unhide B82).size))
  clear B82
  have BU92 := hide ((unhide BU83).trans (b90.mono (unhide BU83).size))
  clear BU83
  have O93 := hide ((unhide O84).up b90)
  clear O84
  have O94 := hide ((unhide O85).up b90)
  clear O85
  have O95 := hide ((unhide O86).up b90)
  clear O86
  have Z96 := hide (show w76.heap.size ≤ w89.heap.size from b90.size)
  clear b90
  go_wp2_with fail
  refine (toIntS_kit ps _ w89 (unhide HS1) ((unhide HR_ps).up (unhide B91))).mono ?_
  rintro e w97 ⟨v98, S99, rfl, O100, L101, b102⟩
  have B103 := hide ((unhide B91).trans (b102.mono (unhide B91).size))
  clear B91
  have BU104 := hide ((unhide BU92).trans (b102.mono (unhide BU92).size))
  clear BU92
  have O105 := hide ((unhide O93).up b102)
  clear O93
  have O106 := hide ((unhide O94).up b102)
  clear O94
  have O107 := hide ((unhide O95).up b102)
  clear O95
  have Z108 := hide (show w89.heap.size ≤ w97.heap.size from b102.size)
  clear b102
  have H109 := hide (unhide O100).lt
  go_wp2_with fail
  refine (eqIntS_kit ps _ _ w97 (unhide HS1) (unhide O106).rd (unhide O100).rd).mono ?_
  rintro e w110 ⟨rfl, b111⟩
  have B112 := hide ((unhide B103).trans (b111.mono (unhide B103).size))
  clear B103
  have BU113 := hide ((unhide BU104).trans (b111.mono (unhide BU104).size))
  clear BU104
  have O114 := hide ((unhide O105).up b111)
  clear O105
  have O115 := hide ((unhide O106).up b111)
  clear O106
  have O116 := hide ((unhide O107).up b111)
  clear O107
  have Z117 := hide (show w97.heap.size ≤ w110.heap.size from b111.size)
  clear b111
  go_wp2_with fail
  refine (markItemSSF_kit S37 (ws) _ w110 (1) N_ws (1) (by omega) (unhide HN_ws) (by omega) (unhide HS8) (unhide O114)).mono ?_
  rintro e w118 ⟨rfl, P119⟩
  have t120 := (unhide P119).2
  have B121 := hide ((unhide B112).trans (t120.below (unhide B112).size (fun k hk => by have z := unhide L39 k hk; have y := unhide H44 k hk; have z0 := unhide Z7; have z1 := unhide Z16; have z2 := unhide Z26; have z3 := unhide Z33; have z4 := unhide Z43; have z5 := unhide Z54; have z6 := unhide Z66; have z7 := unhide Z75; have z8 := unhide Z87; have z9 := unhide Z96; have z10 := unhide Z108; have z11 := unhide Z117; omega)))
  clear B112
  have BU122 := hide ((unhide BU113).trans (t120.below (unhide BU113).size (fun k hk => by have z := unhide L39 k hk; have y := unhide H44 k hk; have z0 := unhide Z7; have z1 := unhide Z16; have z2 := unhide Z26; have z3 := unhide Z33; have z4 := unhide Z43; have z5 := unhide Z54; have z6 := unhide Z66; have z7 := unhide Z75; have z8 := unhide Z87; have z9 := unhide Z96; have z10 := unhide Z108; have z11 := unhide Z117; omega)))
  clear BU113
  have O123 := hide ((unhide O115).turn t120 (fun k hk hm => by have z := unhide L39 k hm; have y := unhide H44 k hm; have u := unhide L49 k hk; have v := unhide H55 k hk; have z0 := unhide Z7; have z1 := unhide Z16; have z2 := unhide Z26; have z3 := unhide Z33; have z4 := unhide Z43; have z5 := unhide Z54; have z6 := unhide Z66; have z7 := unhide Z75; have z8 := unhide Z87; have z9 := unhide Z96; have z10 := unhide Z108; have z11 := unhide Z117; omega))
  clear O115
  have O124 := hide ((unhide O116).turn t120 (fun k hk hm => by have z := unhide L39 k hm; have y := unhide H44 k hm; have u := unhide L61 k hk; have v := unhide H67 k hk; have z0 := unhide Z7; have z1 := unhide Z16; have z2 := unhide Z26; have z3 := unhide Z33; have z4 := unhide Z43; have z5 := unhide Z54; have z6 := unhide Z66; have z7 := unhide Z75; have z8 := unhide Z87; have z9 := unhide Z96; have z10 := unhide Z108; have z11 := unhide Z117; omega))
  clear O116
  have Z125 := hide (show w110.heap.size ≤ w118.heap.size from t120.size)
  have O126 := hide (unhide P119).1
  clear P119 t120
  have nf126 : ¬ (1 + (N_ws : Int)) < 0 := by omega
  go_wp2_with fail
  refine (markIntS_kit S47 (ps) _ w118 (1 + N_ws) N_ps (1 + (N_ws : Int)) (by omega) (unhide HN_ps) (by omega) (unhide HS1) (unhide O123)).mono ?_
  rintro e w127 ⟨rfl, P128⟩
  have t129 := (unhide P128).2
  have B130 := hide ((unhide B121).trans (t129.below (unhide B121).size (fun k hk => by have z := unhide L49 k hk; have y := unhide H55 k hk; have z0 := unhide Z7; have z1 := unhide Z16; have z2 := unhide Z26; have z3 := unhide Z33; have z4 := unhide Z43; have z5 := unhide Z54; have z6 := unhide Z66; have z7 := unhide Z75; have z8 := unhide Z87; have z9 := unhide Z96; have z10 := unhide Z108; have z11 := unhide Z117; have z12 := unhide Z125; omega)))
  clear B121
  have BU131 := hide ((unhide BU122).trans (t129.below (unhide BU122).size (fun k hk => by have z := unhide L49 k hk; have y := unhide H55 k hk; have z0 := unhide Z7; have z1 := unhide Z16; have z2 := unhide Z26; have z3 := unhide Z33; have z4 := unhide Z43; have z5 := unhide Z54; have z6 := unhide Z66; have z7 := unhide Z75; have z8 := unhide Z87; have z9 := unhide Z96; have z10 := unhide Z108; have z11 := unhide Z117; have z12 := unhide Z125; omega)))
  clear BU122
  have O132 := hide ((unhide O126).turn t129 (fun k hk hm => by have z := unhide L49 k hm; have y := unhide H55 k hm; have u := unhide L39 k hk; have v := unhide H44 k hk; have z0 := unhide Z7; have z1 := unhide Z16; have z2 := unhide Z26; have z3 := unhide Z33; have z4 := unhide Z43; have z5 := unhide Z54; have z6 := unhide Z66; have z7 := unhide Z75; have z8 := unhide Z87; have z9 := unhide Z96; have z10 := unhide Z108; have z11 := unhide Z117; have z12 := unhide Z125; omega))
  clear O126
  have O133 := hide ((unhide O124).turn t129 (fun k hk hm => by have z := unhide L49 k hm; have y := unhide H55 k hm; have u := unhide L61 k hk; have v := unhide H67 k hk; have z0 := unhide Z7; have z1 := unhide Z16; have z2 := unhide Z26; have z3 := unhide Z33; have z4 := unhide Z43; have z5 := unhide Z54; have z6 := unhide Z66; have z7 := unhide Z75; have z8 := unhide Z87; have z9 := unhide Z96; have z10 := unhide Z108; have z11 := unhide Z117; have z12 := unhide Z125; omega))
  clear O124
  have Z134 := hide (show w118.heap.size ≤ w127.heap.size from t129.size)
  have O135 := hide (unhide P128).1
  clear P128 t129
  have nf135 : ¬ (1 + (N_ws : Int) + (N_ps : Int)) < 0 := by omega
  go_wp2_with fail
  refine (eqMarkS_kit (chV ws ps) _ _ w127 (unhide HRS0) (unhide O133).rd ((unhide U31).up (unhide BU131))).mono ?_
  rintro e w136 ⟨rfl, b137⟩
  have B138 := hide ((unhide B130).trans (b137.mono (unhide B130).size))
  clear B130
  have BU139 := hide ((unhide BU131).trans (b137.mono (unhide BU131).size))
  clear BU131
  have O140 := hide ((unhide O132).up b137)
  clear O132
  have O141 := hide ((unhide O135).up b137)
  clear O135
  have O142 := hide ((unhide O133).up b137)
  clear O133
  have Z143 := hide (show w127.heap.size ≤ w136.heap.size from b137.size)
  clear b137
  go_wp2_with fail
  refine (markMarkS_kit S59 (chV ws ps) _ w136 (1) M_0 (1) (by omega) (unhide HM_0) (by omega) (unhide HRS0) (unhide O142)).mono ?_
  rintro e w144 ⟨rfl, P145⟩
  have t146 := (unhide P145).2
  have B147 := hide ((unhide B138).trans (t146.below (unhide B138).size (fun k hk => by have z := unhide L61 k hk; have y := unhide H67 k hk; have z0 := unhide Z7; have z1 := unhide Z16; have z2 := unhide Z26; have z3 := unhide Z33; have z4 := unhide Z43; have z5 := unhide Z54; have z6 := unhide Z66; have z7 := unhide Z75; have z8 := unhide Z87; have z9 := unhide Z96; have z10 := unhide Z108; have z11 := unhide Z117; have z12 := unhide Z125; have z13 := unhide Z134; have z14 := unhide Z143; omega)))
  clear B138
  have BU148 := hide ((unhide BU139).trans (t146.below (unhide BU139).size (fun k hk => by have z := unhide L61 k hk; have y := unhide H67 k hk; have z0 := unhide Z7; have z1 := unhide Z16; have z2 := unhide Z26; have z3 := unhide Z33; have z4 := unhide Z43; have z5 := unhide Z54; have z6 := unhide Z66; have z7 := unhide Z75; have z8 := unhide Z87; have z9 := unhide Z96; have z10 := unhide Z108; have z11 := unhide Z117; have z12 := unhide Z125; have z13 := unhide Z134; have z14 := unhide Z143; omega)))
  clear BU139
  have O149 := hide ((unhide O140).turn t146 (fun k hk hm => by have z := unhide L61 k hm; have y := unhide H67 k hm; have u := unhide L39 k hk; have v := unhide H44 k hk; have z0 := unhide Z7; have z1 := unhide Z16; have z2 := unhide Z26; have z3 := unhide Z33; have z4 := unhide Z43; have z5 := unhide Z54; have z6 := unhide Z66; have z7 := unhide Z75; have z8 := unhide Z87; have z9 := unhide Z96; have z10 := unhide Z108; have z11 := unhide Z117; have z12 := unhide Z125; have z13 := unhide Z134; have z14 := unhide Z143; omega))
  clear O140
  have O150 := hide ((unhide O141).turn t146 (fun k hk hm => by have z := unhide L61 k hm; have y := unhide H67 k hm; have u := unhide L49 k hk; have v := unhide H55 k hk; have z0 := unhide Z7; have z1 := unhide Z16; have z2 := unhide Z26; have z3 := unhide Z33; have z4 := unhide Z43; have z5 := unhide Z54; have z6 := unhide Z66; have z7 := unhide Z75; have z8 := unhide Z87; have z9 := unhide Z96; have z10 := unhide Z108; have z11 := unhide Z117; have z12 := unhide Z125; have z13 := unhide Z134; have z14 := unhide Z143; omega))
  clear O141
  have Z151 := hide (show w136.heap.size ≤ w144.heap.size from t146.size)
  have O152 := hide (unhide P145).1
  clear P145 t146
  have nf152 : ¬ (1 + (M_0 : Int)) < 0 := by omega
  go_wp2_with fail
  refine (heldMarkS_kit (chV ws ps) _ w144 (1) M_0 (1) (by omega) (unhide HM_0) (by omega) (unhide HRS0) (unhide O152).rd).mono ?_
  rintro e w153 ⟨rfl, b154⟩
  have B155 := hide ((unhide B147).trans (b154.mono (unhide B147).size))
  clear B147
  have BU156 := hide ((unhide BU148).trans (b154.mono (unhide BU148).size))
  clear BU148
  have O157 := hide ((unhide O149).up b154)
  clear O149
  have O158 := hide ((unhide O150).up b154)
  clear O150
  have O159 := hide ((unhide O152).up b154)
  clear O152
  have Z160 := hide (show w144.heap.size ≤ w153.heap.size from b154.size)
  clear b154
  go_wp2_with fail
  refine (toItemSSF_kit ws _ w153 (unhide HS8) ((unhide HR_ws).up (unhide B155))).mono ?_
  rintro e w161 ⟨v162, S163, rfl, O164, L165, b166⟩
  have B167 := hide ((unhide B155).trans (b166.mono (unhide B155).size))
  clear B155
  have BU168 := hide ((unhide BU156).trans (b166.mono (unhide BU156).size))
  clear BU156
  have O169 := hide ((unhide O157).up b166)
  clear O157
  have O170 := hide ((unhide O158).up b166)
  clear O158
  have O171 := hide ((unhide O159).up b166)
  clear O159
  have Z172 := hide (show w153.heap.size ≤ w161.heap.size from b166.size)
  clear b166
  have H173 := hide (unhide O164).lt
  go_wp2_with fail
  refine (toIntS_kit ps _ w161 (unhide HS1) ((unhide HR_ps).up (unhide B167))).mono ?_
  rintro e w174 ⟨v175, S176, rfl, O177, L178, b179⟩
  have B180 := hide ((unhide B167).trans (b179.mono (unhide B167).size))
  clear B167
  have BU181 := hide ((unhide BU168).trans (b179.mono (unhide BU168).size))
  clear BU168
  have O182 := hide ((unhide O169).up b179)
  clear O169
  have O183 := hide ((unhide O170).up b179)
  clear O170
  have O184 := hide ((unhide O171).up b179)
  clear O171
  have O185 := hide ((unhide O164).up b179)
  clear O164
  have Z186 := hide (show w161.heap.size ≤ w174.heap.size from b179.size)
  clear b179
  have H187 := hide (unhide O177).lt
  go_wp2_with fail
  refine (impl_kit ws _ ps _ w174 (unhide HS8) (unhide HS1) (unhide O185).rd (unhide O177).rd).mono ?_
  rintro e w188 ⟨v190, S191, rfl, O192, L193, b189⟩
  clear O185
  clear O177
  have B194 := hide ((unhide B180).trans (b189.mono (unhide B180).size))
  clear B180
  have BU195 := hide ((unhide BU181).trans (b189.mono (unhide BU181).size))
  clear BU181
  have O196 := hide ((unhide O182).up b189)
  clear O182
  have O197 := hide ((unhide O183).up b189)
  clear O183
  have O198 := hide ((unhide O184).up b189)
  clear O184
  have Z199 := hide (show w174.heap.size ≤ w188.heap.size from b189.size)
  clear b189
  obtain ⟨q_h0_0, q_h0_1, q_h0_2, rfl⟩ := (unhide O192).rd.form
  have H200 := hide (unhide O192).lt
  go_wp2_with fail
  refine (eqMarkS_kit (chV ws ps) _ _ w188 (unhide HRS0) (unhide O192).rd ((unhide U31).up (unhide BU195))).mono ?_
  rintro e w201 ⟨rfl, b202⟩
  have B203 := hide ((unhide B194).trans (b202.mono (unhide B194).size))
  clear B194
  have BU204 := hide ((unhide BU195).trans (b202.mono (unhide BU195).size))
  clear BU195
  have O205 := hide ((unhide O196).up b202)
  clear O196
  have O206 := hide ((unhide O197).up b202)
  clear O197
  have O207 := hide ((unhide O198).up b202)
  clear O198
  have O208 := hide ((unhide O192).up b202)
  clear O192
  have Z209 := hide (show w188.heap.size ≤ w201.heap.size from b202.size)
  clear b202
  go_wp2_with fail
  refine (heldMarkS_kit (chV ws ps) _ w201 (1) M_0 (1) (by omega) (unhide HM_0) (by omega) (unhide HRS0) (unhide O207).rd).mono ?_
  rintro e w210 ⟨rfl, b211⟩
  have B212 := hide ((unhide B203).trans (b211.mono (unhide B203).size))
  clear B203
  have BU213 := hide ((unhide BU204).trans (b211.mono (unhide BU204).size))
  clear BU204
  have O214 := hide ((unhide O205).up b211)
  clear O205
  have O215 := hide ((unhide O206).up b211)
  clear O206
  have O216 := hide ((unhide O207).up b211)
  clear O207
  have O217 := hide ((unhide O208).up b211)
  clear O208
  have Z218 := hide (show w201.heap.size ≤ w210.heap.size from b211.size)
  clear b211
  go_wp2_with fail
  go_ret
  exact ⟨rfl, unhide B212⟩

theorem own : ownKnob Try.prog.godebug = none := by kernel_rfl
theorem laidOut : laidOutB Try.prog = true := by kernel_rfl

set_option maxRecDepth 100000 in
theorem lifted (os : Os) (started : os.Started) (H : Type) (enc : TypeId × Value → H) :
    ReturnsInHanded {} Try.checked os 4 .any (Rows.fnExactChoiceJoinSpec.pre6 enc Try.prog Try.f4 Rows.fnExactChoiceJoinRow.domain false) (Rows.fnExactChoiceJoinSpec.post enc Try.prog Try.f4 false true false false) := by
  refine returnsInHanded_of_change (C := Try.checked) own started (by kernel_rfl) Try.func4
    (ChangeSpec.witness6 (enc := enc) (C := Try.checked) false ⟨#[], #[.slice none 0 0, .slice none 0 0], []⟩ 8 (by kernel_rfl) (by kernel_rfl) (by kernel_rfl) (by kernel_rfl)) ?_
  intro W base args ds gs before hval0 hW hcnd _
  have hval : ∀ (j : Nat) t v, Try.f4.params[j]? = some t → args[j]? = some v → Value.okWide Try.prog W .any base t v := hval0
  have hW' := hW
  obtain ⟨p, q, hA0, hV, rfl, hfz, hnd⟩ := hW
  have hA : DataW.TrodAll enc Try.prog W 0 (fun _ => true) true Try.f4.params.toList args.toList ds p := hA0
  rw [Try.params4] at hA hval
  obtain ⟨v0, vs0, d0, ds0, p0, q0, hargs, rfl, rfl, h0, r0⟩ := trodAll_cons hA
  obtain ⟨v1, vs1, d1, ds1, p1, q1, rfl, rfl, rfl, h1, r1⟩ := trodAll_cons r0
  obtain ⟨rfl, rfl, rfl⟩ := trodAll_nil r1
  obtain rfl : args = #[v0, v1] := by cases args; simp_all
  obtain ⟨rfl, rfl⟩ := trodVars_none hV
  obtain ⟨a0, len0, cap0, rfl⟩ := okWide_slice Try.underlying22 (hval 0 22 v0 rfl rfl)
  have k0 := h0
  have lt0 : ∀ x ∈ p0, x.block < W.heap.size := by obtain ⟨m, hm⟩ := k0; exact DataW.trod_lt m _ _ _ hm
  obtain ⟨ns0, rfl, hl0, hn0, ho0⟩ := openItemSS h0
  obtain ⟨a1, len1, cap1, rfl⟩ := okWide_slice Try.underlying29 (hval 1 29 v1 rfl rfl)
  have k1 := h1
  have lt1 : ∀ x ∈ p1, x.block < W.heap.size := by obtain ⟨m, hm⟩ := k1; exact DataW.trod_lt m _ _ _ hm
  obtain ⟨ns1, rfl, hl1, hn1, ho1⟩ := openIntS h1
  clear hA0 hval0
  refine (walk ns0 _ ns1 _ W ⟨hl0, ho0⟩ ⟨a0, cap0, rfl, hn0⟩ ⟨hl1, ho1⟩ ⟨a1, cap1, rfl, hn1⟩).mono fun e W' ⟨he, bel⟩ => ?_
  subst he
  exact ⟨_, rfl, _, _, _, [], _, [], hW', trodAll_mk1 (shut_bool Try.underlying4 _), (trodAll_cons_mk (Below.trod laidOut (by kernel_rfl) (of_decide_eq_true (by kernel_rfl)) k0 bel lt0) (trodAll_cons_mk (Below.trod laidOut (by kernel_rfl) (of_decide_eq_true (by kernel_rfl)) k1 bel lt1) trodAll_mk0)), rfl, bel.frame _, fun h => by cases h⟩

theorem over : Rows.fnExactChoiceJoinRow.holds Try.pinned (OpenSpec.ofChange Rows.fnExactChoiceJoinSpec) :=
  OpenClaim.holds_of_wide 4 Try.f4 rfl rfl rfl rfl rfl rfl rfl ⟨rfl, rfl, rfl, rfl, rfl⟩ rfl rfl rfl rfl rfl (by kernel_rfl) Try.func4 (by kernel_rfl)
    (of_decide_eq_true (by kernel_rfl)) (by unfold Func.isWrapper; first | (rw [if_pos (by decide +kernel)]; kernel_rfl) | (rw [if_neg (by decide +kernel)]; exact ⟨rfl, rfl⟩))
    (fun os started H enc _ => lifted os started H enc)

end Go.Proofs.Ytnijccmhajjdoaa.fnExactChoiceJoin

namespace Go.Proofs.Ytnijccmhajjdoaa
theorem fnExactChoiceJoin_holds : Rows.FnExactChoiceJoinSaid :=
  fnExactChoiceJoin.over
end Go.Proofs.Ytnijccmhajjdoaa
