/-
  Proved: at every argument the law on StampOnly answers true, and the arguments read afterwards as before: the program cuts a stamp to some sources as the specification does, and its answer owns its memory. No condition.
-/
import Derived.Test.YtmoijeoakkenhaaOnlyFace
import Derived.Test.YtmoijeoakkenhaaMarkRowsOwn
import Derived.Test.YtmoijeoakkenhaaMarkHeld
import Derived.Test.YtmoijeoakkenhaaStrRows
import Derived.Test.YtmoijeoakkenhaaRows
import Derived.WalkKit
import Derived.ProofKit
import Derived.OpenShut
import Derived.Handy
namespace Go.Proofs.Ytmoijeoakkenhaa.fnExactStampOnly
open Go.ChangeShapes Go.WideShapes Go.ChangeAt Go.RowKit Go.Deep Go.Maps
set_option linter.unusedVariables false


set_option maxHeartbeats 12800000 in
theorem walk (ns : List MarkV) (v_ns : Value) (ts : List ByteArray) (v_ts : Value) (w : World) (hf_ns : MarkSFit ns) (hr_ns : MarkSRd w v_ns ns) (hf_ts : StringSFit ts) (hr_ts : StringSRd w v_ts ts) :
    Calls Try.prog 4 #[v_ns, v_ts] w fun e w' => e = .returned (.bool true) ∧ Below w.heap.size w w' := by
  have HF_ns := hide hf_ns
  clear hf_ns
  have HR_ns := hide hr_ns
  obtain ⟨p_ns0, p_ns1, p_ns2, rfl⟩ := hr_ns.form
  clear hr_ns
  have HF_ts := hide hf_ts
  clear hf_ts
  have HR_ts := hide hr_ts
  obtain ⟨p_ts0, p_ts1, p_ts2, rfl⟩ := hr_ts.form
  clear hr_ts
  go_enter Try.func4, Try.ntmps4
  have B00 := hide (Below.refl w.heap.size w)
  go_wp2_with fail
  refine (szMarkS_kitL ns _ 1048576 w (by omega) (by omega) (unhide HF_ns) ((unhide HR_ns).up (unhide B00))).mono ?_
  rintro e w1 ⟨q2, rfl, ql5, HQ3, b4⟩
  have B6 := hide ((unhide B00).trans (b4.mono (unhide B00).size))
  clear B00
  have Z7 := hide (show w.heap.size ≤ w1.heap.size from b4.size)
  clear b4
  by_cases hnegq2 : q2 < 0
  · go_wp2_with fail
    go_ret
    exact ⟨rfl, unhide B6⟩
  have HS8 := hide (unhide HQ3 (by omega))
  go_wp2_with fail
  refine (szStringS_kitL ts _ q2 w1 (by omega) (by omega) (unhide HF_ts) ((unhide HR_ts).up (unhide B6))).mono ?_
  rintro e w9 ⟨q10, rfl, ql13, HQ11, b12⟩
  have B14 := hide ((unhide B6).trans (b12.mono (unhide B6).size))
  clear B6
  have Z15 := hide (show w1.heap.size ≤ w9.heap.size from b12.size)
  clear b12
  by_cases hnegq10 : q10 < 0
  · go_wp2_with fail
    go_ret
    exact ⟨rfl, unhide B14⟩
  have HS16 := hide (unhide HQ11 (by omega))
  obtain ⟨N_ns, HN_ns⟩ : ∃ N, Hid (nMarkS ns = N) := ⟨_, rfl⟩
  have NL_ns : N_ns ≤ 100000000 := by rw [← unhide HN_ns]; exact nMarkS_le (unhide HS8)
  obtain ⟨N_ts, HN_ts⟩ : ∃ N, Hid (nStringS ts = N) := ⟨_, rfl⟩
  have NL_ts : N_ts ≤ 100000000 := by rw [← unhide HN_ts]; exact nStringS_le (unhide HS16)
  have HRS0 := hide (show SmallMarkS (onlyV ns ts) from small_only (unhide HS8) ts)
  obtain ⟨M_0, HM_0⟩ : ∃ N, Hid (nMarkS (onlyV ns ts) = N) := ⟨_, rfl⟩
  have ML_0 : M_0 ≤ 100000000 := by rw [← unhide HM_0]; exact nMarkS_le (unhide HRS0)
  go_wp2_with fail
  refine (toMarkS_kit ns _ w9 (unhide HS8) ((unhide HR_ns).up (unhide B14))).mono ?_
  rintro e w17 ⟨v18, S19, rfl, O20, L21, b22⟩
  have B23 := hide ((unhide B14).trans (b22.mono (unhide B14).size))
  clear B14
  have Z24 := hide (show w9.heap.size ≤ w17.heap.size from b22.size)
  clear b22
  have H25 := hide (unhide O20).lt
  go_wp2_with fail
  refine (toStringS_kit ts _ w17 (unhide HS16) ((unhide HR_ts).up (unhide B23))).mono ?_
  rintro e w26 ⟨v27, S28, rfl, O29, L30, b31⟩
  have B32 := hide ((unhide B23).trans (b31.mono (unhide B23).size))
  clear B23
  have O33 := hide ((unhide O20).up b31)
  clear O20
  have Z34 := hide (show w17.heap.size ≤ w26.heap.size from b31.size)
  clear b31
  have H35 := hide (unhide O29).lt
  go_wp2_with fail
  refine (specOnly_kit ns _ ts _ w26 (unhide HS8) (unhide HS16) (unhide O33).rd (unhide O29).rd).mono ?_
  rintro e w36 ⟨v38, rfl, U39, b37⟩
  clear O33
  clear O29
  have B40 := hide ((unhide B32).trans (b37.mono (unhide B32).size))
  clear B32
  have Z41 := hide (show w26.heap.size ≤ w36.heap.size from b37.size)
  clear b37
  obtain ⟨q_w0_0, q_w0_1, q_w0_2, rfl⟩ := (unhide U39).form
  have BU42 := hide (Below.refl w36.heap.size w36)
  go_wp2_with fail
  refine (toMarkS_kit ns _ w36 (unhide HS8) ((unhide HR_ns).up (unhide B40))).mono ?_
  rintro e w43 ⟨v44, S45, rfl, O46, L47, b48⟩
  have B49 := hide ((unhide B40).trans (b48.mono (unhide B40).size))
  clear B40
  have BU50 := hide ((unhide BU42).trans (b48.mono (unhide BU42).size))
  clear BU42
  have Z51 := hide (show w36.heap.size ≤ w43.heap.size from b48.size)
  clear b48
  have H52 := hide (unhide O46).lt
  obtain ⟨r_ns0, r_ns1, r_ns2, rfl⟩ := (unhide O46).rd.form
  go_wp2_with fail
  refine (toStringS_kit ts _ w43 (unhide HS16) ((unhide HR_ts).up (unhide B49))).mono ?_
  rintro e w53 ⟨v54, S55, rfl, O56, L57, b58⟩
  have B59 := hide ((unhide B49).trans (b58.mono (unhide B49).size))
  clear B49
  have BU60 := hide ((unhide BU50).trans (b58.mono (unhide BU50).size))
  clear BU50
  have O61 := hide ((unhide O46).up b58)
  clear O46
  have Z62 := hide (show w43.heap.size ≤ w53.heap.size from b58.size)
  clear b58
  have H63 := hide (unhide O56).lt
  obtain ⟨r_ts0, r_ts1, r_ts2, rfl⟩ := (unhide O56).rd.form
  go_wp2_with fail
  refine (implOnly_kit ns _ ts _ w53 (unhide HS8) (unhide HS16) (unhide O61).rd (unhide O56).rd).mono ?_
  rintro e w64 ⟨v66, S67, rfl, O68, L69, b65⟩
  have B70 := hide ((unhide B59).trans (b65.mono (unhide B59).size))
  clear B59
  have BU71 := hide ((unhide BU60).trans (b65.mono (unhide BU60).size))
  clear BU60
  have O72 := hide ((unhide O61).up b65)
  clear O61
  have O73 := hide ((unhide O56).up b65)
  clear O56
  have Z74 := hide (show w53.heap.size ≤ w64.heap.size from b65.size)
  clear b65
  obtain ⟨q_g0_0, q_g0_1, q_g0_2, rfl⟩ := (unhide O68).rd.form
  have H75 := hide (unhide O68).lt
  go_wp2_with fail
  refine (eqMarkS_kit (onlyV ns ts) _ _ w64 (unhide HRS0) (unhide O68).rd ((unhide U39).up (unhide BU71))).mono ?_
  rintro e w76 ⟨rfl, b77⟩
  have B78 := hide ((unhide B70).trans (b77.mono (unhide B70).size))
  clear B70
  have BU79 := hide ((unhide BU71).trans (b77.mono (unhide BU71).size))
  clear BU71
  have O80 := hide ((unhide O72).up b77)
  clear O72
  have O81 := hide ((unhide O73).up b77)
  clear O73
  have O82 := hide ((unhide O68).up b77)
  clear O68
  have Z83 := hide (show w64.heap.size ≤ w76.heap.size from b77.size)
  clear b77
  go_wp2_with fail
  refine (toMarkS_kit ns _ w76 (unhide HS8) ((unhide HR_ns).up (unhide B78))).mono ?_
  rintro e w84 ⟨v85, S86, rfl, O87, L88, b89⟩
  have B90 := hide ((unhide B78).trans (b89.mono (unhide B78).size))
  clear B78
  have BU91 := hide ((unhide BU79).trans (b89.mono (unhide BU79).size))
  clear BU79
  have O92 := hide ((unhide O80).up b89)
  clear O80
  have O93 := hide ((unhide O81).up b89)
  clear O81
  have O94 := hide ((unhide O82).up b89)
  clear O82
  have Z95 := hide (show w76.heap.size ≤ w84.heap.size from b89.size)
  clear b89
  have H96 := hide (unhide O87).lt
  go_wp2_with fail
  refine (eqMarkS_kit ns _ _ w84 (unhide HS8) (unhide O92).rd (unhide O87).rd).mono ?_
  rintro e w97 ⟨rfl, b98⟩
  have B99 := hide ((unhide B90).trans (b98.mono (unhide B90).size))
  clear B90
  have BU100 := hide ((unhide BU91).trans (b98.mono (unhide BU91).size))
  clear BU91
  have O101 := hide ((unhide O92).up b98)
  clear O92
  have O102 := hide ((unhide O93).up b98)
  clear O93
  have O103 := hide ((unhide O94).up b98)
  clear O94
  have Z104 := hide (show w84.heap.size ≤ w97.heap.size from b98.size)
  clear b98
  go_wp2_with fail
  refine (toStringS_kit ts _ w97 (unhide HS16) ((unhide HR_ts).up (unhide B99))).mono ?_
  rintro e w105 ⟨v106, S107, rfl, O108, L109, b110⟩
  have B111 := hide ((unhide B99).trans (b110.mono (unhide B99).size))
  clear B99
  have BU112 := hide ((unhide BU100).trans (b110.mono (unhide BU100).size))
  clear BU100
  have O113 := hide ((unhide O101).up b110)
  clear O101
  have O114 := hide ((unhide O102).up b110)
  clear O102
  have O115 := hide ((unhide O103).up b110)
  clear O103
  have Z116 := hide (show w97.heap.size ≤ w105.heap.size from b110.size)
  clear b110
  have H117 := hide (unhide O108).lt
  go_wp2_with fail
  refine (eqStringS_kit ts _ _ w105 (unhide HS16) (unhide O114).rd (unhide O108).rd).mono ?_
  rintro e w118 ⟨rfl, b119⟩
  have B120 := hide ((unhide B111).trans (b119.mono (unhide B111).size))
  clear B111
  have BU121 := hide ((unhide BU112).trans (b119.mono (unhide BU112).size))
  clear BU112
  have O122 := hide ((unhide O113).up b119)
  clear O113
  have O123 := hide ((unhide O114).up b119)
  clear O114
  have O124 := hide ((unhide O115).up b119)
  clear O115
  have Z125 := hide (show w105.heap.size ≤ w118.heap.size from b119.size)
  clear b119
  go_wp2_with fail
  refine (markMarkS_kit S45 (ns) _ w118 (1) N_ns (1) (by omega) (unhide HN_ns) (by omega) (unhide HS8) (unhide O122)).mono ?_
  rintro e w126 ⟨rfl, P127⟩
  have t128 := (unhide P127).2
  have B129 := hide ((unhide B120).trans (t128.below (unhide B120).size (fun k hk => by have z := unhide L47 k hk; have y := unhide H52 k hk; have z0 := unhide Z7; have z1 := unhide Z15; have z2 := unhide Z24; have z3 := unhide Z34; have z4 := unhide Z41; have z5 := unhide Z51; have z6 := unhide Z62; have z7 := unhide Z74; have z8 := unhide Z83; have z9 := unhide Z95; have z10 := unhide Z104; have z11 := unhide Z116; have z12 := unhide Z125; omega)))
  clear B120
  have BU130 := hide ((unhide BU121).trans (t128.below (unhide BU121).size (fun k hk => by have z := unhide L47 k hk; have y := unhide H52 k hk; have z0 := unhide Z7; have z1 := unhide Z15; have z2 := unhide Z24; have z3 := unhide Z34; have z4 := unhide Z41; have z5 := unhide Z51; have z6 := unhide Z62; have z7 := unhide Z74; have z8 := unhide Z83; have z9 := unhide Z95; have z10 := unhide Z104; have z11 := unhide Z116; have z12 := unhide Z125; omega)))
  clear BU121
  have O131 := hide ((unhide O123).turn t128 (fun k hk hm => by have z := unhide L47 k hm; have y := unhide H52 k hm; have u := unhide L57 k hk; have v := unhide H63 k hk; have z0 := unhide Z7; have z1 := unhide Z15; have z2 := unhide Z24; have z3 := unhide Z34; have z4 := unhide Z41; have z5 := unhide Z51; have z6 := unhide Z62; have z7 := unhide Z74; have z8 := unhide Z83; have z9 := unhide Z95; have z10 := unhide Z104; have z11 := unhide Z116; have z12 := unhide Z125; omega))
  clear O123
  have O132 := hide ((unhide O124).turn t128 (fun k hk hm => by have z := unhide L47 k hm; have y := unhide H52 k hm; have u := unhide L69 k hk; have v := unhide H75 k hk; have z0 := unhide Z7; have z1 := unhide Z15; have z2 := unhide Z24; have z3 := unhide Z34; have z4 := unhide Z41; have z5 := unhide Z51; have z6 := unhide Z62; have z7 := unhide Z74; have z8 := unhide Z83; have z9 := unhide Z95; have z10 := unhide Z104; have z11 := unhide Z116; have z12 := unhide Z125; omega))
  clear O124
  have Z133 := hide (show w118.heap.size ≤ w126.heap.size from t128.size)
  have O134 := hide (unhide P127).1
  clear P127 t128
  have nf134 : ¬ (1 + (N_ns : Int)) < 0 := by omega
  go_wp2_with fail
  refine (markStringS_kit S55 (ts) _ w126 (1 + N_ns) N_ts (1 + (N_ns : Int)) (by omega) (unhide HN_ts) (by omega) (unhide HS16) (unhide O131)).mono ?_
  rintro e w135 ⟨rfl, P136⟩
  have t137 := (unhide P136).2
  have B138 := hide ((unhide B129).trans (t137.below (unhide B129).size (fun k hk => by have z := unhide L57 k hk; have y := unhide H63 k hk; have z0 := unhide Z7; have z1 := unhide Z15; have z2 := unhide Z24; have z3 := unhide Z34; have z4 := unhide Z41; have z5 := unhide Z51; have z6 := unhide Z62; have z7 := unhide Z74; have z8 := unhide Z83; have z9 := unhide Z95; have z10 := unhide Z104; have z11 := unhide Z116; have z12 := unhide Z125; have z13 := unhide Z133; omega)))
  clear B129
  have BU139 := hide ((unhide BU130).trans (t137.below (unhide BU130).size (fun k hk => by have z := unhide L57 k hk; have y := unhide H63 k hk; have z0 := unhide Z7; have z1 := unhide Z15; have z2 := unhide Z24; have z3 := unhide Z34; have z4 := unhide Z41; have z5 := unhide Z51; have z6 := unhide Z62; have z7 := unhide Z74; have z8 := unhide Z83; have z9 := unhide Z95; have z10 := unhide Z104; have z11 := unhide Z116; have z12 := unhide Z125; have z13 := unhide Z133; omega)))
  clear BU130
  have O140 := hide ((unhide O134).turn t137 (fun k hk hm => by have z := unhide L57 k hm; have y := unhide H63 k hm; have u := unhide L47 k hk; have v := unhide H52 k hk; have z0 := unhide Z7; have z1 := unhide Z15; have z2 := unhide Z24; have z3 := unhide Z34; have z4 := unhide Z41; have z5 := unhide Z51; have z6 := unhide Z62; have z7 := unhide Z74; have z8 := unhide Z83; have z9 := unhide Z95; have z10 := unhide Z104; have z11 := unhide Z116; have z12 := unhide Z125; have z13 := unhide Z133; omega))
  clear O134
  have O141 := hide ((unhide O132).turn t137 (fun k hk hm => by have z := unhide L57 k hm; have y := unhide H63 k hm; have u := unhide L69 k hk; have v := unhide H75 k hk; have z0 := unhide Z7; have z1 := unhide Z15; have z2 := unhide Z24; have z3 := unhide Z34; have z4 := unhide Z41; have z5 := unhide Z51; have z6 := unhide Z62; have z7 := unhide Z74; have z8 := unhide Z83; have z9 := unhide Z95; have z10 := unhide Z104; have z11 := unhide Z116; have z12 := unhide Z125; have z13 := unhide Z133; omega))
  clear O132
  have Z142 := hide (show w126.heap.size ≤ w135.heap.size from t137.size)
  have O143 := hide (unhide P136).1
  clear P136 t137
  have nf143 : ¬ (1 + (N_ns : Int) + (N_ts : Int)) < 0 := by omega
  go_wp2_with fail
  refine (eqMarkS_kit (onlyV ns ts) _ _ w135 (unhide HRS0) (unhide O141).rd ((unhide U39).up (unhide BU139))).mono ?_
  rintro e w144 ⟨rfl, b145⟩
  have B146 := hide ((unhide B138).trans (b145.mono (unhide B138).size))
  clear B138
  have BU147 := hide ((unhide BU139).trans (b145.mono (unhide BU139).size))
  clear BU139
  have O148 := hide ((unhide O140).up b145)
  clear O140
  have O149 := hide ((unhide O143).up b145)
  clear O143
  have O150 := hide ((unhide O141).up b145)
  clear O141
  have Z151 := hide (show w135.heap.size ≤ w144.heap.size from b145.size)
  clear b145
  go_wp2_with fail
  refine (markMarkS_kit S67 (onlyV ns ts) _ w144 (1) M_0 (1) (by omega) (unhide HM_0) (by omega) (unhide HRS0) (unhide O150)).mono ?_
  rintro e w152 ⟨rfl, P153⟩
  have t154 := (unhide P153).2
  have B155 := hide ((unhide B146).trans (t154.below (unhide B146).size (fun k hk => by have z := unhide L69 k hk; have y := unhide H75 k hk; have z0 := unhide Z7; have z1 := unhide Z15; have z2 := unhide Z24; have z3 := unhide Z34; have z4 := unhide Z41; have z5 := unhide Z51; have z6 := unhide Z62; have z7 := unhide Z74; have z8 := unhide Z83; have z9 := unhide Z95; have z10 := unhide Z104; have z11 := unhide Z116; have z12 := unhide Z125; have z13 := unhide Z133; have z14 := unhide Z142; have z15 := unhide Z151; omega)))
  clear B146
  have BU156 := hide ((unhide BU147).trans (t154.below (unhide BU147).size (fun k hk => by have z := unhide L69 k hk; have y := unhide H75 k hk; have z0 := unhide Z7; have z1 := unhide Z15; have z2 := unhide Z24; have z3 := unhide Z34; have z4 := unhide Z41; have z5 := unhide Z51; have z6 := unhide Z62; have z7 := unhide Z74; have z8 := unhide Z83; have z9 := unhide Z95; have z10 := unhide Z104; have z11 := unhide Z116; have z12 := unhide Z125; have z13 := unhide Z133; have z14 := unhide Z142; have z15 := unhide Z151; omega)))
  clear BU147
  have O157 := hide ((unhide O148).turn t154 (fun k hk hm => by have z := unhide L69 k hm; have y := unhide H75 k hm; have u := unhide L47 k hk; have v := unhide H52 k hk; have z0 := unhide Z7; have z1 := unhide Z15; have z2 := unhide Z24; have z3 := unhide Z34; have z4 := unhide Z41; have z5 := unhide Z51; have z6 := unhide Z62; have z7 := unhide Z74; have z8 := unhide Z83; have z9 := unhide Z95; have z10 := unhide Z104; have z11 := unhide Z116; have z12 := unhide Z125; have z13 := unhide Z133; have z14 := unhide Z142; have z15 := unhide Z151; omega))
  clear O148
  have O158 := hide ((unhide O149).turn t154 (fun k hk hm => by have z := unhide L69 k hm; have y := unhide H75 k hm; have u := unhide L57 k hk; have v := unhide H63 k hk; have z0 := unhide Z7; have z1 := unhide Z15; have z2 := unhide Z24; have z3 := unhide Z34; have z4 := unhide Z41; have z5 := unhide Z51; have z6 := unhide Z62; have z7 := unhide Z74; have z8 := unhide Z83; have z9 := unhide Z95; have z10 := unhide Z104; have z11 := unhide Z116; have z12 := unhide Z125; have z13 := unhide Z133; have z14 := unhide Z142; have z15 := unhide Z151; omega))
  clear O149
  have Z159 := hide (show w144.heap.size ≤ w152.heap.size from t154.size)
  have O160 := hide (unhide P153).1
  clear P153 t154
  have nf160 : ¬ (1 + (M_0 : Int)) < 0 := by omega
  go_wp2_with fail
  refine (heldMarkS_kit (onlyV ns ts) _ w152 (1) M_0 (1) (by omega) (unhide HM_0) (by omega) (unhide HRS0) (unhide O160).rd).mono ?_
  rintro e w161 ⟨rfl, b162⟩
  have B163 := hide ((unhide B155).trans (b162.mono (unhide B155).size))
  clear B155
  have BU164 := hide ((unhide BU156).trans (b162.mono (unhide BU156).size))
  clear BU156
  have O165 := hide ((unhide O157).up b162)
  clear O157
  have O166 := hide ((unhide O158).up b162)
  clear O158
  have O167 := hide ((unhide O160).up b162)
  clear O160
  have Z168 := hide (show w152.heap.size ≤ w161.heap.size from b162.size)
  clear b162
  go_wp2_with fail
  refine (toMarkS_kit ns _ w161 (unhide HS8) ((unhide HR_ns).up (unhide B163))).mono ?_
  rintro e w169 ⟨v170, S171, rfl, O172, L173, b174⟩
  have B175 := hide ((unhide B163).trans (b174.mono (unhide B163).size))
  clear B163
  have BU176 := hide ((unhide BU164).trans (b174.mono (unhide BU164).size))
  clear BU164
  have O177 := hide ((unhide O165).up b174)
  clear O165
  have O178 := hide ((unhide O166).up b174)
  clear O166
  have O179 := hide ((unhide O167).up b174)
  clear O167
  have Z180 := hide (show w161.heap.size ≤ w169.heap.size from b174.size)
  clear b174
  have H181 := hide (unhide O172).lt
  go_wp2_with fail
  refine (toStringS_kit ts _ w169 (unhide HS16) ((unhide HR_ts).up (unhide B175))).mono ?_
  rintro e w182 ⟨v183, S184, rfl, O185, L186, b187⟩
  have B188 := hide ((unhide B175).trans (b187.mono (unhide B175).size))
  clear B175
  have BU189 := hide ((unhide BU176).trans (b187.mono (unhide BU176).size))
  clear BU176
  have O190 := hide ((unhide O177).up b187)
  clear O177
  have O191 := hide ((unhide O178).up b187)
  clear O178
  have O192 := hide ((unhide O179).up b187)
  clear O179
  have O193 := hide ((unhide O172).up b187)
  clear O172
  have Z194 := hide (show w169.heap.size ≤ w182.heap.size from b187.size)
  clear b187
  have H195 := hide (unhide O185).lt
  go_wp2_with fail
  refine (implOnly_kit ns _ ts _ w182 (unhide HS8) (unhide HS16) (unhide O193).rd (unhide O185).rd).mono ?_
  rintro e w196 ⟨v198, S199, rfl, O200, L201, b197⟩
  clear O193
  clear O185
  have B202 := hide ((unhide B188).trans (b197.mono (unhide B188).size))
  clear B188
  have BU203 := hide ((unhide BU189).trans (b197.mono (unhide BU189).size))
  clear BU189
  have O204 := hide ((unhide O190).up b197)
  clear O190
  have O205 := hide ((unhide O191).up b197)
  clear O191
  have O206 := hide ((unhide O192).up b197)
  clear O192
  have Z207 := hide (show w182.heap.size ≤ w196.heap.size from b197.size)
  clear b197
  obtain ⟨q_h0_0, q_h0_1, q_h0_2, rfl⟩ := (unhide O200).rd.form
  have H208 := hide (unhide O200).lt
  go_wp2_with fail
  refine (eqMarkS_kit (onlyV ns ts) _ _ w196 (unhide HRS0) (unhide O200).rd ((unhide U39).up (unhide BU203))).mono ?_
  rintro e w209 ⟨rfl, b210⟩
  have B211 := hide ((unhide B202).trans (b210.mono (unhide B202).size))
  clear B202
  have BU212 := hide ((unhide BU203).trans (b210.mono (unhide BU203).size))
  clear BU203
  have O213 := hide ((unhide O204).up b210)
  clear O204
  have O214 := hide ((unhide O205).up b210)
  clear O205
  have O215 := hide ((unhide O206).up b210)
  clear O206
  have O216 := hide ((unhide O200).up b210)
  clear O200
  have Z217 := hide (show w196.heap.size ≤ w209.heap.size from b210.size)
  clear b210
  go_wp2_with fail
  refine (heldMarkS_kit (onlyV ns ts) _ w209 (1) M_0 (1) (by omega) (unhide HM_0) (by omega) (unhide HRS0) (unhide O215).rd).mono ?_
  rintro e w218 ⟨rfl, b219⟩
  have B220 := hide ((unhide B211).trans (b219.mono (unhide B211).size))
  clear B211
  have BU221 := hide ((unhide BU212).trans (b219.mono (unhide BU212).size))
  clear BU212
  have O222 := hide ((unhide O213).up b219)
  clear O213
  have O223 := hide ((unhide O214).up b219)
  clear O214
  have O224 := hide ((unhide O215).up b219)
  clear O215
  have O225 := hide ((unhide O216).up b219)
  clear O216
  have Z226 := hide (show w209.heap.size ≤ w218.heap.size from b219.size)
  clear b219
  go_wp2_with fail
  go_ret
  exact ⟨rfl, unhide B220⟩

theorem own : ownKnob Try.prog.godebug = none := by kernel_rfl
theorem laidOut : laidOutB Try.prog = true := by kernel_rfl

set_option maxRecDepth 100000 in
theorem lifted (os : Os) (started : os.Started) (H : Type) (enc : TypeId × Value → H) :
    ReturnsInHanded {} Try.checked os 4 .any (Rows.fnExactStampOnlySpec.pre6 enc Try.prog Try.f4 Rows.fnExactStampOnlyRow.domain false) (Rows.fnExactStampOnlySpec.post enc Try.prog Try.f4 false true false false) := by
  refine returnsInHanded_of_change (C := Try.checked) own started (by kernel_rfl) Try.func4
    (ChangeSpec.witness6 (enc := enc) (C := Try.checked) false ⟨#[], #[.slice none 0 0, .slice none 0 0], []⟩ 8 (by kernel_rfl) (by kernel_rfl) (by kernel_rfl) (by kernel_rfl)) ?_
  intro W base args ds gs before hval0 hW hcnd _
  have hval : ∀ (j : Nat) t v, Try.f4.params[j]? = some t → args[j]? = some v → Value.okWide Try.prog W .any base t v := hval0
  have hW' := hW
  obtain ⟨p, q, hA0, hV, rfl, hfz, hnd⟩ := hW
  have hA : DataW.TrodAll enc Try.prog W 0 (fun _ => true) true Try.f4.params.toList args.toList ds p := hA0
  rw [Try.params4] at hA hval
  obtain ⟨v0, vs0, d0, ds0, p0, q0, hargs, rfl, rfl, h0, r0⟩ := trodAll_cons hA
  obtain ⟨v1, vs1, d1, ds1, p1, q1, rfl, rfl, rfl, h1, r1⟩ := trodAll_cons r0
  obtain ⟨rfl, rfl, rfl⟩ := trodAll_nil r1
  obtain rfl : args = #[v0, v1] := by cases args; simp_all
  obtain ⟨rfl, rfl⟩ := trodVars_none hV
  obtain ⟨a0, len0, cap0, rfl⟩ := okWide_slice Try.underlying22 (hval 0 22 v0 rfl rfl)
  have k0 := h0
  have lt0 : ∀ x ∈ p0, x.block < W.heap.size := by obtain ⟨m, hm⟩ := k0; exact DataW.trod_lt m _ _ _ hm
  obtain ⟨ns0, rfl, hl0, hn0, ho0⟩ := openMarkS h0
  obtain ⟨a1, len1, cap1, rfl⟩ := okWide_slice Try.underlying31 (hval 1 31 v1 rfl rfl)
  have k1 := h1
  have lt1 : ∀ x ∈ p1, x.block < W.heap.size := by obtain ⟨m, hm⟩ := k1; exact DataW.trod_lt m _ _ _ hm
  obtain ⟨ns1, rfl, hl1, hn1, ho1⟩ := openStringS h1
  clear hA0 hval0
  refine (walk ns0 _ ns1 _ W ⟨hl0, ho0⟩ ⟨a0, cap0, rfl, hn0⟩ ⟨hl1, ho1⟩ ⟨a1, cap1, rfl, hn1⟩).mono fun e W' ⟨he, bel⟩ => ?_
  subst he
  exact ⟨_, rfl, _, _, _, [], _, [], hW', trodAll_mk1 (shut_bool Try.underlying4 _), (trodAll_cons_mk (Below.trod laidOut (by kernel_rfl) (of_decide_eq_true (by kernel_rfl)) k0 bel lt0) (trodAll_cons_mk (Below.trod laidOut (by kernel_rfl) (of_decide_eq_true (by kernel_rfl)) k1 bel lt1) trodAll_mk0)), rfl, bel.frame _, fun h => by cases h⟩

theorem over : Rows.fnExactStampOnlyRow.holds Try.pinned (OpenSpec.ofChange Rows.fnExactStampOnlySpec) :=
  OpenClaim.holds_of_wide 4 Try.f4 rfl rfl rfl rfl rfl rfl rfl ⟨rfl, rfl, rfl, rfl, rfl⟩ rfl rfl rfl rfl rfl (by kernel_rfl) Try.func4 (by kernel_rfl)
    (of_decide_eq_true (by kernel_rfl)) (by unfold Func.isWrapper; first | (rw [if_pos (by decide +kernel)]; kernel_rfl) | (rw [if_neg (by decide +kernel)]; exact ⟨rfl, rfl⟩))
    (fun os started H enc _ => lifted os started H enc)

end Go.Proofs.Ytmoijeoakkenhaa.fnExactStampOnly

namespace Go.Proofs.Ytmoijeoakkenhaa
theorem fnExactStampOnly_holds : Rows.FnExactStampOnlySaid :=
  fnExactStampOnly.over
end Go.Proofs.Ytmoijeoakkenhaa
