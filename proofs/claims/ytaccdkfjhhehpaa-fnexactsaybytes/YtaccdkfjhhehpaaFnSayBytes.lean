/-
  Proved: at every argument the law on SayBytes answers true, and the argument reads afterwards as before: the program writes a word as the specification does, and its answer owns its memory. No condition.
-/
import Derived.Test.YtaccdkfjhhehpaaSayBytesJ
import Derived.Test.YtaccdkfjhhehpaaVerMarks
import Derived.Test.YtaccdkfjhhehpaaByKit
import Derived.Test.YtaccdkfjhhehpaaBoxes
import Derived.Test.YtaccdkfjhhehpaaRows
import Derived.WalkKit
import Derived.ProofKit
import Derived.OpenShut
import Derived.Handy
namespace Go.Proofs.Ytaccdkfjhhehpaa.fnExactSayBytes
open Go.ChangeShapes Go.WideShapes Go.ChangeAt Go.RowKit Go.Deep Go.Maps
set_option linter.unusedVariables false

theorem small_say (d : SayV) : SmallByteS (sayBytesL d) := by have := sayBytesL_len d; unfold SmallByteS; omega
theorem spec_kit (d : SayV) (v : Value) (w : World) (hs : SmallSay d) (h : SayRd w v d) :
    Calls Try.prog 6 #[v] w fun e w' => ∃ v, e = .returned (.tuple #[v, .bool (sayOkB d)]) ∧ Hid (ByRd w' v (sayBytesL d)) ∧ Below w.heap.size w w' := by
  refine (specSayBytes_any d v w hs h).mono ?_
  rintro e w' ⟨a, n, c, rfl, h, b⟩
  exact ⟨_, rfl, h.rd, b⟩
theorem impl_kit (d : SayV) (v : Value) (w : World) (hs : SmallSay d) (h : SayRd w v d) :
    Calls Try.prog 8 #[v] w fun e w' => ∃ v S, e = .returned (.tuple #[v, .bool (sayOkB d)]) ∧ Hid (ByOwn S w' v (sayBytesL d)) ∧ Hid (∀ k ∈ S, w.heap.size ≤ k) ∧ Below w.heap.size w w' := by
  refine (implSayBytes_any d v w hs h).mono ?_
  rintro e w' ⟨a, n, c, rfl, h, b⟩
  obtain ⟨S, h1, h2, _⟩ := h.own
  exact ⟨_, S, rfl, h1, h2, b⟩

set_option maxHeartbeats 12800000 in
theorem walk (d : SayV) (v_d : Value) (w : World) (hf_d : SayFit d) (hr_d : SayRd w v_d d) :
    Calls Try.prog 3 #[v_d] w fun e w' => e = .returned (.bool true) ∧ Below w.heap.size w w' := by
  have HF_d := hide hf_d
  clear hf_d
  have HR_d := hide hr_d
  obtain ⟨p_d0, p_d1, p_d2, p_d3, p_d4, p_d5, p_d6, p_d7, rfl⟩ := hr_d.form
  clear hr_d
  go_enter Try.func3, Try.ntmps3
  obtain ⟨bx1, b2, zz3⟩ := boxNew6 w (.int .i64 p_d0) (.int .i64 p_d1) (.int .i64 p_d2) (.string p_d3) (.int .i64 p_d4) (.slice p_d5 p_d6 p_d7) 24
  go_wp2_with fail
  generalize w.alloc (.cells #[.int .i64 p_d0, .int .i64 p_d1, .int .i64 p_d2, .string p_d3, .int .i64 p_d4, .slice p_d5 p_d6 p_d7] 24) = W4 at *
  have B6 := hide b2
  have Z7 := hide (show w.heap.size < W4.heap.size from zz3)
  have BX5 := hide bx1
  clear bx1 b2 zz3
  refine (szSay_kit d _ W4 (unhide HF_d) ((unhide HR_d).up (unhide B6))).mono ?_
  rintro e w8 ⟨q9, rfl, HQ10, b11⟩
  have B12 := hide ((unhide B6).trans (b11.mono (unhide B6).size))
  clear B6
  have BX13 := hide ((unhide BX5).up b11)
  clear BX5
  have Z14 := hide (show W4.heap.size ≤ w8.heap.size from b11.size)
  clear b11
  by_cases hnegq9 : q9 < 0
  · go_wp2_with fail
    go_ret
    exact ⟨rfl, unhide B12⟩
  have HS15 := hide (unhide HQ10 (by omega))
  obtain ⟨N_d, HN_d⟩ : ∃ N, Hid (nSay d = N) := ⟨_, rfl⟩
  have NL_d : N_d ≤ 100000000 := by rw [← unhide HN_d]; exact nSay_le (unhide HS15)
  have HRS0 := hide (show SmallByteS (sayBytesL d) from small_say d)
  obtain ⟨M_0, HM_0⟩ : ∃ N, Hid (nByteS (sayBytesL d) = N) := ⟨_, rfl⟩
  have ML_0 : M_0 ≤ 100000000 := by rw [← unhide HM_0]; exact nByteS_le (unhide HRS0)
  obtain ⟨x16, x17, x18, x19, x20, x21⟩ := (unhide BX13).six
  go_wp2_with fail
  clear x16 x17 x18 x19 x20 x21
  refine (toSay_kit d _ w8 (unhide HS15) ((unhide HR_d).up (unhide B12))).mono ?_
  rintro e w22 ⟨v23, S24, rfl, O25, L26, b27⟩
  have B28 := hide ((unhide B12).trans (b27.mono (unhide B12).size))
  clear B12
  have BX29 := hide ((unhide BX13).up b27)
  clear BX13
  have Z30 := hide (show w8.heap.size ≤ w22.heap.size from b27.size)
  clear b27
  have H31 := hide (unhide O25).lt
  obtain ⟨x32, x33, x34, x35, x36, x37⟩ := (unhide BX29).six
  go_wp2_with fail
  clear x32 x33 x34 x35 x36 x37
  refine (spec_kit d _ w22 (unhide HS15) (unhide O25).rd).mono ?_
  rintro e w38 ⟨v40, rfl, U41, b39⟩
  clear O25
  have B42 := hide ((unhide B28).trans (b39.mono (unhide B28).size))
  clear B28
  have BX43 := hide ((unhide BX29).up b39)
  clear BX29
  have Z44 := hide (show w22.heap.size ≤ w38.heap.size from b39.size)
  clear b39
  obtain ⟨q_w0_0, q_w0_1, q_w0_2, rfl⟩ := (unhide U41).form
  have BU45 := hide (Below.refl w38.heap.size w38)
  obtain ⟨x46, x47, x48, x49, x50, x51⟩ := (unhide BX43).six
  go_wp2_with fail
  clear x46 x47 x48 x49 x50 x51
  refine (toSay_kit d _ w38 (unhide HS15) ((unhide HR_d).up (unhide B42))).mono ?_
  rintro e w52 ⟨v53, S54, rfl, O55, L56, b57⟩
  have B58 := hide ((unhide B42).trans (b57.mono (unhide B42).size))
  clear B42
  have BU59 := hide ((unhide BU45).trans (b57.mono (unhide BU45).size))
  clear BU45
  have BX60 := hide ((unhide BX43).up b57)
  clear BX43
  have Z61 := hide (show w38.heap.size ≤ w52.heap.size from b57.size)
  clear b57
  have H62 := hide (unhide O55).lt
  obtain ⟨r_d0, r_d1, r_d2, r_d3, r_d4, r_d5, r_d6, r_d7, rfl⟩ := (unhide O55).rd.form
  obtain ⟨x63, x64, x65, x66, x67, x68⟩ := (unhide BX60).six
  have lt69 : w.heap.size < w52.heap.size := (unhide BX60).1
  obtain ⟨bx70, b71, zz72⟩ := boxNew6 w52 (.int .i64 r_d0) (.int .i64 r_d1) (.int .i64 r_d2) (.string r_d3) (.int .i64 r_d4) (.slice r_d5 r_d6 r_d7) 31
  go_wp2_with fail
  generalize w52.alloc (.cells #[.int .i64 r_d0, .int .i64 r_d1, .int .i64 r_d2, .string r_d3, .int .i64 r_d4, .slice r_d5 r_d6 r_d7] 31) = W73 at *
  have B75 := hide ((unhide B58).trans (b71.mono (unhide B58).size))
  clear B58
  have BU76 := hide ((unhide BU59).trans (b71.mono (unhide BU59).size))
  clear BU59
  have BX77 := hide ((unhide BX60).up b71)
  clear BX60
  have O78 := hide ((unhide O55).up b71)
  clear O55
  have Z79 := hide (show w52.heap.size < W73.heap.size from zz72)
  have BX74 := hide bx70
  clear bx70 b71 zz72
  clear x63 x64 x65 x66 x67 x68 lt69
  refine (impl_kit d _ W73 (unhide HS15) (unhide O78).rd).mono ?_
  rintro e w80 ⟨v82, S83, rfl, O84, L85, b81⟩
  have B86 := hide ((unhide B75).trans (b81.mono (unhide B75).size))
  clear B75
  have BU87 := hide ((unhide BU76).trans (b81.mono (unhide BU76).size))
  clear BU76
  have BX88 := hide ((unhide BX77).up b81)
  clear BX77
  have BX89 := hide ((unhide BX74).up b81)
  clear BX74
  have O90 := hide ((unhide O78).up b81)
  clear O78
  have Z91 := hide (show W73.heap.size ≤ w80.heap.size from b81.size)
  clear b81
  obtain ⟨q_g0_0, q_g0_1, q_g0_2, rfl⟩ := (unhide O84).rd.form
  have H92 := hide (unhide O84).lt
  obtain ⟨x93, x94, x95, x96, x97, x98⟩ := (unhide BX88).six
  obtain ⟨x99, x100, x101, x102, x103, x104⟩ := (unhide BX89).six
  go_wp2_with fail
  clear x93 x94 x95 x96 x97 x98 x99 x100 x101 x102 x103 x104
  refine (eqByteS_kit (sayBytesL d) _ _ w80 (unhide HRS0) (unhide O84).rd ((unhide U41).up (unhide BU87))).mono ?_
  rintro e w105 ⟨rfl, b106⟩
  have B107 := hide ((unhide B86).trans (b106.mono (unhide B86).size))
  clear B86
  have BU108 := hide ((unhide BU87).trans (b106.mono (unhide BU87).size))
  clear BU87
  have BX109 := hide ((unhide BX88).up b106)
  clear BX88
  have BX110 := hide ((unhide BX89).up b106)
  clear BX89
  have O111 := hide ((unhide O90).up b106)
  clear O90
  have O112 := hide ((unhide O84).up b106)
  clear O84
  have Z113 := hide (show w80.heap.size ≤ w105.heap.size from b106.size)
  clear b106
  obtain ⟨x114, x115, x116, x117, x118, x119⟩ := (unhide BX109).six
  obtain ⟨x120, x121, x122, x123, x124, x125⟩ := (unhide BX110).six
  go_wp2_with fail
  have KP126 := hide (show ∀ X : World, Below w105.heap.size w105 X → (fun (X : World) => (X.cell? ⟨w.heap.size, 0, none⟩ = some (.int .i64 p_d0) ∧ X.cell? ⟨w.heap.size, 1, none⟩ = some (.int .i64 p_d1) ∧ X.cell? ⟨w.heap.size, 2, none⟩ = some (.int .i64 p_d2) ∧ X.cell? ⟨w.heap.size, 3, none⟩ = some (.string p_d3) ∧ X.cell? ⟨w.heap.size, 4, none⟩ = some (.int .i64 p_d4) ∧ X.cell? ⟨w.heap.size, 5, none⟩ = some (.slice p_d5 p_d6 p_d7)) ∧ (X.cell? ⟨w52.heap.size, 0, none⟩ = some (.int .i64 r_d0) ∧ X.cell? ⟨w52.heap.size, 1, none⟩ = some (.int .i64 r_d1) ∧ X.cell? ⟨w52.heap.size, 2, none⟩ = some (.int .i64 r_d2) ∧ X.cell? ⟨w52.heap.size, 3, none⟩ = some (.string r_d3) ∧ X.cell? ⟨w52.heap.size, 4, none⟩ = some (.int .i64 r_d4) ∧ X.cell? ⟨w52.heap.size, 5, none⟩ = some (.slice r_d5 r_d6 r_d7)) ∧ Hid (Below w105.heap.size w105 X)) X from fun X b => ⟨((unhide BX109).up b).six, ((unhide BX110).up b).six, hide b⟩)
  have BD127 := hide ((Below.refl w105.heap.size w105).drew)
  go_region_held3 (fun (X : World) => (X.cell? ⟨w.heap.size, 0, none⟩ = some (.int .i64 p_d0) ∧ X.cell? ⟨w.heap.size, 1, none⟩ = some (.int .i64 p_d1) ∧ X.cell? ⟨w.heap.size, 2, none⟩ = some (.int .i64 p_d2) ∧ X.cell? ⟨w.heap.size, 3, none⟩ = some (.string p_d3) ∧ X.cell? ⟨w.heap.size, 4, none⟩ = some (.int .i64 p_d4) ∧ X.cell? ⟨w.heap.size, 5, none⟩ = some (.slice p_d5 p_d6 p_d7)) ∧ (X.cell? ⟨w52.heap.size, 0, none⟩ = some (.int .i64 r_d0) ∧ X.cell? ⟨w52.heap.size, 1, none⟩ = some (.int .i64 r_d1) ∧ X.cell? ⟨w52.heap.size, 2, none⟩ = some (.int .i64 r_d2) ∧ X.cell? ⟨w52.heap.size, 3, none⟩ = some (.string r_d3) ∧ X.cell? ⟨w52.heap.size, 4, none⟩ = some (.int .i64 r_d4) ∧ X.cell? ⟨w52.heap.size, 5, none⟩ = some (.slice r_d5 r_d6 r_d7)) ∧ Hid (Below w105.heap.size w105 X)) ((refine unhide KP126 _ ?_; exact unhide (by assumption)))
    (first
      | (go_at_call 10; have _t := BB134; refine (eqSay_kit d _ _ _ (unhide HS15) ((unhide O111).up (unhide BB134)).rd (unhide O131).rd).mono ?_; rintro e w135 ⟨rfl, b136⟩; have BB137 := hide ((unhide BB134).trans (b136.mono (unhide BB134).size)); clear b136)
      | (go_at_call 7; refine (toSay_kit d _ _ (unhide HS15) ((unhide HR_d).up ((unhide B107).trans ((unhide BD127).mono (unhide B107).size)))).mono ?_; rintro e w128 ⟨v129, S130, rfl, O131, L132, b133⟩; have BB134 := hide ((unhide BD127).trans (b133.mono (unhide BD127).size)); clear b133)
      | fail)
  clear x114 x115 x116 x117 x118 x119 x120 x121 x122 x123 x124 x125
  all_goals
    try clear _t
    have B138 := hide ((unhide B107).trans ((unhide BB137).mono (unhide B107).size))
    clear B107
    have BU139 := hide ((unhide BU108).trans ((unhide BB137).mono (unhide BU108).size))
    clear BU108
    have BX140 := hide ((unhide BX109).up (unhide BB137))
    clear BX109
    have BX141 := hide ((unhide BX110).up (unhide BB137))
    clear BX110
    have O142 := hide ((unhide O111).up (unhide BB137))
    clear O111
    have O143 := hide ((unhide O112).up (unhide BB137))
    clear O112
    have Z144 := hide (show w105.heap.size ≤ w135.heap.size from (unhide BB137).size)
    clear BB137 BB134 KP126 BD127 O131 L132
    obtain ⟨x145, x146, x147, x148, x149, x150⟩ := (unhide BX140).six
    obtain ⟨x151, x152, x153, x154, x155, x156⟩ := (unhide BX141).six
    go_wp2_with fail
    clear x145 x146 x147 x148 x149 x150 x151 x152 x153 x154 x155 x156
    refine (markSay_kit S54 (d) _ w135 (1) N_d (1) (by omega) (unhide HN_d) (by omega) (unhide HS15) (unhide O142)).mono ?_
    rintro e w157 ⟨rfl, P158⟩
    have t159 := (unhide P158).2
    have B160 := hide ((unhide B138).trans (t159.below (unhide B138).size (fun k hk => by have z := unhide L56 k hk; have y := unhide H62 k hk; have z0 := unhide Z7; have z1 := unhide Z14; have z2 := unhide Z30; have z3 := unhide Z44; have z4 := unhide Z61; have z5 := unhide Z79; have z6 := unhide Z91; have z7 := unhide Z113; have z8 := unhide Z144; omega)))
    clear B138
    have BU161 := hide ((unhide BU139).trans (t159.below (unhide BU139).size (fun k hk => by have z := unhide L56 k hk; have y := unhide H62 k hk; have z0 := unhide Z7; have z1 := unhide Z14; have z2 := unhide Z30; have z3 := unhide Z44; have z4 := unhide Z61; have z5 := unhide Z79; have z6 := unhide Z91; have z7 := unhide Z113; have z8 := unhide Z144; omega)))
    clear BU139
    have BX162 := hide ((unhide BX140).turn t159 (fun hk => by have z := unhide L56 _ hk; have y := unhide H62 _ hk; have z0 := unhide Z7; have z1 := unhide Z14; have z2 := unhide Z30; have z3 := unhide Z44; have z4 := unhide Z61; have z5 := unhide Z79; have z6 := unhide Z91; have z7 := unhide Z113; have z8 := unhide Z144; omega))
    clear BX140
    have BX163 := hide ((unhide BX141).turn t159 (fun hk => by have z := unhide L56 _ hk; have y := unhide H62 _ hk; have z0 := unhide Z7; have z1 := unhide Z14; have z2 := unhide Z30; have z3 := unhide Z44; have z4 := unhide Z61; have z5 := unhide Z79; have z6 := unhide Z91; have z7 := unhide Z113; have z8 := unhide Z144; omega))
    clear BX141
    have O164 := hide ((unhide O143).turn t159 (fun k hk hm => by have z := unhide L56 k hm; have y := unhide H62 k hm; have u := unhide L85 k hk; have v := unhide H92 k hk; have z0 := unhide Z7; have z1 := unhide Z14; have z2 := unhide Z30; have z3 := unhide Z44; have z4 := unhide Z61; have z5 := unhide Z79; have z6 := unhide Z91; have z7 := unhide Z113; have z8 := unhide Z144; omega))
    clear O143
    have Z165 := hide (show w135.heap.size ≤ w157.heap.size from t159.size)
    have O166 := hide (unhide P158).1
    clear P158 t159
    have nf166 : ¬ (1 + (N_d : Int)) < 0 := by omega
    obtain ⟨x167, x168, x169, x170, x171, x172⟩ := (unhide BX162).six
    obtain ⟨x173, x174, x175, x176, x177, x178⟩ := (unhide BX163).six
    go_wp2_with fail
    clear x167 x168 x169 x170 x171 x172 x173 x174 x175 x176 x177 x178
    refine (eqByteS_kit (sayBytesL d) _ _ w157 (unhide HRS0) (unhide O164).rd ((unhide U41).up (unhide BU161))).mono ?_
    rintro e w179 ⟨rfl, b180⟩
    have B181 := hide ((unhide B160).trans (b180.mono (unhide B160).size))
    clear B160
    have BU182 := hide ((unhide BU161).trans (b180.mono (unhide BU161).size))
    clear BU161
    have BX183 := hide ((unhide BX162).up b180)
    clear BX162
    have BX184 := hide ((unhide BX163).up b180)
    clear BX163
    have O185 := hide ((unhide O166).up b180)
    clear O166
    have O186 := hide ((unhide O164).up b180)
    clear O164
    have Z187 := hide (show w157.heap.size ≤ w179.heap.size from b180.size)
    clear b180
    obtain ⟨x188, x189, x190, x191, x192, x193⟩ := (unhide BX183).six
    obtain ⟨x194, x195, x196, x197, x198, x199⟩ := (unhide BX184).six
    go_wp2_with fail
    clear x188 x189 x190 x191 x192 x193 x194 x195 x196 x197 x198 x199
    refine (markByteS_kit S83 (sayBytesL d) _ w179 (1) M_0 (1) (by omega) (unhide HM_0) (by omega) (unhide HRS0) (unhide O186)).mono ?_
    rintro e w200 ⟨rfl, P201⟩
    have t202 := (unhide P201).2
    have B203 := hide ((unhide B181).trans (t202.below (unhide B181).size (fun k hk => by have z := unhide L85 k hk; have y := unhide H92 k hk; have z0 := unhide Z7; have z1 := unhide Z14; have z2 := unhide Z30; have z3 := unhide Z44; have z4 := unhide Z61; have z5 := unhide Z79; have z6 := unhide Z91; have z7 := unhide Z113; have z8 := unhide Z144; have z9 := unhide Z165; have z10 := unhide Z187; omega)))
    clear B181
    have BU204 := hide ((unhide BU182).trans (t202.below (unhide BU182).size (fun k hk => by have z := unhide L85 k hk; have y := unhide H92 k hk; have z0 := unhide Z7; have z1 := unhide Z14; have z2 := unhide Z30; have z3 := unhide Z44; have z4 := unhide Z61; have z5 := unhide Z79; have z6 := unhide Z91; have z7 := unhide Z113; have z8 := unhide Z144; have z9 := unhide Z165; have z10 := unhide Z187; omega)))
    clear BU182
    have BX205 := hide ((unhide BX183).turn t202 (fun hk => by have z := unhide L85 _ hk; have y := unhide H92 _ hk; have z0 := unhide Z7; have z1 := unhide Z14; have z2 := unhide Z30; have z3 := unhide Z44; have z4 := unhide Z61; have z5 := unhide Z79; have z6 := unhide Z91; have z7 := unhide Z113; have z8 := unhide Z144; have z9 := unhide Z165; have z10 := unhide Z187; omega))
    clear BX183
    have BX206 := hide ((unhide BX184).turn t202 (fun hk => by have z := unhide L85 _ hk; have y := unhide H92 _ hk; have z0 := unhide Z7; have z1 := unhide Z14; have z2 := unhide Z30; have z3 := unhide Z44; have z4 := unhide Z61; have z5 := unhide Z79; have z6 := unhide Z91; have z7 := unhide Z113; have z8 := unhide Z144; have z9 := unhide Z165; have z10 := unhide Z187; omega))
    clear BX184
    have O207 := hide ((unhide O185).turn t202 (fun k hk hm => by have z := unhide L85 k hm; have y := unhide H92 k hm; have u := unhide L56 k hk; have v := unhide H62 k hk; have z0 := unhide Z7; have z1 := unhide Z14; have z2 := unhide Z30; have z3 := unhide Z44; have z4 := unhide Z61; have z5 := unhide Z79; have z6 := unhide Z91; have z7 := unhide Z113; have z8 := unhide Z144; have z9 := unhide Z165; have z10 := unhide Z187; omega))
    clear O185
    have Z208 := hide (show w179.heap.size ≤ w200.heap.size from t202.size)
    have O209 := hide (unhide P201).1
    clear P201 t202
    have nf209 : ¬ (1 + (M_0 : Int)) < 0 := by omega
    obtain ⟨x210, x211, x212, x213, x214, x215⟩ := (unhide BX205).six
    obtain ⟨x216, x217, x218, x219, x220, x221⟩ := (unhide BX206).six
    go_wp2_with fail
    clear x210 x211 x212 x213 x214 x215 x216 x217 x218 x219 x220 x221
    refine (heldByteS_kit (sayBytesL d) _ w200 (1) M_0 (1) (by omega) (unhide HM_0) (by omega) (unhide HRS0) (unhide O209).rd).mono ?_
    rintro e w222 ⟨rfl, b223⟩
    have B224 := hide ((unhide B203).trans (b223.mono (unhide B203).size))
    clear B203
    have BU225 := hide ((unhide BU204).trans (b223.mono (unhide BU204).size))
    clear BU204
    have BX226 := hide ((unhide BX205).up b223)
    clear BX205
    have BX227 := hide ((unhide BX206).up b223)
    clear BX206
    have O228 := hide ((unhide O207).up b223)
    clear O207
    have O229 := hide ((unhide O209).up b223)
    clear O209
    have Z230 := hide (show w200.heap.size ≤ w222.heap.size from b223.size)
    clear b223
    obtain ⟨x231, x232, x233, x234, x235, x236⟩ := (unhide BX226).six
    obtain ⟨x237, x238, x239, x240, x241, x242⟩ := (unhide BX227).six
    go_wp2_with fail
    clear x231 x232 x233 x234 x235 x236 x237 x238 x239 x240 x241 x242
    refine (toSay_kit d _ w222 (unhide HS15) ((unhide HR_d).up (unhide B224))).mono ?_
    rintro e w243 ⟨v244, S245, rfl, O246, L247, b248⟩
    have B249 := hide ((unhide B224).trans (b248.mono (unhide B224).size))
    clear B224
    have BU250 := hide ((unhide BU225).trans (b248.mono (unhide BU225).size))
    clear BU225
    have BX251 := hide ((unhide BX226).up b248)
    clear BX226
    have BX252 := hide ((unhide BX227).up b248)
    clear BX227
    have O253 := hide ((unhide O228).up b248)
    clear O228
    have O254 := hide ((unhide O229).up b248)
    clear O229
    have Z255 := hide (show w222.heap.size ≤ w243.heap.size from b248.size)
    clear b248
    have H256 := hide (unhide O246).lt
    obtain ⟨x257, x258, x259, x260, x261, x262⟩ := (unhide BX251).six
    obtain ⟨x263, x264, x265, x266, x267, x268⟩ := (unhide BX252).six
    go_wp2_with fail
    clear x257 x258 x259 x260 x261 x262 x263 x264 x265 x266 x267 x268
    refine (impl_kit d _ w243 (unhide HS15) (unhide O246).rd).mono ?_
    rintro e w269 ⟨v271, S272, rfl, O273, L274, b270⟩
    clear O246
    have B275 := hide ((unhide B249).trans (b270.mono (unhide B249).size))
    clear B249
    have BU276 := hide ((unhide BU250).trans (b270.mono (unhide BU250).size))
    clear BU250
    have BX277 := hide ((unhide BX251).up b270)
    clear BX251
    have BX278 := hide ((unhide BX252).up b270)
    clear BX252
    have O279 := hide ((unhide O253).up b270)
    clear O253
    have O280 := hide ((unhide O254).up b270)
    clear O254
    have Z281 := hide (show w243.heap.size ≤ w269.heap.size from b270.size)
    clear b270
    obtain ⟨q_h0_0, q_h0_1, q_h0_2, rfl⟩ := (unhide O273).rd.form
    have H282 := hide (unhide O273).lt
    obtain ⟨x283, x284, x285, x286, x287, x288⟩ := (unhide BX277).six
    obtain ⟨x289, x290, x291, x292, x293, x294⟩ := (unhide BX278).six
    go_wp2_with fail
    clear x283 x284 x285 x286 x287 x288 x289 x290 x291 x292 x293 x294
    refine (eqByteS_kit (sayBytesL d) _ _ w269 (unhide HRS0) (unhide O273).rd ((unhide U41).up (unhide BU276))).mono ?_
    rintro e w295 ⟨rfl, b296⟩
    have B297 := hide ((unhide B275).trans (b296.mono (unhide B275).size))
    clear B275
    have BU298 := hide ((unhide BU276).trans (b296.mono (unhide BU276).size))
    clear BU276
    have BX299 := hide ((unhide BX277).up b296)
    clear BX277
    have BX300 := hide ((unhide BX278).up b296)
    clear BX278
    have O301 := hide ((unhide O279).up b296)
    clear O279
    have O302 := hide ((unhide O280).up b296)
    clear O280
    have O303 := hide ((unhide O273).up b296)
    clear O273
    have Z304 := hide (show w269.heap.size ≤ w295.heap.size from b296.size)
    clear b296
    obtain ⟨x305, x306, x307, x308, x309, x310⟩ := (unhide BX299).six
    obtain ⟨x311, x312, x313, x314, x315, x316⟩ := (unhide BX300).six
    go_wp2_with fail
    clear x305 x306 x307 x308 x309 x310 x311 x312 x313 x314 x315 x316
    refine (heldByteS_kit (sayBytesL d) _ w295 (1) M_0 (1) (by omega) (unhide HM_0) (by omega) (unhide HRS0) (unhide O302).rd).mono ?_
    rintro e w317 ⟨rfl, b318⟩
    have B319 := hide ((unhide B297).trans (b318.mono (unhide B297).size))
    clear B297
    have BU320 := hide ((unhide BU298).trans (b318.mono (unhide BU298).size))
    clear BU298
    have BX321 := hide ((unhide BX299).up b318)
    clear BX299
    have BX322 := hide ((unhide BX300).up b318)
    clear BX300
    have O323 := hide ((unhide O301).up b318)
    clear O301
    have O324 := hide ((unhide O302).up b318)
    clear O302
    have O325 := hide ((unhide O303).up b318)
    clear O303
    have Z326 := hide (show w295.heap.size ≤ w317.heap.size from b318.size)
    clear b318
    obtain ⟨x327, x328, x329, x330, x331, x332⟩ := (unhide BX321).six
    obtain ⟨x333, x334, x335, x336, x337, x338⟩ := (unhide BX322).six
    go_wp2_with fail
    go_ret
    exact ⟨rfl, unhide B319⟩

theorem own : ownKnob Try.prog.godebug = none := by kernel_rfl
theorem laidOut : laidOutB Try.prog = true := by kernel_rfl

set_option maxRecDepth 100000 in
theorem lifted (os : Os) (started : os.Started) (H : Type) (enc : TypeId × Value → H) :
    ReturnsInHanded {} Try.checked os 3 .any (Rows.fnExactSayBytesSpec.pre6 enc Try.prog Try.f3 Rows.fnExactSayBytesRow.domain false) (Rows.fnExactSayBytesSpec.post enc Try.prog Try.f3 false true false false) := by
  refine returnsInHanded_of_change (C := Try.checked) own started (by kernel_rfl) Try.func3
    (ChangeSpec.witness6 (enc := enc) (C := Try.checked) false ⟨#[], #[.agg #[.int .i64 0, .int .i64 0, .int .i64 0, .string ⟨#[]⟩, .int .i64 0, .slice none 0 0]], []⟩ 8 (by kernel_rfl) (by kernel_rfl) (by kernel_rfl) (by kernel_rfl)) ?_
  intro W base args ds gs before hval0 hW hcnd _
  have hval : ∀ (j : Nat) t v, Try.f3.params[j]? = some t → args[j]? = some v → Value.okWide Try.prog W .any base t v := hval0
  have hW' := hW
  obtain ⟨p, q, hA0, hV, rfl, hfz, hnd⟩ := hW
  have hA : DataW.TrodAll enc Try.prog W 0 (fun _ => true) true Try.f3.params.toList args.toList ds p := hA0
  rw [Try.params3] at hA hval
  obtain ⟨v0, d0, rfl, rfl, h0⟩ := trodAll_one hA
  obtain ⟨rfl, rfl⟩ := trodVars_none hV
  obtain ⟨cs, rfl, hcs⟩ := aggOf Try.underlying24 cellsSay (hval 0 24 v0 rfl rfl)
  obtain ⟨c0, c1, c2, c3, c4, c5, rfl⟩ := array6 hcs
  obtain ⟨d, hr, hf⟩ := openSay h0
  have k0 := h0
  have lt0 : ∀ x ∈ p, x.block < W.heap.size := by obtain ⟨m, hm⟩ := k0; exact DataW.trod_lt m _ _ _ hm
  clear hA0 hval0
  refine (walk d _ W hf hr).mono fun e W' ⟨he, bel⟩ => ?_
  subst he
  exact ⟨_, rfl, _, _, _, [], _, [], hW', trodAll_mk1 (shut_bool Try.underlying4 _), trodAll_mk1 (Below.trod laidOut (by kernel_rfl) (of_decide_eq_true (by kernel_rfl)) k0 bel lt0), rfl, bel.frame _, fun h => by cases h⟩

theorem over : Rows.fnExactSayBytesRow.holds Try.pinned (OpenSpec.ofChange Rows.fnExactSayBytesSpec) :=
  OpenClaim.holds_of_wide 3 Try.f3 rfl rfl rfl rfl rfl rfl rfl ⟨rfl, rfl, rfl, rfl, rfl⟩ rfl rfl rfl rfl rfl (by kernel_rfl) Try.func3 (by kernel_rfl)
    (of_decide_eq_true (by kernel_rfl)) (by unfold Func.isWrapper; first | (rw [if_pos (by decide +kernel)]; kernel_rfl) | (rw [if_neg (by decide +kernel)]; exact ⟨rfl, rfl⟩))
    (fun os started H enc _ => lifted os started H enc)

end Go.Proofs.Ytaccdkfjhhehpaa.fnExactSayBytes

namespace Go.Proofs.Ytaccdkfjhhehpaa
theorem fnExactSayBytes_holds : Rows.FnExactSayBytesSaid :=
  fnExactSayBytes.over
end Go.Proofs.Ytaccdkfjhhehpaa
