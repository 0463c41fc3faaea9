/-
  Proved: at every argument the law on SplitEnd answers true, and the argument reads afterwards as before: the program lets a stream end as the specification does, and its answers own their memory. No condition.
-/
import Derived.Test.YtongnlbdpfhngaaEndSpec
import Derived.Test.YtongnlbdpfhngaaEndImpl
import Derived.Test.YtongnlbdpfhngaaBsKit
import Derived.Test.YtongnlbdpfhngaaByKit
import Derived.Test.YtongnlbdpfhngaaByArg
import Derived.Test.YtongnlbdpfhngaaBoxes
import Derived.Test.YtongnlbdpfhngaaRows
import Derived.WalkKit
import Derived.ProofKit
import Derived.OpenShut
import Derived.Handy
namespace Go.Proofs.Ytongnlbdpfhngaa.fnExactSplitEnd
open Go.ChangeShapes Go.WideShapes Go.ChangeAt Go.RowKit Go.Deep Go.Maps
set_option linter.unusedVariables false

theorem spec_kit (d : SplitV) (v : Value) (w : World) (hs : SmallSplit d) (h : SplitRd w v d) :
    Calls Try.prog 5 #[v] w fun e w' => ∃ vr, e = .returned (.tuple #[vr, .int .i64 (endI d)]) ∧ Hid (ByteSSRd w' vr (endH d)) ∧ Below w.heap.size w w' := specEnd_any d v w hs h
theorem impl_kit (d : SplitV) (v : Value) (w : World) (hs : SmallSplit d) (h : SplitRd w v d) :
    Calls Try.prog 7 #[v] w fun e w' => ∃ vr Q, e = .returned (.tuple #[vr, .int .i64 (endI d)]) ∧ Hid (ByteSSOwn Q w' vr (endH d)) ∧ Hid (∀ k ∈ Q, w.heap.size ≤ k) ∧ Below w.heap.size w w' := implEnd_any d v w hs h

set_option maxHeartbeats 12800000 in
theorem walk (d : SplitV) (v_d : Value) (w : World) (hf_d : SplitFit d) (hr_d : SplitRd w v_d d) :
    Calls Try.prog 3 #[v_d] w fun e w' => e = .returned (.bool true) ∧ Below w.heap.size w w' := by
  have HF_d := hide hf_d
  clear hf_d
  have HR_d := hide hr_d
  obtain ⟨p_d0, p_d1, p_d2, p_d3, rfl⟩ := hr_d.form
  clear hr_d
  go_enter Try.func3, Try.ntmps3
  obtain ⟨bx1, b2, zz3⟩ := boxNew2 w (.slice p_d0 p_d1 p_d2) (.int .i64 p_d3) 24
  go_wp2_with fail
  generalize w.alloc (.cells #[.slice p_d0 p_d1 p_d2, .int .i64 p_d3] 24) = W4 at *
  have B6 := hide b2
  have Z7 := hide (show w.heap.size < W4.heap.size from zz3)
  have BX5 := hide bx1
  clear bx1 b2 zz3
  refine (szSplit_kit d _ W4 (unhide HF_d) ((unhide HR_d).up (unhide B6))).mono ?_
  rintro e w8 ⟨q9, rfl, HQ10, b11⟩
  have B12 := hide ((unhide B6).trans (b11.mono (unhide B6).size))
  clear B6
  have BX13 := hide ((unhide BX5).up b11)
  clear BX5
  have Z14 := hide (show W4.heap.size ≤ w8.heap.size from b11.size)
  clear b11
  by_cases hnegq9 : q9 < 0
  · go_wp2_with fail
    go_ret
    exact ⟨rfl, unhide B12⟩
  have HS15 := hide (unhide HQ10 (by omega))
  obtain ⟨N_d, HN_d⟩ : ∃ N, Hid (nSplit d = N) := ⟨_, rfl⟩
  have NL_d : N_d ≤ 100000000 := by rw [← unhide HN_d]; exact nSplit_le (unhide HS15)
  have HRS0 := hide (show SmallByteSS (endH d) from small_endH d)
  obtain ⟨M_0, HM_0⟩ : ∃ N, Hid (nByteSS (endH d) = N) := ⟨_, rfl⟩
  have ML_0 : M_0 ≤ 100000000 := by rw [← unhide HM_0]; exact nByteSS_le (unhide HRS0)
  obtain ⟨x16, x17⟩ := (unhide BX13).two
  go_wp2_with fail
  clear x16 x17
  refine (toSplit_kit d _ w8 (unhide HS15) ((unhide HR_d).up (unhide B12))).mono ?_
  rintro e w18 ⟨v19, S20, rfl, O21, L22, b23⟩
  have B24 := hide ((unhide B12).trans (b23.mono (unhide B12).size))
  clear B12
  have BX25 := hide ((unhide BX13).up b23)
  clear BX13
  have Z26 := hide (show w8.heap.size ≤ w18.heap.size from b23.size)
  clear b23
  have H27 := hide (unhide O21).lt
  obtain ⟨x28, x29⟩ := (unhide BX25).two
  go_wp2_with fail
  clear x28 x29
  refine (spec_kit d _ w18 (unhide HS15) (unhide O21).rd).mono ?_
  rintro e w30 ⟨v32, rfl, U33, b31⟩
  clear O21
  have B34 := hide ((unhide B24).trans (b31.mono (unhide B24).size))
  clear B24
  have BX35 := hide ((unhide BX25).up b31)
  clear BX25
  have Z36 := hide (show w18.heap.size ≤ w30.heap.size from b31.size)
  clear b31
  obtain ⟨q_w0_0, q_w0_1, q_w0_2, rfl⟩ := (unhide U33).form
  have BU37 := hide (Below.refl w30.heap.size w30)
  obtain ⟨x38, x39⟩ := (unhide BX35).two
  go_wp2_with fail
  clear x38 x39
  refine (toSplit_kit d _ w30 (unhide HS15) ((unhide HR_d).up (unhide B34))).mono ?_
  rintro e w40 ⟨v41, S42, rfl, O43, L44, b45⟩
  have B46 := hide ((unhide B34).trans (b45.mono (unhide B34).size))
  clear B34
  have BU47 := hide ((unhide BU37).trans (b45.mono (unhide BU37).size))
  clear BU37
  have BX48 := hide ((unhide BX35).up b45)
  clear BX35
  have Z49 := hide (show w30.heap.size ≤ w40.heap.size from b45.size)
  clear b45
  have H50 := hide (unhide O43).lt
  obtain ⟨r_d0, r_d1, r_d2, r_d3, rfl⟩ := (unhide O43).rd.form
  obtain ⟨x51, x52⟩ := (unhide BX48).two
  have lt53 : w.heap.size < w40.heap.size := (unhide BX48).1
  obtain ⟨bx54, b55, zz56⟩ := boxNew2 w40 (.slice r_d0 r_d1 r_d2) (.int .i64 r_d3) 29
  go_wp2_with fail
  generalize w40.alloc (.cells #[.slice r_d0 r_d1 r_d2, .int .i64 r_d3] 29) = W57 at *
  have B59 := hide ((unhide B46).trans (b55.mono (unhide B46).size))
  clear B46
  have BU60 := hide ((unhide BU47).trans (b55.mono (unhide BU47).size))
  clear BU47
  have BX61 := hide ((unhide BX48).up b55)
  clear BX48
  have O62 := hide ((unhide O43).up b55)
  clear O43
  have Z63 := hide (show w40.heap.size < W57.heap.size from zz56)
  have BX58 := hide bx54
  clear bx54 b55 zz56
  clear x51 x52 lt53
  refine (impl_kit d _ W57 (unhide HS15) (unhide O62).rd).mono ?_
  rintro e w64 ⟨v66, S67, rfl, O68, L69, b65⟩
  have B70 := hide ((unhide B59).trans (b65.mono (unhide B59).size))
  clear B59
  have BU71 := hide ((unhide BU60).trans (b65.mono (unhide BU60).size))
  clear BU60
  have BX72 := hide ((unhide BX61).up b65)
  clear BX61
  have BX73 := hide ((unhide BX58).up b65)
  clear BX58
  have O74 := hide ((unhide O62).up b65)
  clear O62
  have Z75 := hide (show W57.heap.size ≤ w64.heap.size from b65.size)
  clear b65
  obtain ⟨q_g0_0, q_g0_1, q_g0_2, rfl⟩ := (unhide O68).rd.form
  have H76 := hide (unhide O68).lt
  obtain ⟨x77, x78⟩ := (unhide BX72).two
  obtain ⟨x79, x80⟩ := (unhide BX73).two
  go_wp2_with fail
  clear x77 x78 x79 x80
  refine (eqByteSS_kit (endH d) _ _ w64 (unhide HRS0) (unhide O68).rd ((unhide U33).up (unhide BU71))).mono ?_
  rintro e w81 ⟨rfl, b82⟩
  have B83 := hide ((unhide B70).trans (b82.mono (unhide B70).size))
  clear B70
  have BU84 := hide ((unhide BU71).trans (b82.mono (unhide BU71).size))
  clear BU71
  have BX85 := hide ((unhide BX72).up b82)
  clear BX72
  have BX86 := hide ((unhide BX73).up b82)
  clear BX73
  have O87 := hide ((unhide O74).up b82)
  clear O74
  have O88 := hide ((unhide O68).up b82)
  clear O68
  have Z89 := hide (show w64.heap.size ≤ w81.heap.size from b82.size)
  clear b82
  obtain ⟨x90, x91⟩ := (unhide BX85).two
  obtain ⟨x92, x93⟩ := (unhide BX86).two
  go_wp2_with fail
  have KP94 := hide (show ∀ X : World, Below w81.heap.size w81 X → (fun (X : World) => (X.cell? ⟨w.heap.size, 0, none⟩ = some (.slice p_d0 p_d1 p_d2) ∧ X.cell? ⟨w.heap.size, 1, none⟩ = some (.int .i64 p_d3)) ∧ (X.cell? ⟨w40.heap.size, 0, none⟩ = some (.slice r_d0 r_d1 r_d2) ∧ X.cell? ⟨w40.heap.size, 1, none⟩ = some (.int .i64 r_d3)) ∧ Hid (Below w81.heap.size w81 X)) X from fun X b => ⟨((unhide BX85).up b).two, ((unhide BX86).up b).two, hide b⟩)
  have BD95 := hide ((Below.refl w81.heap.size w81).drew)
  go_region_held3 (fun (X : World) => (X.cell? ⟨w.heap.size, 0, none⟩ = some (.slice p_d0 p_d1 p_d2) ∧ X.cell? ⟨w.heap.size, 1, none⟩ = some (.int .i64 p_d3)) ∧ (X.cell? ⟨w40.heap.size, 0, none⟩ = some (.slice r_d0 r_d1 r_d2) ∧ X.cell? ⟨w40.heap.size, 1, none⟩ = some (.int .i64 r_d3)) ∧ Hid (Below w81.heap.size w81 X)) ((refine unhide KP94 _ ?_; exact unhide (by assumption)))
    (first
      | (go_at_call 9; have _t := BB102; refine (eqSplit_kit d _ _ _ (unhide HS15) ((unhide O87).up (unhide BB102)).rd (unhide O99).rd).mono ?_; rintro e w103 ⟨rfl, b104⟩; have BB105 := hide ((unhide BB102).trans (b104.mono (unhide BB102).size)); clear b104)
      | (go_at_call 6; refine (toSplit_kit d _ _ (unhide HS15) ((unhide HR_d).up ((unhide B83).trans ((unhide BD95).mono (unhide B83).size)))).mono ?_; rintro e w96 ⟨v97, S98, rfl, O99, L100, b101⟩; have BB102 := hide ((unhide BD95).trans (b101.mono (unhide BD95).size)); clear b101)
      | fail)
  clear x90 x91 x92 x93
  all_goals
    try clear _t
    have B106 := hide ((unhide B83).trans ((unhide BB105).mono (unhide B83).size))
    clear B83
    have BU107 := hide ((unhide BU84).trans ((unhide BB105).mono (unhide BU84).size))
    clear BU84
    have BX108 := hide ((unhide BX85).up (unhide BB105))
    clear BX85
    have BX109 := hide ((unhide BX86).up (unhide BB105))
    clear BX86
    have O110 := hide ((unhide O87).up (unhide BB105))
    clear O87
    have O111 := hide ((unhide O88).up (unhide BB105))
    clear O88
    have Z112 := hide (show w81.heap.size ≤ w103.heap.size from (unhide BB105).size)
    clear BB105 BB102 KP94 BD95 O99 L100
    obtain ⟨x113, x114⟩ := (unhide BX108).two
    obtain ⟨x115, x116⟩ := (unhide BX109).two
    go_wp2_with fail
    clear x113 x114 x115 x116
    refine (markSplit_kit S42 (d) _ w103 (1) N_d (1) (by omega) (unhide HN_d) (by omega) (unhide HS15) (unhide O110)).mono ?_
    rintro e w117 ⟨rfl, P118⟩
    have t119 := (unhide P118).2
    have B120 := hide ((unhide B106).trans (t119.below (unhide B106).size (fun k hk => by have z := unhide L44 k hk; have y := unhide H50 k hk; have z0 := unhide Z7; have z1 := unhide Z14; have z2 := unhide Z26; have z3 := unhide Z36; have z4 := unhide Z49; have z5 := unhide Z63; have z6 := unhide Z75; have z7 := unhide Z89; have z8 := unhide Z112; omega)))
    clear B106
    have BU121 := hide ((unhide BU107).trans (t119.below (unhide BU107).size (fun k hk => by have z := unhide L44 k hk; have y := unhide H50 k hk; have z0 := unhide Z7; have z1 := unhide Z14; have z2 := unhide Z26; have z3 := unhide Z36; have z4 := unhide Z49; have z5 := unhide Z63; have z6 := unhide Z75; have z7 := unhide Z89; have z8 := unhide Z112; omega)))
    clear BU107
    have BX122 := hide ((unhide BX108).turn t119 (fun hk => by have z := unhide L44 _ hk; have y := unhide H50 _ hk; have z0 := unhide Z7; have z1 := unhide Z14; have z2 := unhide Z26; have z3 := unhide Z36; have z4 := unhide Z49; have z5 := unhide Z63; have z6 := unhide Z75; have z7 := unhide Z89; have z8 := unhide Z112; omega))
    clear BX108
    have BX123 := hide ((unhide BX109).turn t119 (fun hk => by have z := unhide L44 _ hk; have y := unhide H50 _ hk; have z0 := unhide Z7; have z1 := unhide Z14; have z2 := unhide Z26; have z3 := unhide Z36; have z4 := unhide Z49; have z5 := unhide Z63; have z6 := unhide Z75; have z7 := unhide Z89; have z8 := unhide Z112; omega))
    clear BX109
    have O124 := hide ((unhide O111).turn t119 (fun k hk hm => by have z := unhide L44 k hm; have y := unhide H50 k hm; have u := unhide L69 k hk; have v := unhide H76 k hk; have z0 := unhide Z7; have z1 := unhide Z14; have z2 := unhide Z26; have z3 := unhide Z36; have z4 := unhide Z49; have z5 := unhide Z63; have z6 := unhide Z75; have z7 := unhide Z89; have z8 := unhide Z112; omega))
    clear O111
    have Z125 := hide (show w103.heap.size ≤ w117.heap.size from t119.size)
    have O126 := hide (unhide P118).1
    clear P118 t119
    have nf126 : ¬ (1 + (N_d : Int)) < 0 := by omega
    obtain ⟨x127, x128⟩ := (unhide BX122).two
    obtain ⟨x129, x130⟩ := (unhide BX123).two
    go_wp2_with fail
    clear x127 x128 x129 x130
    refine (eqByteSS_kit (endH d) _ _ w117 (unhide HRS0) (unhide O124).rd ((unhide U33).up (unhide BU121))).mono ?_
    rintro e w131 ⟨rfl, b132⟩
    have B133 := hide ((unhide B120).trans (b132.mono (unhide B120).size))
    clear B120
    have BU134 := hide ((unhide BU121).trans (b132.mono (unhide BU121).size))
    clear BU121
    have BX135 := hide ((unhide BX122).up b132)
    clear BX122
    have BX136 := hide ((unhide BX123).up b132)
    clear BX123
    have O137 := hide ((unhide O126).up b132)
    clear O126
    have O138 := hide ((unhide O124).up b132)
    clear O124
    have Z139 := hide (show w117.heap.size ≤ w131.heap.size from b132.size)
    clear b132
    obtain ⟨x140, x141⟩ := (unhide BX135).two
    obtain ⟨x142, x143⟩ := (unhide BX136).two
    go_wp2_with fail
    clear x140 x141 x142 x143
    refine (markByteSS_kit S67 (endH d) _ w131 (1) M_0 (1) (by omega) (unhide HM_0) (by omega) (unhide HRS0) (unhide O138)).mono ?_
    rintro e w144 ⟨rfl, P145⟩
    have t146 := (unhide P145).2
    have B147 := hide ((unhide B133).trans (t146.below (unhide B133).size (fun k hk => by have z := unhide L69 k hk; have y := unhide H76 k hk; have z0 := unhide Z7; have z1 := unhide Z14; have z2 := unhide Z26; have z3 := unhide Z36; have z4 := unhide Z49; have z5 := unhide Z63; have z6 := unhide Z75; have z7 := unhide Z89; have z8 := unhide Z112; have z9 := unhide Z125; have z10 := unhide Z139; omega)))
    clear B133
    have BU148 := hide ((unhide BU134).trans (t146.below (unhide BU134).size (fun k hk => by have z := unhide L69 k hk; have y := unhide H76 k hk; have z0 := unhide Z7; have z1 := unhide Z14; have z2 := unhide Z26; have z3 := unhide Z36; have z4 := unhide Z49; have z5 := unhide Z63; have z6 := unhide Z75; have z7 := unhide Z89; have z8 := unhide Z112; have z9 := unhide Z125; have z10 := unhide Z139; omega)))
    clear BU134
    have BX149 := hide ((unhide BX135).turn t146 (fun hk => by have z := unhide L69 _ hk; have y := unhide H76 _ hk; have z0 := unhide Z7; have z1 := unhide Z14; have z2 := unhide Z26; have z3 := unhide Z36; have z4 := unhide Z49; have z5 := unhide Z63; have z6 := unhide Z75; have z7 := unhide Z89; have z8 := unhide Z112; have z9 := unhide Z125; have z10 := unhide Z139; omega))
    clear BX135
    have BX150 := hide ((unhide BX136).turn t146 (fun hk => by have z := unhide L69 _ hk; have y := unhide H76 _ hk; have z0 := unhide Z7; have z1 := unhide Z14; have z2 := unhide Z26; have z3 := unhide Z36; have z4 := unhide Z49; have z5 := unhide Z63; have z6 := unhide Z75; have z7 := unhide Z89; have z8 := unhide Z112; have z9 := unhide Z125; have z10 := unhide Z139; omega))
    clear BX136
    have O151 := hide ((unhide O137).turn t146 (fun k hk hm => by have z := unhide L69 k hm; have y := unhide H76 k hm; have u := unhide L44 k hk; have v := unhide H50 k hk; have z0 := unhide Z7; have z1 := unhide Z14; have z2 := unhide Z26; have z3 := unhide Z36; have z4 := unhide Z49; have z5 := unhide Z63; have z6 := unhide Z75; have z7 := unhide Z89; have z8 := unhide Z112; have z9 := unhide Z125; have z10 := unhide Z139; omega))
    clear O137
    have Z152 := hide (show w131.heap.size ≤ w144.heap.size from t146.size)
    have O153 := hide (unhide P145).1
    clear P145 t146
    have nf153 : ¬ (1 + (M_0 : Int)) < 0 := by omega
    obtain ⟨x154, x155⟩ := (unhide BX149).two
    obtain ⟨x156, x157⟩ := (unhide BX150).two
    go_wp2_with fail
    clear x154 x155 x156 x157
    refine (heldByteSS_kit (endH d) _ w144 (1) M_0 (1) (by omega) (unhide HM_0) (by omega) (unhide HRS0) (unhide O153).rd).mono ?_
    rintro e w158 ⟨rfl, b159⟩
    have B160 := hide ((unhide B147).trans (b159.mono (unhide B147).size))
    clear B147
    have BU161 := hide ((unhide BU148).trans (b159.mono (unhide BU148).size))
    clear BU148
    have BX162 := hide ((unhide BX149).up b159)
    clear BX149
    have BX163 := hide ((unhide BX150).up b159)
    clear BX150
    have O164 := hide ((unhide O151).up b159)
    clear O151
    have O165 := hide ((unhide O153).up b159)
    clear O153
    have Z166 := hide (show w144.heap.size ≤ w158.heap.size from b159.size)
    clear b159
    obtain ⟨x167, x168⟩ := (unhide BX162).two
    obtain ⟨x169, x170⟩ := (unhide BX163).two
    go_wp2_with fail
    clear x167 x168 x169 x170
    refine (toSplit_kit d _ w158 (unhide HS15) ((unhide HR_d).up (unhide B160))).mono ?_
    rintro e w171 ⟨v172, S173, rfl, O174, L175, b176⟩
    have B177 := hide ((unhide B160).trans (b176.mono (unhide B160).size))
    clear B160
    have BU178 := hide ((unhide BU161).trans (b176.mono (unhide BU161).size))
    clear BU161
    have BX179 := hide ((unhide BX162).up b176)
    clear BX162
    have BX180 := hide ((unhide BX163).up b176)
    clear BX163
    have O181 := hide ((unhide O164).up b176)
    clear O164
    have O182 := hide ((unhide O165).up b176)
    clear O165
    have Z183 := hide (show w158.heap.size ≤ w171.heap.size from b176.size)
    clear b176
    have H184 := hide (unhide O174).lt
    obtain ⟨x185, x186⟩ := (unhide BX179).two
    obtain ⟨x187, x188⟩ := (unhide BX180).two
    go_wp2_with fail
    clear x185 x186 x187 x188
    refine (impl_kit d _ w171 (unhide HS15) (unhide O174).rd).mono ?_
    rintro e w189 ⟨v191, S192, rfl, O193, L194, b190⟩
    clear O174
    have B195 := hide ((unhide B177).trans (b190.mono (unhide B177).size))
    clear B177
    have BU196 := hide ((unhide BU178).trans (b190.mono (unhide BU178).size))
    clear BU178
    have BX197 := hide ((unhide BX179).up b190)
    clear BX179
    have BX198 := hide ((unhide BX180).up b190)
    clear BX180
    have O199 := hide ((unhide O181).up b190)
    clear O181
    have O200 := hide ((unhide O182).up b190)
    clear O182
    have Z201 := hide (show w171.heap.size ≤ w189.heap.size from b190.size)
    clear b190
    obtain ⟨q_h0_0, q_h0_1, q_h0_2, rfl⟩ := (unhide O193).rd.form
    have H202 := hide (unhide O193).lt
    obtain ⟨x203, x204⟩ := (unhide BX197).two
    obtain ⟨x205, x206⟩ := (unhide BX198).two
    go_wp2_with fail
    clear x203 x204 x205 x206
    refine (eqByteSS_kit (endH d) _ _ w189 (unhide HRS0) (unhide O193).rd ((unhide U33).up (unhide BU196))).mono ?_
    rintro e w207 ⟨rfl, b208⟩
    have B209 := hide ((unhide B195).trans (b208.mono (unhide B195).size))
    clear B195
    have BU210 := hide ((unhide BU196).trans (b208.mono (unhide BU196).size))
    clear BU196
    have BX211 := hide ((unhide BX197).up b208)
    clear BX197
    have BX212 := hide ((unhide BX198).up b208)
    clear BX198
    have O213 := hide ((unhide O199).up b208)
    clear O199
    have O214 := hide ((unhide O200).up b208)
    clear O200
    have O215 := hide ((unhide O193).up b208)
    clear O193
    have Z216 := hide (show w189.heap.size ≤ w207.heap.size from b208.size)
    clear b208
    obtain ⟨x217, x218⟩ := (unhide BX211).two
    obtain ⟨x219, x220⟩ := (unhide BX212).two
    go_wp2_with fail
    clear x217 x218 x219 x220
    refine (heldByteSS_kit (endH d) _ w207 (1) M_0 (1) (by omega) (unhide HM_0) (by omega) (unhide HRS0) (unhide O214).rd).mono ?_
    rintro e w221 ⟨rfl, b222⟩
    have B223 := hide ((unhide B209).trans (b222.mono (unhide B209).size))
    clear B209
    have BU224 := hide ((unhide BU210).trans (b222.mono (unhide BU210).size))
    clear BU210
    have BX225 := hide ((unhide BX211).up b222)
    clear BX211
    have BX226 := hide ((unhide BX212).up b222)
    clear BX212
    have O227 := hide ((unhide O213).up b222)
    clear O213
    have O228 := hide ((unhide O214).up b222)
    clear O214
    have O229 := hide ((unhide O215).up b222)
    clear O215
    have Z230 := hide (show w207.heap.size ≤ w221.heap.size from b222.size)
    clear b222
    obtain ⟨x231, x232⟩ := (unhide BX225).two
    obtain ⟨x233, x234⟩ := (unhide BX226).two
    go_wp2_with fail
    go_ret
    exact ⟨rfl, unhide B223⟩

theorem own : ownKnob Try.prog.godebug = none := by kernel_rfl
theorem laidOut : laidOutB Try.prog = true := by kernel_rfl

set_option maxRecDepth 100000 in
theorem lifted (os : Os) (started : os.Started) (H : Type) (enc : TypeId × Value → H) :
    ReturnsInHanded {} Try.checked os 3 .any (Rows.fnExactSplitEndSpec.pre6 enc Try.prog Try.f3 Rows.fnExactSplitEndRow.domain false) (Rows.fnExactSplitEndSpec.post enc Try.prog Try.f3 false true false false) := by
  refine returnsInHanded_of_change (C := Try.checked) own started (by kernel_rfl) Try.func3
    (ChangeSpec.witness6 (enc := enc) (C := Try.checked) false ⟨#[], #[.agg #[.slice none 0 0, .int .i64 0]], []⟩ 8 (by kernel_rfl) (by kernel_rfl) (by kernel_rfl) (by kernel_rfl)) ?_
  intro W base args ds gs before hval0 hW hcnd _
  have hval : ∀ (j : Nat) t v, Try.f3.params[j]? = some t → args[j]? = some v → Value.okWide Try.prog W .any base t v := hval0
  have hW' := hW
  obtain ⟨p, q, hA0, hV, rfl, hfz, hnd⟩ := hW
  have hA : DataW.TrodAll enc Try.prog W 0 (fun _ => true) true Try.f3.params.toList args.toList ds p := hA0
  rw [Try.params3] at hA hval
  obtain ⟨v0, d0, rfl, rfl, h0⟩ := trodAll_one hA
  obtain ⟨rfl, rfl⟩ := trodVars_none hV
  obtain ⟨cs, rfl, hcs⟩ := aggOf Try.underlying24 cellsSplit (hval 0 24 v0 rfl rfl)
  obtain ⟨c0, c1, rfl⟩ := array2 hcs
  obtain ⟨d, hr, hf⟩ := openSplit h0
  have k0 := h0
  have lt0 : ∀ x ∈ p, x.block < W.heap.size := by obtain ⟨m, hm⟩ := k0; exact DataW.trod_lt m _ _ _ hm
  clear hA0 hval0
  refine (walk d _ W hf hr).mono fun e W' ⟨he, bel⟩ => ?_
  subst he
  exact ⟨_, rfl, _, _, _, [], _, [], hW', trodAll_mk1 (shut_bool Try.underlying4 _), trodAll_mk1 (Below.trod laidOut (by kernel_rfl) (of_decide_eq_true (by kernel_rfl)) k0 bel lt0), rfl, bel.frame _, fun h => by cases h⟩

theorem over : Rows.fnExactSplitEndRow.holds Try.pinned (OpenSpec.ofChange Rows.fnExactSplitEndSpec) :=
  OpenClaim.holds_of_wide 3 Try.f3 rfl rfl rfl rfl rfl rfl rfl ⟨rfl, rfl, rfl, rfl, rfl⟩ rfl rfl rfl rfl rfl (by kernel_rfl) Try.func3 (by kernel_rfl)
    (of_decide_eq_true (by kernel_rfl)) (by unfold Func.isWrapper; first | (rw [if_pos (by decide +kernel)]; kernel_rfl) | (rw [if_neg (by decide +kernel)]; exact ⟨rfl, rfl⟩))
    (fun os started H enc _ => lifted os started H enc)

end Go.Proofs.Ytongnlbdpfhngaa.fnExactSplitEnd

namespace Go.Proofs.Ytongnlbdpfhngaa
theorem fnExactSplitEnd_holds : Rows.FnExactSplitEndSaid :=
  fnExactSplitEnd.over
end Go.Proofs.Ytongnlbdpfhngaa
