/-
  Proved: at every argument the law on WindowPut answers true, and the arguments read afterwards as before: the program puts an item into a window as the specification does, and its answer owns its memory. No condition.
-/
import Derived.Test.YtnnhdgaokifcoaaWinPutS
import Derived.Test.YtnnhdgaokifcoaaItemOne
import Derived.Test.YtnnhdgaokifcoaaRows
import Derived.WalkKit
import Derived.ProofKit
import Derived.OpenShut
import Derived.Handy
namespace Go.Proofs.Ytnnhdgaokifcoaa.fnExactWindowPut
open Go.ChangeShapes Go.WideShapes Go.ChangeAt Go.RowKit Go.Deep Go.Maps
set_option linter.unusedVariables false


set_option maxHeartbeats 12800000 in
theorem walk (ns : List ItemV) (v_ns : Value) (it : ItemV) (v_it : Value) (w : World) (hf_ns : ItemSFit ns) (hr_ns : ItemSRd w v_ns ns) (hf_it : ItemFit it) (hr_it : ItemRd w v_it it) :
    Calls Try.prog 4 #[v_ns, v_it] w fun e w' => e = .returned (.bool true) ∧ Below w.heap.size w w' := by
  have HF_ns := hide hf_ns
  clear hf_ns
  have HR_ns := hide hr_ns
  obtain ⟨p_ns0, p_ns1, p_ns2, rfl⟩ := hr_ns.form
  clear hr_ns
  have HF_it := hide hf_it
  clear hf_it
  have HR_it := hide hr_it
  obtain ⟨p_it0, p_it1, p_it2, p_it3, rfl⟩ := hr_it.form
  clear hr_it
  go_enter Try.func4, Try.ntmps4
  obtain ⟨bx1, b2, zz3⟩ := boxNew2 w (.int .i64 p_it0) (.slice p_it1 p_it2 p_it3) 38
  go_wp2_with fail
  generalize w.alloc (.cells #[.int .i64 p_it0, .slice p_it1 p_it2 p_it3] 38) = W4 at *
  have B6 := hide b2
  have Z7 := hide (show w.heap.size < W4.heap.size from zz3)
  have BX5 := hide bx1
  clear bx1 b2 zz3
  refine (szItemF_kitL ns _ 1048576 W4 (by omega) (by omega) (unhide HF_ns) ((unhide HR_ns).up (unhide B6))).mono ?_
  rintro e w8 ⟨q9, rfl, ql12, HQ10, b11⟩
  have B13 := hide ((unhide B6).trans (b11.mono (unhide B6).size))
  clear B6
  have BX14 := hide ((unhide BX5).up b11)
  clear BX5
  have Z15 := hide (show W4.heap.size ≤ w8.heap.size from b11.size)
  clear b11
  by_cases hnegq9 : q9 < 0
  · go_wp2_with fail
    go_ret
    exact ⟨rfl, unhide B13⟩
  have HS16 := hide (unhide HQ10 (by omega))
  obtain ⟨x17, x18⟩ := (unhide BX14).two
  go_wp2_with fail
  clear x17 x18
  refine (szItem_kitL it _ q9 w8 (by omega) (by omega) (unhide HF_it) ((unhide HR_it).up (unhide B13))).mono ?_
  rintro e w19 ⟨q20, rfl, ql23, HQ21, b22⟩
  have B24 := hide ((unhide B13).trans (b22.mono (unhide B13).size))
  clear B13
  have BX25 := hide ((unhide BX14).up b22)
  clear BX14
  have Z26 := hide (show w8.heap.size ≤ w19.heap.size from b22.size)
  clear b22
  by_cases hnegq20 : q20 < 0
  · go_wp2_with fail
    go_ret
    exact ⟨rfl, unhide B24⟩
  have HS27 := hide (unhide HQ21 (by omega))
  obtain ⟨N_ns, HN_ns⟩ : ∃ N, Hid (nItemF ns = N) := ⟨_, rfl⟩
  have NL_ns : N_ns ≤ 10000000000000 := by rw [← unhide HN_ns]; exact Nat.le_trans (nItemF_le (unhide HS16)) (by decide)
  obtain ⟨N_it, HN_it⟩ : ∃ N, Hid (nItem it = N) := ⟨_, rfl⟩
  have NL_it : N_it ≤ 10000000000000 := by rw [← unhide HN_it]; exact Nat.le_trans (nItem_le (unhide HS27)) (by decide)
  have HRS0 := hide (show SmallItemF (putV ns it) from small_put (unhide HS16) (unhide HS27))
  obtain ⟨M_0, HM_0⟩ : ∃ N, Hid (nItemF (putV ns it) = N) := ⟨_, rfl⟩
  have ML_0 : M_0 ≤ 10000000000000 := by rw [← unhide HM_0]; exact Nat.le_trans (nItemF_le (unhide HRS0)) (by decide)
  obtain ⟨x28, x29⟩ := (unhide BX25).two
  go_wp2_with fail
  have KP30 := hide (show ∀ X : World, Below w19.heap.size w19 X → (fun (X : World) => (X.cell? ⟨w.heap.size, 0, none⟩ = some (.int .i64 p_it0) ∧ X.cell? ⟨w.heap.size, 1, none⟩ = some (.slice p_it1 p_it2 p_it3)) ∧ Hid (Below w19.heap.size w19 X)) X from fun X b => ⟨((unhide BX25).up b).two, hide b⟩)
  have BD31 := hide ((Below.refl w19.heap.size w19).drew)
  go_region_held3 (fun (X : World) => (X.cell? ⟨w.heap.size, 0, none⟩ = some (.int .i64 p_it0) ∧ X.cell? ⟨w.heap.size, 1, none⟩ = some (.slice p_it1 p_it2 p_it3)) ∧ Hid (Below w19.heap.size w19 X)) ((refine unhide KP30 _ ?_; exact unhide (by assumption)))
    (first
      | (go_at_call 15; have _tBB45 := BB45; refine (specPut_kit ns _ it _ _ (unhide HS16) (unhide HS27) (unhide O46) (unhide O42).rd).mono ?_; rintro e w47 ⟨v50, rfl, U51, b48⟩; have BB49 := hide ((unhide BB45).trans (b48.mono (unhide BB45).size)); clear b48)
      | (go_at_call 16; have _tBB38 := BB38; refine (toItem_kit it _ _ (unhide HS27) ((unhide HR_it).up ((unhide B24).trans ((unhide BB38).mono (unhide B24).size)))).mono ?_; rintro e w39 ⟨v40, S41, rfl, O42, L43, b44⟩; have O46 := hide ((unhide O35).up b44); have BB45 := hide ((unhide BB38).trans (b44.mono (unhide BB38).size)); clear b44)
      | (go_at_call 7; refine (toItemF_kit ns _ _ (unhide HS16) ((unhide HR_ns).up ((unhide B24).trans ((unhide BD31).mono (unhide B24).size)))).mono ?_; rintro e w32 ⟨v33, S34, rfl, O35, L36, b37⟩; have BB38 := hide ((unhide BD31).trans (b37.mono (unhide BD31).size)); clear b37)
      | fail)
  clear x28 x29
  all_goals
    have B52 := hide ((unhide B24).trans ((unhide BB49).mono (unhide B24).size))
    clear B24
    have BX53 := hide ((unhide BX25).up (unhide BB49))
    clear BX25
    have Z54 := hide (show w19.heap.size ≤ w47.heap.size from (unhide BB49).size)
    obtain ⟨q_w0_0, q_w0_1, q_w0_2, rfl⟩ := (unhide U51).form
    have BU55 := hide (Below.refl w47.heap.size w47)
    obtain ⟨x56, x57⟩ := (unhide BX53).two
    go_wp2_with fail
    clear x56 x57
    refine (toItemF_kit ns _ w47 (unhide HS16) ((unhide HR_ns).up (unhide B52))).mono ?_
    rintro e w58 ⟨v59, S60, rfl, O61, L62, b63⟩
    have B64 := hide ((unhide B52).trans (b63.mono (unhide B52).size))
    clear B52
    have BU65 := hide ((unhide BU55).trans (b63.mono (unhide BU55).size))
    clear BU55
    have BX66 := hide ((unhide BX53).up b63)
    clear BX53
    have Z67 := hide (show w47.heap.size ≤ w58.heap.size from b63.size)
    clear b63
    have H68 := hide (unhide O61).lt
    obtain ⟨r_ns0, r_ns1, r_ns2, rfl⟩ := (unhide O61).rd.form
    obtain ⟨x69, x70⟩ := (unhide BX66).two
    go_wp2_with fail
    clear x69 x70
    refine (toItem_kit it _ w58 (unhide HS27) ((unhide HR_it).up (unhide B64))).mono ?_
    rintro e w71 ⟨v72, S73, rfl, O74, L75, b76⟩
    have B77 := hide ((unhide B64).trans (b76.mono (unhide B64).size))
    clear B64
    have BU78 := hide ((unhide BU65).trans (b76.mono (unhide BU65).size))
    clear BU65
    have BX79 := hide ((unhide BX66).up b76)
    clear BX66
    have O80 := hide ((unhide O61).up b76)
    clear O61
    have Z81 := hide (show w58.heap.size ≤ w71.heap.size from b76.size)
    clear b76
    have H82 := hide (unhide O74).lt
    obtain ⟨r_it0, r_it1, r_it2, r_it3, rfl⟩ := (unhide O74).rd.form
    obtain ⟨x83, x84⟩ := (unhide BX79).two
    have lt85 : w.heap.size < w71.heap.size := (unhide BX79).1
    obtain ⟨bx86, b87, zz88⟩ := boxNew2 w71 (.int .i64 r_it0) (.slice r_it1 r_it2 r_it3) 26
    go_wp2_with fail
    generalize w71.alloc (.cells #[.int .i64 r_it0, .slice r_it1 r_it2 r_it3] 26) = W89 at *
    have B91 := hide ((unhide B77).trans (b87.mono (unhide B77).size))
    clear B77
    have BU92 := hide ((unhide BU78).trans (b87.mono (unhide BU78).size))
    clear BU78
    have BX93 := hide ((unhide BX79).up b87)
    clear BX79
    have O94 := hide ((unhide O80).up b87)
    clear O80
    have O95 := hide ((unhide O74).up b87)
    clear O74
    have Z96 := hide (show w71.heap.size < W89.heap.size from zz88)
    have BX90 := hide bx86
    clear bx86 b87 zz88
    clear x83 x84 lt85
    refine (implPut_kit ns _ it _ W89 (unhide HS16) (unhide HS27) (unhide O94) (unhide O95).rd).mono ?_
    rintro e w97 ⟨v99, S100, rfl, O101, L102, b98⟩
    have B103 := hide ((unhide B91).trans (b98.mono (unhide B91).size))
    clear B91
    have BU104 := hide ((unhide BU92).trans (b98.mono (unhide BU92).size))
    clear BU92
    have BX105 := hide ((unhide BX93).up b98)
    clear BX93
    have BX106 := hide ((unhide BX90).up b98)
    clear BX90
    have O107 := hide ((unhide O94).up b98)
    clear O94
    have O108 := hide ((unhide O95).up b98)
    clear O95
    have Z109 := hide (show W89.heap.size ≤ w97.heap.size from b98.size)
    clear b98
    obtain ⟨q_g0_0, q_g0_1, q_g0_2, rfl⟩ := (unhide O101).rd.form
    have H110 := hide (unhide O101).lt
    obtain ⟨x111, x112⟩ := (unhide BX105).two
    obtain ⟨x113, x114⟩ := (unhide BX106).two
    go_wp2_with fail
    clear x111 x112 x113 x114
    refine (eqItemF_kit (putV ns it) _ _ w97 (unhide HRS0) (unhide O101).rd ((unhide U51).up (unhide BU104))).mono ?_
    rintro e w115 ⟨rfl, b116⟩
    have B117 := hide ((unhide B103).trans (b116.mono (unhide B103).size))
    clear B103
    have BU118 := hide ((unhide BU104).trans (b116.mono (unhide BU104).size))
    clear BU104
    have BX119 := hide ((unhide BX105).up b116)
    clear BX105
    have BX120 := hide ((unhide BX106).up b116)
    clear BX106
    have O121 := hide ((unhide O107).up b116)
    clear O107
    have O122 := hide ((unhide O108).up b116)
    clear O108
    have O123 := hide ((unhide O101).up b116)
    clear O101
    have Z124 := hide (show w97.heap.size ≤ w115.heap.size from b116.size)
    clear b116
    obtain ⟨x125, x126⟩ := (unhide BX119).two
    obtain ⟨x127, x128⟩ := (unhide BX120).two
    go_wp2_with fail
    clear x125 x126 x127 x128
    refine (toItemF_kit ns _ w115 (unhide HS16) ((unhide HR_ns).up (unhide B117))).mono ?_
    rintro e w129 ⟨v130, S131, rfl, O132, L133, b134⟩
    have B135 := hide ((unhide B117).trans (b134.mono (unhide B117).size))
    clear B117
    have BU136 := hide ((unhide BU118).trans (b134.mono (unhide BU118).size))
    clear BU118
    have BX137 := hide ((unhide BX119).up b134)
    clear BX119
    have BX138 := hide ((unhide BX120).up b134)
    clear BX120
    have O139 := hide ((unhide O121).up b134)
    clear O121
    have O140 := hide ((unhide O122).up b134)
    clear O122
    have O141 := hide ((unhide O123).up b134)
    clear O123
    have Z142 := hide (show w115.heap.size ≤ w129.heap.size from b134.size)
    clear b134
    have H143 := hide (unhide O132).lt
    obtain ⟨x144, x145⟩ := (unhide BX137).two
    obtain ⟨x146, x147⟩ := (unhide BX138).two
    go_wp2_with fail
    clear x144 x145 x146 x147
    refine (eqItemF_kit ns _ _ w129 (unhide HS16) (unhide O139).rd (unhide O132).rd).mono ?_
    rintro e w148 ⟨rfl, b149⟩
    have B150 := hide ((unhide B135).trans (b149.mono (unhide B135).size))
    clear B135
    have BU151 := hide ((unhide BU136).trans (b149.mono (unhide BU136).size))
    clear BU136
    have BX152 := hide ((unhide BX137).up b149)
    clear BX137
    have BX153 := hide ((unhide BX138).up b149)
    clear BX138
    have O154 := hide ((unhide O139).up b149)
    clear O139
    have O155 := hide ((unhide O140).up b149)
    clear O140
    have O156 := hide ((unhide O141).up b149)
    clear O141
    have Z157 := hide (show w129.heap.size ≤ w148.heap.size from b149.size)
    clear b149
    obtain ⟨x158, x159⟩ := (unhide BX152).two
    obtain ⟨x160, x161⟩ := (unhide BX153).two
    go_wp2_with fail
    have KP162 := hide (show ∀ X : World, Below w148.heap.size w148 X → (fun (X : World) => (X.cell? ⟨w.heap.size, 0, none⟩ = some (.int .i64 p_it0) ∧ X.cell? ⟨w.heap.size, 1, none⟩ = some (.slice p_it1 p_it2 p_it3)) ∧ (X.cell? ⟨w71.heap.size, 0, none⟩ = some (.int .i64 r_it0) ∧ X.cell? ⟨w71.heap.size, 1, none⟩ = some (.slice r_it1 r_it2 r_it3)) ∧ Hid (Below w148.heap.size w148 X)) X from fun X b => ⟨((unhide BX152).up b).two, ((unhide BX153).up b).two, hide b⟩)
    have BD163 := hide ((Below.refl w148.heap.size w148).drew)
    go_region_held3 (fun (X : World) => (X.cell? ⟨w.heap.size, 0, none⟩ = some (.int .i64 p_it0) ∧ X.cell? ⟨w.heap.size, 1, none⟩ = some (.slice p_it1 p_it2 p_it3)) ∧ (X.cell? ⟨w71.heap.size, 0, none⟩ = some (.int .i64 r_it0) ∧ X.cell? ⟨w71.heap.size, 1, none⟩ = some (.slice r_it1 r_it2 r_it3)) ∧ Hid (Below w148.heap.size w148 X)) ((refine unhide KP162 _ ?_; exact unhide (by assumption)))
      (first
        | (go_at_call 9; have _t := BB170; refine (eqItem_kit it _ _ _ (unhide HS27) ((unhide O155).up (unhide BB170)).rd (unhide O167).rd).mono ?_; rintro e w171 ⟨rfl, b172⟩; have BB173 := hide ((unhide BB170).trans (b172.mono (unhide BB170).size)); clear b172)
        | (go_at_call 16; refine (toItem_kit it _ _ (unhide HS27) ((unhide HR_it).up ((unhide B150).trans ((unhide BD163).mono (unhide B150).size)))).mono ?_; rintro e w164 ⟨v165, S166, rfl, O167, L168, b169⟩; have BB170 := hide ((unhide BD163).trans (b169.mono (unhide BD163).size)); clear b169)
        | fail)
    clear x158 x159 x160 x161
    all_goals
      try clear _t
      have B174 := hide ((unhide B150).trans ((unhide BB173).mono (unhide B150).size))
      clear B150
      have BU175 := hide ((unhide BU151).trans ((unhide BB173).mono (unhide BU151).size))
      clear BU151
      have BX176 := hide ((unhide BX152).up (unhide BB173))
      clear BX152
      have BX177 := hide ((unhide BX153).up (unhide BB173))
      clear BX153
      have O178 := hide ((unhide O154).up (unhide BB173))
      clear O154
      have O179 := hide ((unhide O155).up (unhide BB173))
      clear O155
      have O180 := hide ((unhide O156).up (unhide BB173))
      clear O156
      have Z181 := hide (show w148.heap.size ≤ w171.heap.size from (unhide BB173).size)
      clear BB173 BB170 KP162 BD163 O167 L168
      obtain ⟨x182, x183⟩ := (unhide BX176).two
      obtain ⟨x184, x185⟩ := (unhide BX177).two
      go_wp2_with fail
      clear x182 x183 x184 x185
      refine (markItemF_kit S60 (ns) _ w171 (1) N_ns (1) (by omega) (unhide HN_ns) (by omega) (unhide HS16) (unhide O178)).mono ?_
      rintro e w186 ⟨rfl, P187⟩
      have t188 := (unhide P187).2
      have B189 := hide ((unhide B174).trans (t188.below (unhide B174).size (fun k hk => by have z := unhide L62 k hk; have y := unhide H68 k hk; have z0 := unhide Z7; have z1 := unhide Z15; have z2 := unhide Z26; have z3 := unhide Z54; have z4 := unhide Z67; have z5 := unhide Z81; have z6 := unhide Z96; have z7 := unhide Z109; have z8 := unhide Z124; have z9 := unhide Z142; have z10 := unhide Z157; have z11 := unhide Z181; omega)))
      clear B174
      have BU190 := hide ((unhide BU175).trans (t188.below (unhide BU175).size (fun k hk => by have z := unhide L62 k hk; have y := unhide H68 k hk; have z0 := unhide Z7; have z1 := unhide Z15; have z2 := unhide Z26; have z3 := unhide Z54; have z4 := unhide Z67; have z5 := unhide Z81; have z6 := unhide Z96; have z7 := unhide Z109; have z8 := unhide Z124; have z9 := unhide Z142; have z10 := unhide Z157; have z11 := unhide Z181; omega)))
      clear BU175
      have BX191 := hide ((unhide BX176).turn t188 (fun hk => by have z := unhide L62 _ hk; have y := unhide H68 _ hk; have z0 := unhide Z7; have z1 := unhide Z15; have z2 := unhide Z26; have z3 := unhide Z54; have z4 := unhide Z67; have z5 := unhide Z81; have z6 := unhide Z96; have z7 := unhide Z109; have z8 := unhide Z124; have z9 := unhide Z142; have z10 := unhide Z157; have z11 := unhide Z181; omega))
      clear BX176
      have BX192 := hide ((unhide BX177).turn t188 (fun hk => by have z := unhide L62 _ hk; have y := unhide H68 _ hk; have z0 := unhide Z7; have z1 := unhide Z15; have z2 := unhide Z26; have z3 := unhide Z54; have z4 := unhide Z67; have z5 := unhide Z81; have z6 := unhide Z96; have z7 := unhide Z109; have z8 := unhide Z124; have z9 := unhide Z142; have z10 := unhide Z157; have z11 := unhide Z181; omega))
      clear BX177
      have O193 := hide ((unhide O179).turn t188 (fun k hk hm => by have z := unhide L62 k hm; have y := unhide H68 k hm; have u := unhide L75 k hk; have v := unhide H82 k hk; have z0 := unhide Z7; have z1 := unhide Z15; have z2 := unhide Z26; have z3 := unhide Z54; have z4 := unhide Z67; have z5 := unhide Z81; have z6 := unhide Z96; have z7 := unhide Z109; have z8 := unhide Z124; have z9 := unhide Z142; have z10 := unhide Z157; have z11 := unhide Z181; omega))
      clear O179
      have O194 := hide ((unhide O180).turn t188 (fun k hk hm => by have z := unhide L62 k hm; have y := unhide H68 k hm; have u := unhide L102 k hk; have v := unhide H110 k hk; have z0 := unhide Z7; have z1 := unhide Z15; have z2 := unhide Z26; have z3 := unhide Z54; have z4 := unhide Z67; have z5 := unhide Z81; have z6 := unhide Z96; have z7 := unhide Z109; have z8 := unhide Z124; have z9 := unhide Z142; have z10 := unhide Z157; have z11 := unhide Z181; omega))
      clear O180
      have Z195 := hide (show w171.heap.size ≤ w186.heap.size from t188.size)
      have O196 := hide (unhide P187).1
      clear P187 t188
      have nf196 : ¬ (1 + (N_ns : Int)) < 0 := by omega
      obtain ⟨x197, x198⟩ := (unhide BX191).two
      obtain ⟨x199, x200⟩ := (unhide BX192).two
      go_wp2_with fail
      clear x197 x198 x199 x200
      refine (markItem_kit S73 (it) _ w186 (1 + N_ns) N_it (1 + (N_ns : Int)) (by omega) (unhide HN_it) (by omega) (unhide HS27) (unhide O193)).mono ?_
      rintro e w201 ⟨rfl, P202⟩
      have t203 := (unhide P202).2
      have B204 := hide ((unhide B189).trans (t203.below (unhide B189).size (fun k hk => by have z := unhide L75 k hk; have y := unhide H82 k hk; have z0 := unhide Z7; have z1 := unhide Z15; have z2 := unhide Z26; have z3 := unhide Z54; have z4 := unhide Z67; have z5 := unhide Z81; have z6 := unhide Z96; have z7 := unhide Z109; have z8 := unhide Z124; have z9 := unhide Z142; have z10 := unhide Z157; have z11 := unhide Z181; have z12 := unhide Z195; omega)))
      clear B189
      have BU205 := hide ((unhide BU190).trans (t203.below (unhide BU190).size (fun k hk => by have z := unhide L75 k hk; have y := unhide H82 k hk; have z0 := unhide Z7; have z1 := unhide Z15; have z2 := unhide Z26; have z3 := unhide Z54; have z4 := unhide Z67; have z5 := unhide Z81; have z6 := unhide Z96; have z7 := unhide Z109; have z8 := unhide Z124; have z9 := unhide Z142; have z10 := unhide Z157; have z11 := unhide Z181; have z12 := unhide Z195; omega)))
      clear BU190
      have BX206 := hide ((unhide BX191).turn t203 (fun hk => by have z := unhide L75 _ hk; have y := unhide H82 _ hk; have z0 := unhide Z7; have z1 := unhide Z15; have z2 := unhide Z26; have z3 := unhide Z54; have z4 := unhide Z67; have z5 := unhide Z81; have z6 := unhide Z96; have z7 := unhide Z109; have z8 := unhide Z124; have z9 := unhide Z142; have z10 := unhide Z157; have z11 := unhide Z181; have z12 := unhide Z195; omega))
      clear BX191
      have BX207 := hide ((unhide BX192).turn t203 (fun hk => by have z := unhide L75 _ hk; have y := unhide H82 _ hk; have z0 := unhide Z7; have z1 := unhide Z15; have z2 := unhide Z26; have z3 := unhide Z54; have z4 := unhide Z67; have z5 := unhide Z81; have z6 := unhide Z96; have z7 := unhide Z109; have z8 := unhide Z124; have z9 := unhide Z142; have z10 := unhide Z157; have z11 := unhide Z181; have z12 := unhide Z195; omega))
      clear BX192
      have O208 := hide ((unhide O196).turn t203 (fun k hk hm => by have z := unhide L75 k hm; have y := unhide H82 k hm; have u := unhide L62 k hk; have v := unhide H68 k hk; have z0 := unhide Z7; have z1 := unhide Z15; have z2 := unhide Z26; have z3 := unhide Z54; have z4 := unhide Z67; have z5 := unhide Z81; have z6 := unhide Z96; have z7 := unhide Z109; have z8 := unhide Z124; have z9 := unhide Z142; have z10 := unhide Z157; have z11 := unhide Z181; have z12 := unhide Z195; omega))
      clear O196
      have O209 := hide ((unhide O194).turn t203 (fun k hk hm => by have z := unhide L75 k hm; have y := unhide H82 k hm; have u := unhide L102 k hk; have v := unhide H110 k hk; have z0 := unhide Z7; have z1 := unhide Z15; have z2 := unhide Z26; have z3 := unhide Z54; have z4 := unhide Z67; have z5 := unhide Z81; have z6 := unhide Z96; have z7 := unhide Z109; have z8 := unhide Z124; have z9 := unhide Z142; have z10 := unhide Z157; have z11 := unhide Z181; have z12 := unhide Z195; omega))
      clear O194
      have Z210 := hide (show w186.heap.size ≤ w201.heap.size from t203.size)
      have O211 := hide (unhide P202).1
      clear P202 t203
      have nf211 : ¬ (1 + (N_ns : Int) + (N_it : Int)) < 0 := by omega
      obtain ⟨x212, x213⟩ := (unhide BX206).two
      obtain ⟨x214, x215⟩ := (unhide BX207).two
      go_wp2_with fail
      clear x212 x213 x214 x215
      refine (eqItemF_kit (putV ns it) _ _ w201 (unhide HRS0) (unhide O209).rd ((unhide U51).up (unhide BU205))).mono ?_
      rintro e w216 ⟨rfl, b217⟩
      have B218 := hide ((unhide B204).trans (b217.mono (unhide B204).size))
      clear B204
      have BU219 := hide ((unhide BU205).trans (b217.mono (unhide BU205).size))
      clear BU205
      have BX220 := hide ((unhide BX206).up b217)
      clear BX206
      have BX221 := hide ((unhide BX207).up b217)
      clear BX207
      have O222 := hide ((unhide O208).up b217)
      clear O208
      have O223 := hide ((unhide O211).up b217)
      clear O211
      have O224 := hide ((unhide O209).up b217)
      clear O209
      have Z225 := hide (show w201.heap.size ≤ w216.heap.size from b217.size)
      clear b217
      obtain ⟨x226, x227⟩ := (unhide BX220).two
      obtain ⟨x228, x229⟩ := (unhide BX221).two
      go_wp2_with fail
      clear x226 x227 x228 x229
      refine (markItemF_kit S100 (putV ns it) _ w216 (1) M_0 (1) (by omega) (unhide HM_0) (by omega) (unhide HRS0) (unhide O224)).mono ?_
      rintro e w230 ⟨rfl, P231⟩
      have t232 := (unhide P231).2
      have B233 := hide ((unhide B218).trans (t232.below (unhide B218).size (fun k hk => by have z := unhide L102 k hk; have y := unhide H110 k hk; have z0 := unhide Z7; have z1 := unhide Z15; have z2 := unhide Z26; have z3 := unhide Z54; have z4 := unhide Z67; have z5 := unhide Z81; have z6 := unhide Z96; have z7 := unhide Z109; have z8 := unhide Z124; have z9 := unhide Z142; have z10 := unhide Z157; have z11 := unhide Z181; have z12 := unhide Z195; have z13 := unhide Z210; have z14 := unhide Z225; omega)))
      clear B218
      have BU234 := hide ((unhide BU219).trans (t232.below (unhide BU219).size (fun k hk => by have z := unhide L102 k hk; have y := unhide H110 k hk; have z0 := unhide Z7; have z1 := unhide Z15; have z2 := unhide Z26; have z3 := unhide Z54; have z4 := unhide Z67; have z5 := unhide Z81; have z6 := unhide Z96; have z7 := unhide Z109; have z8 := unhide Z124; have z9 := unhide Z142; have z10 := unhide Z157; have z11 := unhide Z181; have z12 := unhide Z195; have z13 := unhide Z210; have z14 := unhide Z225; omega)))
      clear BU219
      have BX235 := hide ((unhide BX220).turn t232 (fun hk => by have z := unhide L102 _ hk; have y := unhide H110 _ hk; have z0 := unhide Z7; have z1 := unhide Z15; have z2 := unhide Z26; have z3 := unhide Z54; have z4 := unhide Z67; have z5 := unhide Z81; have z6 := unhide Z96; have z7 := unhide Z109; have z8 := unhide Z124; have z9 := unhide Z142; have z10 := unhide Z157; have z11 := unhide Z181; have z12 := unhide Z195; have z13 := unhide Z210; have z14 := unhide Z225; omega))
      clear BX220
      have BX236 := hide ((unhide BX221).turn t232 (fun hk => by have z := unhide L102 _ hk; have y := unhide H110 _ hk; have z0 := unhide Z7; have z1 := unhide Z15; have z2 := unhide Z26; have z3 := unhide Z54; have z4 := unhide Z67; have z5 := unhide Z81; have z6 := unhide Z96; have z7 := unhide Z109; have z8 := unhide Z124; have z9 := unhide Z142; have z10 := unhide Z157; have z11 := unhide Z181; have z12 := unhide Z195; have z13 := unhide Z210; have z14 := unhide Z225; omega))
      clear BX221
      have O237 := hide ((unhide O222).turn t232 (fun k hk hm => by have z := unhide L102 k hm; have y := unhide H110 k hm; have u := unhide L62 k hk; have v := unhide H68 k hk; have z0 := unhide Z7; have z1 := unhide Z15; have z2 := unhide Z26; have z3 := unhide Z54; have z4 := unhide Z67; have z5 := unhide Z81; have z6 := unhide Z96; have z7 := unhide Z109; have z8 := unhide Z124; have z9 := unhide Z142; have z10 := unhide Z157; have z11 := unhide Z181; have z12 := unhide Z195; have z13 := unhide Z210; have z14 := unhide Z225; omega))
      clear O222
      have O238 := hide ((unhide O223).turn t232 (fun k hk hm => by have z := unhide L102 k hm; have y := unhide H110 k hm; have u := unhide L75 k hk; have v := unhide H82 k hk; have z0 := unhide Z7; have z1 := unhide Z15; have z2 := unhide Z26; have z3 := unhide Z54; have z4 := unhide Z67; have z5 := unhide Z81; have z6 := unhide Z96; have z7 := unhide Z109; have z8 := unhide Z124; have z9 := unhide Z142; have z10 := unhide Z157; have z11 := unhide Z181; have z12 := unhide Z195; have z13 := unhide Z210; have z14 := unhide Z225; omega))
      clear O223
      have Z239 := hide (show w216.heap.size ≤ w230.heap.size from t232.size)
      have O240 := hide (unhide P231).1
      clear P231 t232
      have nf240 : ¬ (1 + (M_0 : Int)) < 0 := by omega
      obtain ⟨x241, x242⟩ := (unhide BX235).two
      obtain ⟨x243, x244⟩ := (unhide BX236).two
      go_wp2_with fail
      clear x241 x242 x243 x244
      refine (heldItemF_kit (putV ns it) _ w230 (1) M_0 (1) (by omega) (unhide HM_0) (by omega) (unhide HRS0) (unhide O240).rd).mono ?_
      rintro e w245 ⟨rfl, b246⟩
      have B247 := hide ((unhide B233).trans (b246.mono (unhide B233).size))
      clear B233
      have BU248 := hide ((unhide BU234).trans (b246.mono (unhide BU234).size))
      clear BU234
      have BX249 := hide ((unhide BX235).up b246)
      clear BX235
      have BX250 := hide ((unhide BX236).up b246)
      clear BX236
      have O251 := hide ((unhide O237).up b246)
      clear O237
      have O252 := hide ((unhide O238).up b246)
      clear O238
      have O253 := hide ((unhide O240).up b246)
      clear O240
      have Z254 := hide (show w230.heap.size ≤ w245.heap.size from b246.size)
      clear b246
      obtain ⟨x255, x256⟩ := (unhide BX249).two
      obtain ⟨x257, x258⟩ := (unhide BX250).two
      go_wp2_with fail
      have KP259 := hide (show ∀ X : World, Below w245.heap.size w245 X → (fun (X : World) => (X.cell? ⟨w.heap.size, 0, none⟩ = some (.int .i64 p_it0) ∧ X.cell? ⟨w.heap.size, 1, none⟩ = some (.slice p_it1 p_it2 p_it3)) ∧ Hid (Below w245.heap.size w245 X)) X from fun X b => ⟨((unhide BX249).up b).two, hide b⟩)
      have BD260 := hide ((Below.refl w245.heap.size w245).drew)
      go_region_held3 (fun (X : World) => (X.cell? ⟨w.heap.size, 0, none⟩ = some (.int .i64 p_it0) ∧ X.cell? ⟨w.heap.size, 1, none⟩ = some (.slice p_it1 p_it2 p_it3)) ∧ Hid (Below w245.heap.size w245 X)) ((refine unhide KP259 _ ?_; exact unhide (by assumption)))
        (first
          | (go_at_call 17; have _tBB274 := BB274; refine (implPut_kit ns _ it _ _ (unhide HS16) (unhide HS27) (unhide O275) (unhide O271).rd).mono ?_; rintro e w276 ⟨v279, S280, rfl, O281, L282, b277⟩; have BB278 := hide ((unhide BB274).trans (b277.mono (unhide BB274).size)); clear b277)
          | (go_at_call 16; have _tBB267 := BB267; refine (toItem_kit it _ _ (unhide HS27) ((unhide HR_it).up ((unhide B247).trans ((unhide BB267).mono (unhide B247).size)))).mono ?_; rintro e w268 ⟨v269, S270, rfl, O271, L272, b273⟩; have O275 := hide ((unhide O264).up b273); have BB274 := hide ((unhide BB267).trans (b273.mono (unhide BB267).size)); clear b273)
          | (go_at_call 7; refine (toItemF_kit ns _ _ (unhide HS16) ((unhide HR_ns).up ((unhide B247).trans ((unhide BD260).mono (unhide B247).size)))).mono ?_; rintro e w261 ⟨v262, S263, rfl, O264, L265, b266⟩; have BB267 := hide ((unhide BD260).trans (b266.mono (unhide BD260).size)); clear b266)
          | fail)
      clear x255 x256 x257 x258
      all_goals
        have B283 := hide ((unhide B247).trans ((unhide BB278).mono (unhide B247).size))
        clear B247
        have BU284 := hide ((unhide BU248).trans ((unhide BB278).mono (unhide BU248).size))
        clear BU248
        have BX285 := hide ((unhide BX249).up (unhide BB278))
        clear BX249
        have BX286 := hide ((unhide BX250).up (unhide BB278))
        clear BX250
        have O287 := hide ((unhide O251).up (unhide BB278))
        clear O251
        have O288 := hide ((unhide O252).up (unhide BB278))
        clear O252
        have O289 := hide ((unhide O253).up (unhide BB278))
        clear O253
        have Z290 := hide (show w245.heap.size ≤ w276.heap.size from (unhide BB278).size)
        obtain ⟨q_h0_0, q_h0_1, q_h0_2, rfl⟩ := (unhide O281).rd.form
        have H291 := hide (unhide O281).lt
        obtain ⟨x292, x293⟩ := (unhide BX285).two
        obtain ⟨x294, x295⟩ := (unhide BX286).two
        go_wp2_with fail
        clear x292 x293 x294 x295
        refine (eqItemF_kit (putV ns it) _ _ w276 (unhide HRS0) (unhide O281).rd ((unhide U51).up (unhide BU284))).mono ?_
        rintro e w296 ⟨rfl, b297⟩
        have B298 := hide ((unhide B283).trans (b297.mono (unhide B283).size))
        clear B283
        have BU299 := hide ((unhide BU284).trans (b297.mono (unhide BU284).size))
        clear BU284
        have BX300 := hide ((unhide BX285).up b297)
        clear BX285
        have BX301 := hide ((unhide BX286).up b297)
        clear BX286
        have O302 := hide ((unhide O287).up b297)
        clear O287
        have O303 := hide ((unhide O288).up b297)
        clear O288
        have O304 := hide ((unhide O289).up b297)
        clear O289
        have O305 := hide ((unhide O281).up b297)
        clear O281
        have Z306 := hide (show w276.heap.size ≤ w296.heap.size from b297.size)
        clear b297
        obtain ⟨x307, x308⟩ := (unhide BX300).two
        obtain ⟨x309, x310⟩ := (unhide BX301).two
        go_wp2_with fail
        clear x307 x308 x309 x310
        refine (heldItemF_kit (putV ns it) _ w296 (1) M_0 (1) (by omega) (unhide HM_0) (by omega) (unhide HRS0) (unhide O304).rd).mono ?_
        rintro e w311 ⟨rfl, b312⟩
        have B313 := hide ((unhide B298).trans (b312.mono (unhide B298).size))
        clear B298
        have BU314 := hide ((unhide BU299).trans (b312.mono (unhide BU299).size))
        clear BU299
        have BX315 := hide ((unhide BX300).up b312)
        clear BX300
        have BX316 := hide ((unhide BX301).up b312)
        clear BX301
        have O317 := hide ((unhide O302).up b312)
        clear O302
        have O318 := hide ((unhide O303).up b312)
        clear O303
        have O319 := hide ((unhide O304).up b312)
        clear O304
        have O320 := hide ((unhide O305).up b312)
        clear O305
        have Z321 := hide (show w296.heap.size ≤ w311.heap.size from b312.size)
        clear b312
        obtain ⟨x322, x323⟩ := (unhide BX315).two
        obtain ⟨x324, x325⟩ := (unhide BX316).two
        go_wp2_with fail
        go_ret
        exact ⟨rfl, unhide B313⟩

theorem own : ownKnob Try.prog.godebug = none := by kernel_rfl
theorem laidOut : laidOutB Try.prog = true := by kernel_rfl

set_option maxRecDepth 100000 in
theorem lifted (os : Os) (started : os.Started) (H : Type) (enc : TypeId × Value → H) :
    ReturnsInHanded {} Try.checked os 4 .any (Rows.fnExactWindowPutSpec.pre6 enc Try.prog Try.f4 Rows.fnExactWindowPutRow.domain false) (Rows.fnExactWindowPutSpec.post enc Try.prog Try.f4 false true false false) := by
  refine returnsInHanded_of_change (C := Try.checked) own started (by kernel_rfl) Try.func4
    (ChangeSpec.witness6 (enc := enc) (C := Try.checked) false ⟨#[], #[.slice none 0 0, .agg #[.int .i64 0, .slice none 0 0]], []⟩ 8 (by kernel_rfl) (by kernel_rfl) (by kernel_rfl) (by kernel_rfl)) ?_
  intro W base args ds gs before hval0 hW hcnd _
  have hval : ∀ (j : Nat) t v, Try.f4.params[j]? = some t → args[j]? = some v → Value.okWide Try.prog W .any base t v := hval0
  have hW' := hW
  obtain ⟨p, q, hA0, hV, rfl, hfz, hnd⟩ := hW
  have hA : DataW.TrodAll enc Try.prog W 0 (fun _ => true) true Try.f4.params.toList args.toList ds p := hA0
  rw [Try.params4] at hA hval
  obtain ⟨v0, vs0, d0, ds0, p0, q0, hargs, rfl, rfl, h0, r0⟩ := trodAll_cons hA
  obtain ⟨v1, vs1, d1, ds1, p1, q1, rfl, rfl, rfl, h1, r1⟩ := trodAll_cons r0
  obtain ⟨rfl, rfl, rfl⟩ := trodAll_nil r1
  obtain rfl : args = #[v0, v1] := by cases args; simp_all
  obtain ⟨rfl, rfl⟩ := trodVars_none hV
  obtain ⟨a0, len0, cap0, rfl⟩ := okWide_slice Try.underlying22 (hval 0 22 v0 rfl rfl)
  have k0 := h0
  have lt0 : ∀ x ∈ p0, x.block < W.heap.size := by obtain ⟨m, hm⟩ := k0; exact DataW.trod_lt m _ _ _ hm
  obtain ⟨ns0, rfl, hl0, hn0, ho0⟩ := openItemS h0
  obtain ⟨c1_0, c1_1, rfl⟩ := aggOfI (hval 1 38 v1 rfl rfl)
  have k1 := h1
  have lt1 : ∀ x ∈ p1, x.block < W.heap.size := by obtain ⟨m, hm⟩ := k1; exact DataW.trod_lt m _ _ _ hm
  obtain ⟨x1, hr1, hf1⟩ := openItem h1
  clear hA0 hval0
  refine (walk ns0 _ x1 _ W ⟨hl0, ho0⟩ ⟨a0, cap0, rfl, hn0⟩ hf1 hr1).mono fun e W' ⟨he, bel⟩ => ?_
  subst he
  exact ⟨_, rfl, _, _, _, [], _, [], hW', trodAll_mk1 (shut_bool Try.underlying4 _), (trodAll_cons_mk (Below.trod laidOut (by kernel_rfl) (of_decide_eq_true (by kernel_rfl)) k0 bel lt0) (trodAll_cons_mk (Below.trod laidOut (by kernel_rfl) (of_decide_eq_true (by kernel_rfl)) k1 bel lt1) trodAll_mk0)), rfl, bel.frame _, fun h => by cases h⟩

theorem over : Rows.fnExactWindowPutRow.holds Try.pinned (OpenSpec.ofChange Rows.fnExactWindowPutSpec) :=
  OpenClaim.holds_of_wide 4 Try.f4 rfl rfl rfl rfl rfl rfl rfl ⟨rfl, rfl, rfl, rfl, rfl⟩ rfl rfl rfl rfl rfl (by kernel_rfl) Try.func4 (by kernel_rfl)
    (of_decide_eq_true (by kernel_rfl)) (by unfold Func.isWrapper; first | (rw [if_pos (by decide +kernel)]; kernel_rfl) | (rw [if_neg (by decide +kernel)]; exact ⟨rfl, rfl⟩))
    (fun os started H enc _ => lifted os started H enc)

end Go.Proofs.Ytnnhdgaokifcoaa.fnExactWindowPut

namespace Go.Proofs.Ytnnhdgaokifcoaa
theorem fnExactWindowPut_holds : Rows.FnExactWindowPutSaid :=
  fnExactWindowPut.over
end Go.Proofs.Ytnnhdgaokifcoaa
