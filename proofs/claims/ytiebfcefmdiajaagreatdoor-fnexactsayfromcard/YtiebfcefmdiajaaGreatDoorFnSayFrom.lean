/-
  Proved: at every text the law on SayFrom answers true, and the text reads afterwards as before: the program reads a word from a line as the specification does, and its answer owns its memory. Condition: the table of powers and the two errors that strconv reads hold what its own text lays there (the card ties them to that text, by the given tie).
-/
import Derived.Test.YtiebfcefmdiajaaGreatDoorSayFromI
import Derived.Test.YtiebfcefmdiajaaGreatDoorVerMarks
import Derived.Test.YtiebfcefmdiajaaGreatDoorSays
import Derived.Test.YtiebfcefmdiajaaGreatDoorRows
import Derived.Test.YtiebfcefmdiajaaGreatDoorCards
import Derived.Test.YtiebfcefmdiajaaGreatDoorTie
import Derived.WalkKit
import Derived.ProofKit
import Derived.OpenShut
import Derived.Handy
import Derived.ShutString
import Derived.LaidMore
import Derived.OpenVars
import Derived.SevenTiedAt
import Derived.Stop.Joined
import Derived.Stop.LaidErr
namespace Go.Proofs.YtiebfcefmdiajaaGreatDoor.fnExactSayFrom
open Go.ChangeShapes Go.WideShapes Go.ChangeAt Go.RowKit Go.Deep Go.Maps
open Go.ChangeMaps (open_string shut_string)
set_option linter.unusedVariables false

theorem small_ln (t : ByteArray) : SmallSay (lnOut t) := by
  unfold lnOut
  split
  · rename_i h
    refine loose_small ?_
    unfold lnB at h
    simp only [Bool.and_eq_true, decide_eq_true_eq] at h
    omega
  · exact ⟨⟨by decide, by simp [sayNone, VerSmall]⟩, ⟨by decide, by simp [sayNone], fun x hx => by simp [sayNone] at hx⟩, by simp [sayNone], by simp [sayNone], by simp [sayNone], by simp [sayNone]⟩
theorem spec_kit (t : ByteArray) (w : World) (hs : t.size ≤ 1048576) :
    Calls Tryz.prog 6 #[.string t] w fun e w' => ∃ v, e = .returned (.tuple #[v, .bool (lnB t)]) ∧ Hid (SayRd w' v (lnOut t)) ∧ Below w.heap.size w w' := (specFrom_any t w hs).mono fun _ _ h => by
  obtain ⟨v, S, h0, h1, -, h2⟩ := h
  exact ⟨v, h0, hide (unhide h1).rd, h2⟩
theorem impl_kit (t : ByteArray) (w : World) (hs : t.size ≤ 1048576) (hE : ErrIn w) (hP : PowIn w) :
    Calls Tryz.prog 7 #[.string t] w fun e w' => ∃ v S, e = .returned (.tuple #[v, .bool (lnB t)]) ∧ Hid (SayOwn S w' v (lnOut t)) ∧ Hid (∀ k ∈ S, w.heap.size ≤ k) ∧ Below w.heap.size w w' := implFrom_any t w hs hE hP

set_option maxHeartbeats 12800000 in
theorem walk0 (t : ByteArray) (w : World) (hf_t : t.size ≤ maxLen) (hE : ErrIn w) (hP : PowIn w) :
    Calls Tryz.prog 3 #[.string t] w fun e w' => e = .returned (.bool true) ∧ Below w.heap.size w w' := by
  have HE := hide hE
  have HP := hide hP
  clear hE hP
  have HF_t := hide hf_t
  clear hf_t
  go_enter Tryz.func3, Tryz.ntmps3
  have B00 := hide (Below.refl w.heap.size w)
  by_cases hl_t : (t.size : Int) ≤ 1048576
  rotate_left
  · have hm_t := unhide HF_t
    unfold maxLen at hm_t
    go_wp2_with fail
    go_ret
    exact ⟨rfl, by go_grown⟩
  have HS1 := hide (show t.size ≤ 1048576 by omega)
  have HRS0 := hide (show SmallSay (lnOut t) from small_ln t)
  obtain ⟨M_0, HM_0⟩ : ∃ N, Hid (nSay (lnOut t) = N) := ⟨_, rfl⟩
  have ML_0 : M_0 ≤ 100000000 := by rw [← unhide HM_0]; exact nSay_le (unhide HRS0)
  go_wp2_with fail
  refine (spec_kit t w (unhide HS1) ).mono ?_
  rintro e w2 ⟨v4, rfl, U5, b3⟩
  have B6 := hide ((unhide B00).trans (b3.mono (unhide B00).size))
  clear B00
  have Z7 := hide (show w.heap.size ≤ w2.heap.size from b3.size)
  clear b3
  obtain ⟨q_w0_0, q_w0_1, q_w0_2, q_w0_3, q_w0_4, q_w0_5, q_w0_6, q_w0_7, rfl⟩ := (unhide U5).form
  have BU8 := hide (Below.refl w2.heap.size w2)
  obtain ⟨bx9, b10, zz11⟩ := boxNew6 w2 (.int .i64 q_w0_0) (.int .i64 q_w0_1) (.int .i64 q_w0_2) (.string q_w0_3) (.int .i64 q_w0_4) (.slice q_w0_5 q_w0_6 q_w0_7) 24
  go_wp2_with fail
  generalize w2.alloc (.cells #[.int .i64 q_w0_0, .int .i64 q_w0_1, .int .i64 q_w0_2, .string q_w0_3, .int .i64 q_w0_4, .slice q_w0_5 q_w0_6 q_w0_7] 24) = W12 at *
  have B14 := hide ((unhide B6).trans (b10.mono (unhide B6).size))
  clear B6
  have BU15 := hide ((unhide BU8).trans (b10.mono (unhide BU8).size))
  clear BU8
  have Z16 := hide (show w2.heap.size < W12.heap.size from zz11)
  have BX13 := hide bx9
  clear bx9 b10 zz11
  refine (impl_kit t W12 (unhide HS1) ((unhide HE).below (unhide B14) (Nat.le_refl _)) ((unhide HP).below (unhide B14) (Nat.le_refl _))).mono ?_
  rintro e w17 ⟨v19, S20, rfl, O21, L22, b18⟩
  have B23 := hide ((unhide B14).trans (b18.mono (unhide B14).size))
  clear B14
  have BU24 := hide ((unhide BU15).trans (b18.mono (unhide BU15).size))
  clear BU15
  have BX25 := hide ((unhide BX13).up b18)
  clear BX13
  have Z26 := hide (show W12.heap.size ≤ w17.heap.size from b18.size)
  clear b18
  obtain ⟨q_g0_0, q_g0_1, q_g0_2, q_g0_3, q_g0_4, q_g0_5, q_g0_6, q_g0_7, rfl⟩ := (unhide O21).rd.form
  have H27 := hide (unhide O21).lt
  obtain ⟨x28, x29, x30, x31, x32, x33⟩ := (unhide BX25).six
  have lt34 : w2.heap.size < w17.heap.size := (unhide BX25).1
  obtain ⟨bx35, b36, zz37⟩ := boxNew6 w17 (.int .i64 q_g0_0) (.int .i64 q_g0_1) (.int .i64 q_g0_2) (.string q_g0_3) (.int .i64 q_g0_4) (.slice q_g0_5 q_g0_6 q_g0_7) 24
  go_wp2_with fail
  generalize w17.alloc (.cells #[.int .i64 q_g0_0, .int .i64 q_g0_1, .int .i64 q_g0_2, .string q_g0_3, .int .i64 q_g0_4, .slice q_g0_5 q_g0_6 q_g0_7] 24) = W38 at *
  have B40 := hide ((unhide B23).trans (b36.mono (unhide B23).size))
  clear B23
  have BU41 := hide ((unhide BU24).trans (b36.mono (unhide BU24).size))
  clear BU24
  have BX42 := hide ((unhide BX25).up b36)
  clear BX25
  have O43 := hide ((unhide O21).up b36)
  clear O21
  have Z44 := hide (show w17.heap.size < W38.heap.size from zz37)
  have BX39 := hide bx35
  clear bx35 b36 zz37
  clear x28 x29 x30 x31 x32 x33 lt34
  refine (eqSay_kit (lnOut t) _ _ W38 (unhide HRS0) (unhide O43).rd ((unhide U5).up (unhide BU41))).mono ?_
  rintro e w45 ⟨rfl, b46⟩
  have B47 := hide ((unhide B40).trans (b46.mono (unhide B40).size))
  clear B40
  have BU48 := hide ((unhide BU41).trans (b46.mono (unhide BU41).size))
  clear BU41
  have BX49 := hide ((unhide BX42).up b46)
  clear BX42
  have BX50 := hide ((unhide BX39).up b46)
  clear BX39
  have O51 := hide ((unhide O43).up b46)
  clear O43
  have Z52 := hide (show W38.heap.size ≤ w45.heap.size from b46.size)
  clear b46
  obtain ⟨x53, x54, x55, x56, x57, x58⟩ := (unhide BX49).six
  obtain ⟨x59, x60, x61, x62, x63, x64⟩ := (unhide BX50).six
  go_wp2_with fail
  clear x53 x54 x55 x56 x57 x58 x59 x60 x61 x62 x63 x64
  refine (markSay_kit S20 (lnOut t) _ w45 (1) M_0 (1) (by omega) (unhide HM_0) (by omega) (unhide HRS0) (unhide O51)).mono ?_
  rintro e w65 ⟨rfl, P66⟩
  have t67 := (unhide P66).2
  have B68 := hide ((unhide B47).trans (t67.below (unhide B47).size (fun k hk => by have z := unhide L22 k hk; have y := unhide H27 k hk; have z0 := unhide Z7; have z1 := unhide Z16; have z2 := unhide Z26; have z3 := unhide Z44; have z4 := unhide Z52; omega)))
  clear B47
  have BU69 := hide ((unhide BU48).trans (t67.below (unhide BU48).size (fun k hk => by have z := unhide L22 k hk; have y := unhide H27 k hk; have z0 := unhide Z7; have z1 := unhide Z16; have z2 := unhide Z26; have z3 := unhide Z44; have z4 := unhide Z52; omega)))
  clear BU48
  have BX70 := hide ((unhide BX49).turn t67 (fun hk => by have z := unhide L22 _ hk; have y := unhide H27 _ hk; have z0 := unhide Z7; have z1 := unhide Z16; have z2 := unhide Z26; have z3 := unhide Z44; have z4 := unhide Z52; omega))
  clear BX49
  have BX71 := hide ((unhide BX50).turn t67 (fun hk => by have z := unhide L22 _ hk; have y := unhide H27 _ hk; have z0 := unhide Z7; have z1 := unhide Z16; have z2 := unhide Z26; have z3 := unhide Z44; have z4 := unhide Z52; omega))
  clear BX50
  have Z72 := hide (show w45.heap.size ≤ w65.heap.size from t67.size)
  have O73 := hide (unhide P66).1
  clear P66 t67
  have nf73 : ¬ (1 + (M_0 : Int)) < 0 := by omega
  obtain ⟨x74, x75, x76, x77, x78, x79⟩ := (unhide BX70).six
  obtain ⟨x80, x81, x82, x83, x84, x85⟩ := (unhide BX71).six
  go_wp2_with fail
  clear x74 x75 x76 x77 x78 x79 x80 x81 x82 x83 x84 x85
  refine (heldSay_kit (lnOut t) _ w65 (1) M_0 (1) (by omega) (unhide HM_0) (by omega) (unhide HRS0) (unhide O73).rd).mono ?_
  rintro e w86 ⟨rfl, b87⟩
  have B88 := hide ((unhide B68).trans (b87.mono (unhide B68).size))
  clear B68
  have BU89 := hide ((unhide BU69).trans (b87.mono (unhide BU69).size))
  clear BU69
  have BX90 := hide ((unhide BX70).up b87)
  clear BX70
  have BX91 := hide ((unhide BX71).up b87)
  clear BX71
  have O92 := hide ((unhide O73).up b87)
  clear O73
  have Z93 := hide (show w65.heap.size ≤ w86.heap.size from b87.size)
  clear b87
  obtain ⟨x94, x95, x96, x97, x98, x99⟩ := (unhide BX90).six
  obtain ⟨x100, x101, x102, x103, x104, x105⟩ := (unhide BX91).six
  go_wp2_with fail
  clear x94 x95 x96 x97 x98 x99 x100 x101 x102 x103 x104 x105
  refine (impl_kit t w86 (unhide HS1) ((unhide HE).below (unhide B88) (Nat.le_refl _)) ((unhide HP).below (unhide B88) (Nat.le_refl _))).mono ?_
  rintro e w106 ⟨v108, S109, rfl, O110, L111, b107⟩
  have B112 := hide ((unhide B88).trans (b107.mono (unhide B88).size))
  clear B88
  have BU113 := hide ((unhide BU89).trans (b107.mono (unhide BU89).size))
  clear BU89
  have BX114 := hide ((unhide BX90).up b107)
  clear BX90
  have BX115 := hide ((unhide BX91).up b107)
  clear BX91
  have O116 := hide ((unhide O92).up b107)
  clear O92
  have Z117 := hide (show w86.heap.size ≤ w106.heap.size from b107.size)
  clear b107
  obtain ⟨q_h0_0, q_h0_1, q_h0_2, q_h0_3, q_h0_4, q_h0_5, q_h0_6, q_h0_7, rfl⟩ := (unhide O110).rd.form
  have H118 := hide (unhide O110).lt
  obtain ⟨x119, x120, x121, x122, x123, x124⟩ := (unhide BX114).six
  obtain ⟨x125, x126, x127, x128, x129, x130⟩ := (unhide BX115).six
  have lt131 : w2.heap.size < w106.heap.size := (unhide BX114).1
  have lt132 : w17.heap.size < w106.heap.size := (unhide BX115).1
  obtain ⟨bx133, b134, zz135⟩ := boxNew6 w106 (.int .i64 q_h0_0) (.int .i64 q_h0_1) (.int .i64 q_h0_2) (.string q_h0_3) (.int .i64 q_h0_4) (.slice q_h0_5 q_h0_6 q_h0_7) 24
  go_wp2_with fail
  generalize w106.alloc (.cells #[.int .i64 q_h0_0, .int .i64 q_h0_1, .int .i64 q_h0_2, .string q_h0_3, .int .i64 q_h0_4, .slice q_h0_5 q_h0_6 q_h0_7] 24) = W136 at *
  have B138 := hide ((unhide B112).trans (b134.mono (unhide B112).size))
  clear B112
  have BU139 := hide ((unhide BU113).trans (b134.mono (unhide BU113).size))
  clear BU113
  have BX140 := hide ((unhide BX114).up b134)
  clear BX114
  have BX141 := hide ((unhide BX115).up b134)
  clear BX115
  have O142 := hide ((unhide O116).up b134)
  clear O116
  have O143 := hide ((unhide O110).up b134)
  clear O110
  have Z144 := hide (show w106.heap.size < W136.heap.size from zz135)
  have BX137 := hide bx133
  clear bx133 b134 zz135
  clear x119 x120 x121 x122 x123 x124 x125 x126 x127 x128 x129 x130 lt131 lt132
  refine (eqSay_kit (lnOut t) _ _ W136 (unhide HRS0) (unhide O143).rd ((unhide U5).up (unhide BU139))).mono ?_
  rintro e w145 ⟨rfl, b146⟩
  have B147 := hide ((unhide B138).trans (b146.mono (unhide B138).size))
  clear B138
  have BU148 := hide ((unhide BU139).trans (b146.mono (unhide BU139).size))
  clear BU139
  have BX149 := hide ((unhide BX140).up b146)
  clear BX140
  have BX150 := hide ((unhide BX141).up b146)
  clear BX141
  have BX151 := hide ((unhide BX137).up b146)
  clear BX137
  have O152 := hide ((unhide O142).up b146)
  clear O142
  have O153 := hide ((unhide O143).up b146)
  clear O143
  have Z154 := hide (show W136.heap.size ≤ w145.heap.size from b146.size)
  clear b146
  obtain ⟨x155, x156, x157, x158, x159, x160⟩ := (unhide BX149).six
  obtain ⟨x161, x162, x163, x164, x165, x166⟩ := (unhide BX150).six
  obtain ⟨x167, x168, x169, x170, x171, x172⟩ := (unhide BX151).six
  go_wp2_with fail
  clear x155 x156 x157 x158 x159 x160 x161 x162 x163 x164 x165 x166 x167 x168 x169 x170 x171 x172
  refine (heldSay_kit (lnOut t) _ w145 (1) M_0 (1) (by omega) (unhide HM_0) (by omega) (unhide HRS0) (unhide O152).rd).mono ?_
  rintro e w173 ⟨rfl, b174⟩
  have B175 := hide ((unhide B147).trans (b174.mono (unhide B147).size))
  clear B147
  have BU176 := hide ((unhide BU148).trans (b174.mono (unhide BU148).size))
  clear BU148
  have BX177 := hide ((unhide BX149).up b174)
  clear BX149
  have BX178 := hide ((unhide BX150).up b174)
  clear BX150
  have BX179 := hide ((unhide BX151).up b174)
  clear BX151
  have O180 := hide ((unhide O152).up b174)
  clear O152
  have O181 := hide ((unhide O153).up b174)
  clear O153
  have Z182 := hide (show w145.heap.size ≤ w173.heap.size from b174.size)
  clear b174
  obtain ⟨x183, x184, x185, x186, x187, x188⟩ := (unhide BX177).six
  obtain ⟨x189, x190, x191, x192, x193, x194⟩ := (unhide BX178).six
  obtain ⟨x195, x196, x197, x198, x199, x200⟩ := (unhide BX179).six
  go_wp2_with fail
  go_ret
  exact ⟨rfl, unhide B175⟩

theorem laidTail {P : Program} {x : String × DataW Unit} {rest : List (String × DataW Unit)} {W : World} (h : laidMet P (x :: rest) W) : laidMet P rest W := by
  obtain ⟨ps, ⟨g', t', cs, fuel, p, q, _, _, _, _, hq, rfl⟩, hnd, hc⟩ := h
  exact ⟨q, hq, (List.nodup_append.1 hnd).2.1, fun b off hm => hc b off (List.mem_append_right _ hm)⟩
theorem gES : Tryz.prog.globalNamed "strconv.ErrSyntax" = some 0 := by kernel_rfl
theorem gER : Tryz.prog.globalNamed "strconv.ErrRange" = some 1 := by kernel_rfl
theorem cellsES : Tryz.prog.cellsOf 171 = 1 := by kernel_rfl
theorem cellsStr : Tryz.prog.cellsOf 9 = 1 := by kernel_rfl
theorem starES : "*" ++ "errors.errorString" = "*errors.errorString" := by decide
theorem rowES (u : TypeId) (h : Tryz.prog.typeName? 3 u = some "*errors.errorString") : u = 169 :=
  typeName_ptr_named (nm := "errors.errorString") (by rw [starES]; kernel_rfl) (by kernel_rfl) (by decide) u (by rw [starES]; exact h)
theorem own : ownKnob Tryz.prog.godebug = none := by kernel_rfl
theorem laidOut : laidOutB Tryz.prog = true := by kernel_rfl
theorem door_met (os : Os) (args : Array Value) : laidMetH Tryz.prog Rows.fnExactSayFromRow.laid ((World.doorLaid Tryz.prog 400 os).forCall (fun _ _ => 0) ⟨#[], args, []⟩).memory :=
  laidMetH_of_parts3 (fuel := 8) (laidMet_of_run' 8 (by kernel_rfl) (by kernel_rfl)) (by kernel_rfl) (by kernel_rfl)
theorem met {W : World} (h : laidMetH Tryz.prog Rows.fnExactSayFromRow.laid W) : laidMet Tryz.prog Rows.fnExactSayFromRow.laid W := h
theorem trodVars_three {H : Type} {enc : TypeId × Value → H} {P : Program} {w : World} {spare : Nat → Bool} {n0 n1 n2 : String} {gs : List (DataW H)} {ps : List MemPlace} (h : DataW.TrodVars enc P w spare [n0, n1, n2] gs ps) : ∃ d0 d1 d2, gs = [d0, d1, d2] := by
  cases gs with
  | nil => simp [DataW.TrodVars] at h
  | cons d ds =>
    obtain ⟨_, _, _, _, _, _, _, _, _, _, hs, _⟩ := h
    obtain ⟨_, _, _, _, d1, _, _, _, _, _, d2, _, e, _⟩ := trodVars_two hs
    exact ⟨d, d1, d2, by rw [e]⟩
theorem pow {W : World} (h : laidMetH Tryz.prog Rows.fnExactSayFromRow.laid W) : PowIn W :=
  Lib.tabIs_of_head gPow (t := 162) (by kernel_rfl) Tryz.underlying162 Tryz.underlying130 (by kernel_rfl) (by kernel_rfl) (laidTail (laidTail (met h)))
theorem err {W : World} (h : laidMetH Tryz.prog Rows.fnExactSayFromRow.laid W) : ErrIn W :=
  by
  obtain ⟨a0, s0, hv0, -, -, -⟩ := laid_sentinel (laidTail (laidTail (laidTail (met h)))) gER (by kernel_rfl) Tryz.underlying119 rowES Tryz.underlying169 Tryz.underlying171 rfl rfl Tryz.underlying9 cellsES cellsStr
  obtain ⟨a1, s1, hv1, -, -, -⟩ := laid_sentinel (laidTail (laidTail (laidTail (laidTail (met h))))) gES (by kernel_rfl) Tryz.underlying119 rowES Tryz.underlying169 Tryz.underlying171 rfl rfl Tryz.underlying9 cellsES cellsStr
  exact ⟨⟨_, _, by have h0 := World.var?_cell gES hv1 0; simpa using h0⟩, _, _, by have h0 := World.var?_cell gER hv0 0; simpa using h0⟩

set_option maxRecDepth 100000 in
theorem lifted (os : Os) (started : os.Started) (H : Type) (enc : TypeId × Value → H) :
    ReturnsInHanded {} Tryz.checked os 3 .any (fun w args => (Rows.fnExactSayFromSpec.pre enc Tryz.prog Tryz.f3 [] false w args ∧ laidMetH Tryz.prog Rows.fnExactSayFromRow.laid w) ∧ sizedMet enc Tryz.prog Tryz.f3 (OpenSpec.ofChange Rows.fnExactSayFromSpec) false w args)
      (Rows.fnExactSayFromSpec.post enc Tryz.prog Tryz.f3 false true false false) := by
  refine returnsInHanded_of_change_and (C := Tryz.checked) (X := fun w _ => laidMetH Tryz.prog Rows.fnExactSayFromRow.laid w) (fun _ _ _ hh h => h.of_heap hh) own started (by kernel_rfl) Tryz.func3
    (ChangeSpec.witness_shaped (enc := enc) (C := Tryz.checked) (os := os) (X := fun w _ => laidMetH Tryz.prog Rows.fnExactSayFromRow.laid w) false (World.doorLaid Tryz.prog 400 os) #[.string ByteArray.empty] 8 rfl (World.shaped_of_RefB (by kernel_rfl) (by kernel_rfl)) (by kernel_rfl) (by kernel_rfl) (by kernel_rfl) (door_met os _)) ?_
  intro W base args ds gs before hval0 hW _ _ hL _
  have hval : ∀ (j : Nat) t v, Tryz.f3.params[j]? = some t → args[j]? = some v → Value.okWide Tryz.prog W .any base t v := hval0
  have hW' := hW
  obtain ⟨p, q, hA0, hV, rfl, hfz, hnd⟩ := hW
  have hA : DataW.TrodAll enc Tryz.prog W 0 (fun _ => true) true Tryz.f3.params.toList args.toList ds p := hA0
  rw [Tryz.params3] at hA hval
  obtain ⟨v0, d0, rfl, rfl, h0⟩ := trodAll_one hA
  obtain ⟨rfl, rfl⟩ := trodVars_none hV
  obtain ⟨s0, rfl, rfl, rfl, w0⟩ := open_string Tryz.underlying9 (hval 0 9 v0 rfl rfl) h0
  have herr := err hL
  have hpow := pow hL
  clear hA0 hval0
  refine (walk0 s0 W w0 herr hpow).mono fun e W' ⟨he, bel⟩ => ?_
  subst he
  have hV' := Below.trodVars laidOut bel (by kernel_rfl) hV
  exact ⟨_, rfl, _, _, _, [], _, _, hW', trodAll_mk1 (shut_bool Tryz.underlying4 _), trodAll_mk1 (shut_string Tryz.underlying9 w0), hV', bel.frame _, fun h => by cases h⟩

theorem said : Rows.FnExactSayFromSaid :=
  OpenClaim.holds_of_wide 3 Tryz.f3 rfl rfl rfl rfl rfl rfl rfl ⟨rfl, rfl, rfl, rfl, rfl⟩ rfl rfl rfl rfl rfl (by kernel_rfl) Tryz.func3 (by kernel_rfl)
    (of_decide_eq_true (by kernel_rfl)) (by unfold Func.isWrapper; first | (rw [if_pos (by decide +kernel)]; kernel_rfl) | (rw [if_neg (by decide +kernel)]; exact ⟨rfl, rfl⟩))
    (fun os started H enc _ => lifted os started H enc)

theorem card : Rows.FnExactSayFromCardSaid :=
  Claim7.holds_tied_plain_at .later [] _ _ _ _ said (fun _ h => by cases h) (by kernel_rfl) (fun _ h => by cases h) fnExactSayFrom_row_tie rfl ⟨rfl, rfl⟩ (by kernel_rfl) rfl
    (fun f fn hf hfn => by
      obtain rfl : f = 3 := Option.some.inj ((show Tryz.prog.funcNamed Rows.fnExactSayFromRow.func = some 3 by kernel_rfl).symm.trans hf) |>.symm
      obtain rfl : fn = Tryz.f3 := (Option.some.inj (Tryz.func3.symm.trans hfn)).symm
      exact ⟨by kernel_rfl, fun j t ht => by
        rw [Tryz.params3] at ht
        obtain rfl : t = 9 := by simpa using Array.mem_of_getElem? ht
        exact (show Tryz.prog.wantsStandIn 9 = false by kernel_rfl)⟩)
    (by kernel_rfl)

end Go.Proofs.YtiebfcefmdiajaaGreatDoor.fnExactSayFrom

namespace Go.Proofs.YtiebfcefmdiajaaGreatDoor
theorem fnExactSayFrom_holds : Rows.FnExactSayFromCardSaid :=
  fnExactSayFrom.card
end Go.Proofs.YtiebfcefmdiajaaGreatDoor
