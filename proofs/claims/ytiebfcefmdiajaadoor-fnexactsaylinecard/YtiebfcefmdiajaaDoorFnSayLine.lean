/-
  Proved: at every word the law on SayLine answers true, and the word reads afterwards as before: the program writes a word's line as the specification does, and writes into no argument. Condition: the table of powers that strconv reads holds what its own text lays there (the card ties it to that text, by the given tie).
-/
import Derived.Test.YtiebfcefmdiajaaDoorLineS
import Derived.Test.YtiebfcefmdiajaaDoorSayLineI
import Derived.Test.YtiebfcefmdiajaaDoorCards
import Derived.Test.YtiebfcefmdiajaaDoorTie
import Derived.WalkKit
import Derived.ProofKit
import Derived.OpenShut
import Derived.LaidMore
import Derived.OpenVars
import Derived.SevenTiedAt
import Derived.Stop.Joined
import Derived.Deep.RegionHeld3
namespace Go.Proofs.YtiebfcefmdiajaaDoor.fnExactSayLine
open Go.ChangeShapes Go.WideShapes Go.ChangeAt Go.RowKit Go.Deep
set_option linter.unusedVariables false

set_option maxHeartbeats 12800000 in
theorem walk (d : SayV) (v_d : Value) (w : World) (hf_d : SayFit d) (hr_d : SayRd w v_d d) (hp : PowIn w) :
    Calls Tryd.prog 3 #[v_d] w fun e w' => e = .returned (.bool true) ∧ Below w.heap.size w w' := by
  have HP := hide hp
  clear hp
  have HF_d := hide hf_d
  clear hf_d
  have HR_d := hide hr_d
  obtain ⟨p_d0, p_d1, p_d2, p_d3, p_d4, p_d5, p_d6, p_d7, rfl⟩ := hr_d.form
  clear hr_d
  go_enter Tryd.func3, Tryd.ntmps3
  obtain ⟨bx1, b2, zz3⟩ := boxNew6 w (.int .i64 p_d0) (.int .i64 p_d1) (.int .i64 p_d2) (.string p_d3) (.int .i64 p_d4) (.slice p_d5 p_d6 p_d7) 24
  go_wp2_with fail
  generalize w.alloc (.cells #[.int .i64 p_d0, .int .i64 p_d1, .int .i64 p_d2, .string p_d3, .int .i64 p_d4, .slice p_d5 p_d6 p_d7] 24) = W4 at *
  have B6 := hide b2
  have Z7 := hide (show w.heap.size < W4.heap.size from zz3)
  have BX5 := hide bx1
  clear bx1 b2 zz3
  refine (szSay_kit d _ W4 (unhide HF_d) ((unhide HR_d).up (unhide B6))).mono ?_
  rintro e w8 ⟨q9, rfl, HQ10, b11⟩
  have B12 := hide ((unhide B6).trans (b11.mono (unhide B6).size))
  clear B6
  have BX13 := hide ((unhide BX5).up b11)
  clear BX5
  have Z14 := hide (show W4.heap.size ≤ w8.heap.size from b11.size)
  clear b11
  by_cases hnegq9 : q9 < 0
  · go_wp2_with fail
    go_ret
    exact ⟨rfl, unhide B12⟩
  have HS15 := hide (unhide HQ10 (by omega))
  obtain ⟨N_d, HN_d⟩ : ∃ N, Hid (nSay d = N) := ⟨_, rfl⟩
  have NL_d : N_d ≤ 100000000 := by rw [← unhide HN_d]; exact nSay_le (unhide HS15)
  obtain ⟨x16, x17, x18, x19, x20, x21⟩ := (unhide BX13).six
  go_wp2_with fail
  clear x16 x17 x18 x19 x20 x21
  refine (toSay_kit d _ w8 (unhide HS15) ((unhide HR_d).up (unhide B12))).mono ?_
  rintro e w22 ⟨v23, S24, rfl, O25, L26, b27⟩
  have B28 := hide ((unhide B12).trans (b27.mono (unhide B12).size))
  clear B12
  have BX29 := hide ((unhide BX13).up b27)
  clear BX13
  have Z30 := hide (show w8.heap.size ≤ w22.heap.size from b27.size)
  clear b27
  have H31 := hide (unhide O25).lt
  obtain ⟨x32, x33, x34, x35, x36, x37⟩ := (unhide BX29).six
  go_wp2_with fail
  clear x32 x33 x34 x35 x36 x37
  refine (specLine_any d _ w22 (unhide HS15) (unhide O25).rd).mono ?_
  rintro e w38 ⟨rfl, b39⟩
  clear O25
  have B40 := hide ((unhide B28).trans (b39.mono (unhide B28).size))
  clear B28
  have BX41 := hide ((unhide BX29).up b39)
  clear BX29
  have Z42 := hide (show w22.heap.size ≤ w38.heap.size from b39.size)
  clear b39
  have BU43 := hide (Below.refl w38.heap.size w38)
  obtain ⟨x44, x45, x46, x47, x48, x49⟩ := (unhide BX41).six
  go_wp2_with fail
  clear x44 x45 x46 x47 x48 x49
  refine (toSay_kit d _ w38 (unhide HS15) ((unhide HR_d).up (unhide B40))).mono ?_
  rintro e w50 ⟨v51, S52, rfl, O53, L54, b55⟩
  have B56 := hide ((unhide B40).trans (b55.mono (unhide B40).size))
  clear B40
  have BU57 := hide ((unhide BU43).trans (b55.mono (unhide BU43).size))
  clear BU43
  have BX58 := hide ((unhide BX41).up b55)
  clear BX41
  have Z59 := hide (show w38.heap.size ≤ w50.heap.size from b55.size)
  clear b55
  have H60 := hide (unhide O53).lt
  obtain ⟨r_d0, r_d1, r_d2, r_d3, r_d4, r_d5, r_d6, r_d7, rfl⟩ := (unhide O53).rd.form
  obtain ⟨x61, x62, x63, x64, x65, x66⟩ := (unhide BX58).six
  have lt67 : w.heap.size < w50.heap.size := (unhide BX58).1
  obtain ⟨bx68, b69, zz70⟩ := boxNew6 w50 (.int .i64 r_d0) (.int .i64 r_d1) (.int .i64 r_d2) (.string r_d3) (.int .i64 r_d4) (.slice r_d5 r_d6 r_d7) 29
  go_wp2_with fail
  generalize w50.alloc (.cells #[.int .i64 r_d0, .int .i64 r_d1, .int .i64 r_d2, .string r_d3, .int .i64 r_d4, .slice r_d5 r_d6 r_d7] 29) = W71 at *
  have B73 := hide ((unhide B56).trans (b69.mono (unhide B56).size))
  clear B56
  have BU74 := hide ((unhide BU57).trans (b69.mono (unhide BU57).size))
  clear BU57
  have BX75 := hide ((unhide BX58).up b69)
  clear BX58
  have O76 := hide ((unhide O53).up b69)
  clear O53
  have Z77 := hide (show w50.heap.size < W71.heap.size from zz70)
  have BX72 := hide bx68
  clear bx68 b69 zz70
  clear x61 x62 x63 x64 x65 x66 lt67
  refine (implSayLine_any d _ W71 (unhide HS15) (unhide O76).rd ((unhide HP).below (unhide B73) (Nat.le_refl _))).mono ?_
  rintro e w78 ⟨rfl, b79⟩
  have B80 := hide ((unhide B73).trans (b79.mono (unhide B73).size))
  clear B73
  have BU81 := hide ((unhide BU74).trans (b79.mono (unhide BU74).size))
  clear BU74
  have BX82 := hide ((unhide BX75).up b79)
  clear BX75
  have BX83 := hide ((unhide BX72).up b79)
  clear BX72
  have O84 := hide ((unhide O76).up b79)
  clear O76
  have Z85 := hide (show W71.heap.size ≤ w78.heap.size from b79.size)
  clear b79
  obtain ⟨x86, x87, x88, x89, x90, x91⟩ := (unhide BX82).six
  obtain ⟨x92, x93, x94, x95, x96, x97⟩ := (unhide BX83).six
  go_wp2_with fail
  have KP98 := hide (show ∀ X : World, Below w78.heap.size w78 X → (fun (X : World) => (X.cell? ⟨w.heap.size, 0, none⟩ = some (.int .i64 p_d0) ∧ X.cell? ⟨w.heap.size, 1, none⟩ = some (.int .i64 p_d1) ∧ X.cell? ⟨w.heap.size, 2, none⟩ = some (.int .i64 p_d2) ∧ X.cell? ⟨w.heap.size, 3, none⟩ = some (.string p_d3) ∧ X.cell? ⟨w.heap.size, 4, none⟩ = some (.int .i64 p_d4) ∧ X.cell? ⟨w.heap.size, 5, none⟩ = some (.slice p_d5 p_d6 p_d7)) ∧ (X.cell? ⟨w50.heap.size, 0, none⟩ = some (.int .i64 r_d0) ∧ X.cell? ⟨w50.heap.size, 1, none⟩ = some (.int .i64 r_d1) ∧ X.cell? ⟨w50.heap.size, 2, none⟩ = some (.int .i64 r_d2) ∧ X.cell? ⟨w50.heap.size, 3, none⟩ = some (.string r_d3) ∧ X.cell? ⟨w50.heap.size, 4, none⟩ = some (.int .i64 r_d4) ∧ X.cell? ⟨w50.heap.size, 5, none⟩ = some (.slice r_d5 r_d6 r_d7)) ∧ Hid (Below w78.heap.size w78 X)) X from fun X b => ⟨((unhide BX82).up b).six, ((unhide BX83).up b).six, hide b⟩)
  have BD99 := hide ((Below.refl w78.heap.size w78).drew)
  go_region_held3 (fun (X : World) => (X.cell? ⟨w.heap.size, 0, none⟩ = some (.int .i64 p_d0) ∧ X.cell? ⟨w.heap.size, 1, none⟩ = some (.int .i64 p_d1) ∧ X.cell? ⟨w.heap.size, 2, none⟩ = some (.int .i64 p_d2) ∧ X.cell? ⟨w.heap.size, 3, none⟩ = some (.string p_d3) ∧ X.cell? ⟨w.heap.size, 4, none⟩ = some (.int .i64 p_d4) ∧ X.cell? ⟨w.heap.size, 5, none⟩ = some (.slice p_d5 p_d6 p_d7)) ∧ (X.cell? ⟨w50.heap.size, 0, none⟩ = some (.int .i64 r_d0) ∧ X.cell? ⟨w50.heap.size, 1, none⟩ = some (.int .i64 r_d1) ∧ X.cell? ⟨w50.heap.size, 2, none⟩ = some (.int .i64 r_d2) ∧ X.cell? ⟨w50.heap.size, 3, none⟩ = some (.string r_d3) ∧ X.cell? ⟨w50.heap.size, 4, none⟩ = some (.int .i64 r_d4) ∧ X.cell? ⟨w50.heap.size, 5, none⟩ = some (.slice r_d5 r_d6 r_d7)) ∧ Hid (Below w78.heap.size w78 X)) ((refine unhide KP98 _ ?_; exact unhide (by assumption)))
    (first
      | (go_at_call 8; have _t := BB106; refine (eqSay_kit d _ _ _ (unhide HS15) ((unhide O84).up (unhide BB106)).rd (unhide O103).rd).mono ?_; rintro e w107 ⟨rfl, b108⟩; have BB109 := hide ((unhide BB106).trans (b108.mono (unhide BB106).size)); clear b108)
      | (go_at_call 6; refine (toSay_kit d _ _ (unhide HS15) ((unhide HR_d).up ((unhide B80).trans ((unhide BD99).mono (unhide B80).size)))).mono ?_; rintro e w100 ⟨v101, S102, rfl, O103, L104, b105⟩; have BB106 := hide ((unhide BD99).trans (b105.mono (unhide BD99).size)); clear b105)
      | fail)
  clear x86 x87 x88 x89 x90 x91 x92 x93 x94 x95 x96 x97
  all_goals
    try clear _t
    have B110 := hide ((unhide B80).trans ((unhide BB109).mono (unhide B80).size))
    clear B80
    have BU111 := hide ((unhide BU81).trans ((unhide BB109).mono (unhide BU81).size))
    clear BU81
    have BX112 := hide ((unhide BX82).up (unhide BB109))
    clear BX82
    have BX113 := hide ((unhide BX83).up (unhide BB109))
    clear BX83
    have O114 := hide ((unhide O84).up (unhide BB109))
    clear O84
    have Z115 := hide (show w78.heap.size ≤ w107.heap.size from (unhide BB109).size)
    clear BB109 BB106 KP98 BD99 O103 L104
    obtain ⟨x116, x117, x118, x119, x120, x121⟩ := (unhide BX112).six
    obtain ⟨x122, x123, x124, x125, x126, x127⟩ := (unhide BX113).six
    go_wp2_with fail
    go_ret
    exact ⟨rfl, unhide B110⟩

theorem laidTail {P : Program} {x : String × DataW Unit} {rest : List (String × DataW Unit)} {W : World} (h : laidMet P (x :: rest) W) : laidMet P rest W := by
  obtain ⟨ps, ⟨g', t', cs, fuel, p, q, _, _, _, _, hq, rfl⟩, hnd, hc⟩ := h
  exact ⟨q, hq, (List.nodup_append.1 hnd).2.1, fun b off hm => hc b off (List.mem_append_right _ hm)⟩
theorem own : ownKnob Tryd.prog.godebug = none := by kernel_rfl
theorem laidOut : laidOutB Tryd.prog = true := by kernel_rfl
theorem door_met (os : Os) (args : Array Value) : laidMetH Tryd.prog Rows.fnExactSayLineRow.laid ((World.doorLaid Tryd.prog 400 os).forCall (fun _ _ => 0) ⟨#[], args, []⟩).memory :=
  laidMetH_of_parts3 (fuel := 8) (laidMet_of_run' 8 (by kernel_rfl) (by kernel_rfl)) (by kernel_rfl) (by kernel_rfl)
theorem met {W : World} (h : laidMetH Tryd.prog Rows.fnExactSayLineRow.laid W) : laidMet Tryd.prog Rows.fnExactSayLineRow.laid W := h
theorem trodVars_three {H : Type} {enc : TypeId × Value → H} {P : Program} {w : World} {spare : Nat → Bool} {n0 n1 n2 : String} {gs : List (DataW H)} {ps : List MemPlace} (h : DataW.TrodVars enc P w spare [n0, n1, n2] gs ps) : ∃ d0 d1 d2, gs = [d0, d1, d2] := by
  cases gs with
  | nil => simp [DataW.TrodVars] at h
  | cons d ds =>
    obtain ⟨_, _, _, _, _, _, _, _, _, _, hs, _⟩ := h
    obtain ⟨_, _, _, _, d1, _, _, _, _, _, d2, _, e, _⟩ := trodVars_two hs
    exact ⟨d, d1, d2, by rw [e]⟩
theorem pow {W : World} (h : laidMetH Tryd.prog Rows.fnExactSayLineRow.laid W) : PowIn W :=
  Lib.tabIs_of_head gPow (t := 107) (by kernel_rfl) Tryd.underlying107 Tryd.underlying93 (by kernel_rfl) (by kernel_rfl) (laidTail (laidTail (met h)))

set_option maxRecDepth 100000 in
theorem lifted (os : Os) (started : os.Started) (H : Type) (enc : TypeId × Value → H) :
    ReturnsInHanded {} Tryd.checked os 3 .any (fun w args => (Rows.fnExactSayLineSpec.pre enc Tryd.prog Tryd.f3 [] false w args ∧ laidMetH Tryd.prog Rows.fnExactSayLineRow.laid w) ∧ sizedMet enc Tryd.prog Tryd.f3 (OpenSpec.ofChange Rows.fnExactSayLineSpec) false w args)
      (Rows.fnExactSayLineSpec.post enc Tryd.prog Tryd.f3 false true false false) := by
  refine returnsInHanded_of_change_and (C := Tryd.checked) (X := fun w _ => laidMetH Tryd.prog Rows.fnExactSayLineRow.laid w) (fun _ _ _ hh h => h.of_heap hh) own started (by kernel_rfl) Tryd.func3
    (ChangeSpec.witness_shaped (enc := enc) (C := Tryd.checked) (os := os) (X := fun w _ => laidMetH Tryd.prog Rows.fnExactSayLineRow.laid w) false (World.doorLaid Tryd.prog 400 os) #[.agg #[.int .i64 0, .int .i64 0, .int .i64 0, .string ⟨#[]⟩, .int .i64 0, .slice none 0 0]] 8 rfl (World.shaped_of_RefB (by kernel_rfl) (by kernel_rfl)) (by kernel_rfl) (by kernel_rfl) (by kernel_rfl) (door_met os _)) ?_
  intro W base args ds gs before hval0 hW _ _ hL _
  have hval : ∀ (j : Nat) t v, Tryd.f3.params[j]? = some t → args[j]? = some v → Value.okWide Tryd.prog W .any base t v := hval0
  have hW' := hW
  obtain ⟨p, q, hA0, hV, rfl, hfz, hnd⟩ := hW
  have hA : DataW.TrodAll enc Tryd.prog W 0 (fun _ => true) true Tryd.f3.params.toList args.toList ds p := hA0
  rw [Tryd.params3] at hA hval
  obtain ⟨v0, d0, rfl, rfl, h0⟩ := trodAll_one hA
  obtain ⟨rfl, rfl⟩ := trodVars_none hV
  obtain ⟨cs, rfl, hcs⟩ := aggOf Tryd.underlying24 cellsSay (hval 0 24 v0 rfl rfl)
  obtain ⟨c0, c1, c2, c3, c4, c5, rfl⟩ := array6 hcs
  have k0 := h0
  have lt0 : ∀ x ∈ p, x.block < W.heap.size := by obtain ⟨m, hm⟩ := k0; exact DataW.trod_lt m _ _ _ hm
  obtain ⟨d, hr, hf⟩ := openSay h0
  have hpow := pow hL
  clear hA0 hval0
  refine (walk d _ W hf hr hpow).mono fun e W' ⟨he, bel⟩ => ?_
  subst he
  have hV' := Below.trodVars laidOut bel (by kernel_rfl) hV
  exact ⟨_, rfl, _, _, _, [], _, _, hW', trodAll_mk1 (shut_bool Tryd.underlying4 _), trodAll_mk1 (Below.trod laidOut (by kernel_rfl) (of_decide_eq_true (by kernel_rfl)) k0 bel lt0), hV', bel.frame _, fun h => by cases h⟩

theorem said : Rows.FnExactSayLineSaid :=
  OpenClaim.holds_of_wide 3 Tryd.f3 rfl rfl rfl rfl rfl rfl rfl ⟨rfl, rfl, rfl, rfl, rfl⟩ rfl rfl rfl rfl rfl (by kernel_rfl) Tryd.func3 (by kernel_rfl)
    (of_decide_eq_true (by kernel_rfl)) (by unfold Func.isWrapper; first | (rw [if_pos (by decide +kernel)]; kernel_rfl) | (rw [if_neg (by decide +kernel)]; exact ⟨rfl, rfl⟩))
    (fun os started H enc _ => lifted os started H enc)

theorem card : Rows.FnExactSayLineCardSaid :=
  Claim7.holds_tied_plain_at .later [] _ _ _ _ said (fun _ h => by cases h) (by kernel_rfl) (fun _ h => by cases h) fnExactSayLine_row_tie rfl ⟨rfl, rfl⟩ (by kernel_rfl) rfl
    (fun f fn hf hfn => by
      obtain rfl : f = 3 := Option.some.inj ((show Tryd.prog.funcNamed Rows.fnExactSayLineRow.func = some 3 by kernel_rfl).symm.trans hf) |>.symm
      obtain rfl : fn = Tryd.f3 := (Option.some.inj (Tryd.func3.symm.trans hfn)).symm
      exact ⟨by kernel_rfl, fun j t ht => by
        rw [Tryd.params3] at ht
        obtain rfl : t = 24 := by simpa using Array.mem_of_getElem? ht
        exact (show Tryd.prog.wantsStandIn 24 = false by kernel_rfl)⟩)
    (by kernel_rfl)

end Go.Proofs.YtiebfcefmdiajaaDoor.fnExactSayLine

namespace Go.Proofs.YtiebfcefmdiajaaDoor
theorem fnExactSayLine_holds : Rows.FnExactSayLineCardSaid :=
  fnExactSayLine.card
end Go.Proofs.YtiebfcefmdiajaaDoor
