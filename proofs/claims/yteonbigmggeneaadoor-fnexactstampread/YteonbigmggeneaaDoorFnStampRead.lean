/-
  Proved: at every text the law on StampRead answers true, and the text reads afterwards as before: the program reads a stamp as the specification does, and its answer owns its memory. Condition: the table of powers and the two errors that strconv reads hold what its own text lays there (the card ties them to that text, by the given tie).
-/
import Derived.Test.YteonbigmggeneaaDoorStRdK
import Derived.Test.YteonbigmggeneaaDoorMarkHeld
import Derived.Test.YteonbigmggeneaaDoorRows
import Derived.Test.YteonbigmggeneaaDoorCards
import Derived.Test.YteonbigmggeneaaDoorTie
import Derived.WalkKit
import Derived.ProofKit
import Derived.OpenShut
import Derived.Handy
import Derived.ShutString
import Derived.LaidMore
import Derived.OpenVars
import Derived.SevenTiedAt
import Derived.Stop.Joined
import Derived.Stop.LaidErr
namespace Go.Proofs.YteonbigmggeneaaDoor.fnExactStampRead
open Go.ChangeShapes Go.WideShapes Go.ChangeAt Go.RowKit Go.Deep Go.Maps
open Go.ChangeMaps (open_string shut_string)
set_option linter.unusedVariables false

theorem small_rd (t : ByteArray) : SmallMarkS (rdOut t) := by
  unfold rdOut
  split
  · rename_i h
    refine readM_small _ ?_
    have := h.1
    unfold rdOkB at this
    simp only [Bool.and_eq_true, decide_eq_true_eq] at this
    simpa using this.1
  · exact ⟨⟨by simp, by simp⟩, fun x hx => by cases hx⟩
theorem spec_kit (t : ByteArray) (w : World) (hs : t.size ≤ 1048576) :
    Calls Tryd.prog 12 #[.string t] w fun e w' => ∃ v, e = .returned (.tuple #[v, .bool (rdOkB t)]) ∧ Hid (MarkSRd w' v (rdOut t)) ∧ Below w.heap.size w w' := (specStampRead_any t w hs).mono fun _ _ h => by
  obtain ⟨v, h0, h1, h2⟩ := h
  exact ⟨v, h0, hide (unhide h1).rd, h2⟩
theorem impl_kit (t : ByteArray) (w : World) (hs : t.size ≤ 1048576) (hE : ErrIn w) (hP : PowIn w) :
    Calls Tryd.prog 8 #[.string t] w fun e w' => ∃ v S, e = .returned (.tuple #[v, .bool (rdOkB t)]) ∧ Hid (MarkSOwn S w' v (rdOut t)) ∧ Hid (∀ k ∈ S, w.heap.size ≤ k) ∧ Below w.heap.size w w' := (implStampRead_any t w hs hE hP).mono fun _ _ h => by
  obtain ⟨v, h0, h1, h2⟩ := h
  obtain ⟨S, o, hS, -⟩ := (unhide h1).own
  exact ⟨v, S, h0, hide o, hide hS, h2⟩

set_option maxHeartbeats 12800000 in
theorem walk0 (t : ByteArray) (w : World) (hf_t : t.size ≤ maxLen) (hE : ErrIn w) (hP : PowIn w) :
    Calls Tryd.prog 4 #[.string t] w fun e w' => e = .returned (.bool true) ∧ Below w.heap.size w w' := by
  have HE := hide hE
  have HP := hide hP
  clear hE hP
  have HF_t := hide hf_t
  clear hf_t
  go_enter Tryd.func4, Tryd.ntmps4
  have B00 := hide (Below.refl w.heap.size w)
  by_cases hl_t : (t.size : Int) ≤ 1048576
  rotate_left
  · have hm_t := unhide HF_t
    unfold maxLen at hm_t
    go_wp2_with fail
    go_ret
    exact ⟨rfl, by go_grown⟩
  have HS1 := hide (show t.size ≤ 1048576 by omega)
  have HRS0 := hide (show SmallMarkS (rdOut t) from small_rd t)
  obtain ⟨M_0, HM_0⟩ : ∃ N, Hid (nMarkS (rdOut t) = N) := ⟨_, rfl⟩
  have ML_0 : M_0 ≤ 100000000 := by rw [← unhide HM_0]; exact nMarkS_le (unhide HRS0)
  go_wp2_with fail
  refine (spec_kit t w (unhide HS1) ).mono ?_
  rintro e w2 ⟨v4, rfl, U5, b3⟩
  have B6 := hide ((unhide B00).trans (b3.mono (unhide B00).size))
  clear B00
  have Z7 := hide (show w.heap.size ≤ w2.heap.size from b3.size)
  clear b3
  obtain ⟨q_w0_0, q_w0_1, q_w0_2, rfl⟩ := (unhide U5).form
  have BU8 := hide (Below.refl w2.heap.size w2)
  go_wp2_with fail
  refine (impl_kit t w2 (unhide HS1) ((unhide HE).below (unhide B6) (Nat.le_refl _)) ((unhide HP).below (unhide B6) (Nat.le_refl _))).mono ?_
  rintro e w9 ⟨v11, S12, rfl, O13, L14, b10⟩
  have B15 := hide ((unhide B6).trans (b10.mono (unhide B6).size))
  clear B6
  have BU16 := hide ((unhide BU8).trans (b10.mono (unhide BU8).size))
  clear BU8
  have Z17 := hide (show w2.heap.size ≤ w9.heap.size from b10.size)
  clear b10
  obtain ⟨q_g0_0, q_g0_1, q_g0_2, rfl⟩ := (unhide O13).rd.form
  have H18 := hide (unhide O13).lt
  go_wp2_with fail
  refine (eqMarkS_kit (rdOut t) _ _ w9 (unhide HRS0) (unhide O13).rd ((unhide U5).up (unhide BU16))).mono ?_
  rintro e w19 ⟨rfl, b20⟩
  have B21 := hide ((unhide B15).trans (b20.mono (unhide B15).size))
  clear B15
  have BU22 := hide ((unhide BU16).trans (b20.mono (unhide BU16).size))
  clear BU16
  have O23 := hide ((unhide O13).up b20)
  clear O13
  have Z24 := hide (show w9.heap.size ≤ w19.heap.size from b20.size)
  clear b20
  go_wp2_with fail
  refine (markMarkS_kit S12 (rdOut t) _ w19 (1) M_0 (1) (by omega) (unhide HM_0) (by omega) (unhide HRS0) (unhide O23)).mono ?_
  rintro e w25 ⟨rfl, P26⟩
  have t27 := (unhide P26).2
  have B28 := hide ((unhide B21).trans (t27.below (unhide B21).size (fun k hk => by have z := unhide L14 k hk; have y := unhide H18 k hk; have z0 := unhide Z7; have z1 := unhide Z17; have z2 := unhide Z24; omega)))
  clear B21
  have BU29 := hide ((unhide BU22).trans (t27.below (unhide BU22).size (fun k hk => by have z := unhide L14 k hk; have y := unhide H18 k hk; have z0 := unhide Z7; have z1 := unhide Z17; have z2 := unhide Z24; omega)))
  clear BU22
  have Z30 := hide (show w19.heap.size ≤ w25.heap.size from t27.size)
  have O31 := hide (unhide P26).1
  clear P26 t27
  have nf31 : ¬ (1 + (M_0 : Int)) < 0 := by omega
  go_wp2_with fail
  refine (heldMarkS_kit (rdOut t) _ w25 (1) M_0 (1) (by omega) (unhide HM_0) (by omega) (unhide HRS0) (unhide O31).rd).mono ?_
  rintro e w32 ⟨rfl, b33⟩
  have B34 := hide ((unhide B28).trans (b33.mono (unhide B28).size))
  clear B28
  have BU35 := hide ((unhide BU29).trans (b33.mono (unhide BU29).size))
  clear BU29
  have O36 := hide ((unhide O31).up b33)
  clear O31
  have Z37 := hide (show w25.heap.size ≤ w32.heap.size from b33.size)
  clear b33
  go_wp2_with fail
  refine (impl_kit t w32 (unhide HS1) ((unhide HE).below (unhide B34) (Nat.le_refl _)) ((unhide HP).below (unhide B34) (Nat.le_refl _))).mono ?_
  rintro e w38 ⟨v40, S41, rfl, O42, L43, b39⟩
  have B44 := hide ((unhide B34).trans (b39.mono (unhide B34).size))
  clear B34
  have BU45 := hide ((unhide BU35).trans (b39.mono (unhide BU35).size))
  clear BU35
  have O46 := hide ((unhide O36).up b39)
  clear O36
  have Z47 := hide (show w32.heap.size ≤ w38.heap.size from b39.size)
  clear b39
  obtain ⟨q_h0_0, q_h0_1, q_h0_2, rfl⟩ := (unhide O42).rd.form
  have H48 := hide (unhide O42).lt
  go_wp2_with fail
  refine (eqMarkS_kit (rdOut t) _ _ w38 (unhide HRS0) (unhide O42).rd ((unhide U5).up (unhide BU45))).mono ?_
  rintro e w49 ⟨rfl, b50⟩
  have B51 := hide ((unhide B44).trans (b50.mono (unhide B44).size))
  clear B44
  have BU52 := hide ((unhide BU45).trans (b50.mono (unhide BU45).size))
  clear BU45
  have O53 := hide ((unhide O46).up b50)
  clear O46
  have O54 := hide ((unhide O42).up b50)
  clear O42
  have Z55 := hide (show w38.heap.size ≤ w49.heap.size from b50.size)
  clear b50
  go_wp2_with fail
  refine (heldMarkS_kit (rdOut t) _ w49 (1) M_0 (1) (by omega) (unhide HM_0) (by omega) (unhide HRS0) (unhide O53).rd).mono ?_
  rintro e w56 ⟨rfl, b57⟩
  have B58 := hide ((unhide B51).trans (b57.mono (unhide B51).size))
  clear B51
  have BU59 := hide ((unhide BU52).trans (b57.mono (unhide BU52).size))
  clear BU52
  have O60 := hide ((unhide O53).up b57)
  clear O53
  have O61 := hide ((unhide O54).up b57)
  clear O54
  have Z62 := hide (show w49.heap.size ≤ w56.heap.size from b57.size)
  clear b57
  go_wp2_with fail
  go_ret
  exact ⟨rfl, unhide B58⟩

theorem laidTail {P : Program} {x : String × DataW Unit} {rest : List (String × DataW Unit)} {W : World} (h : laidMet P (x :: rest) W) : laidMet P rest W := by
  obtain ⟨ps, ⟨g', t', cs, fuel, p, q, _, _, _, _, hq, rfl⟩, hnd, hc⟩ := h
  exact ⟨q, hq, (List.nodup_append.1 hnd).2.1, fun b off hm => hc b off (List.mem_append_right _ hm)⟩
theorem gES : Tryd.prog.globalNamed "strconv.ErrSyntax" = some 2 := by kernel_rfl
theorem gER : Tryd.prog.globalNamed "strconv.ErrRange" = some 3 := by kernel_rfl
theorem cellsES : Tryd.prog.cellsOf 110 = 1 := by kernel_rfl
theorem cellsStr : Tryd.prog.cellsOf 9 = 1 := by kernel_rfl
theorem starES : "*" ++ "errors.errorString" = "*errors.errorString" := by decide
theorem rowES (u : TypeId) (h : Tryd.prog.typeName? 3 u = some "*errors.errorString") : u = 108 :=
  typeName_ptr_named (nm := "errors.errorString") (by rw [starES]; kernel_rfl) (by kernel_rfl) (by decide) u (by rw [starES]; exact h)
theorem own : ownKnob Tryd.prog.godebug = none := by kernel_rfl
theorem laidOut : laidOutB Tryd.prog = true := by kernel_rfl
theorem door_met (os : Os) (args : Array Value) : laidMetH Tryd.prog Rows.fnExactStampReadRow.laid ((World.doorLaid Tryd.prog 400 os).forCall (fun _ _ => 0) ⟨#[], args, []⟩).memory :=
  laidMetH_of_parts3 (fuel := 8) (laidMet_of_run' 8 (by kernel_rfl) (by kernel_rfl)) (by kernel_rfl) (by kernel_rfl)
theorem met {W : World} (h : laidMetH Tryd.prog Rows.fnExactStampReadRow.laid W) : laidMet Tryd.prog Rows.fnExactStampReadRow.laid W := h
theorem trodVars_three {H : Type} {enc : TypeId × Value → H} {P : Program} {w : World} {spare : Nat → Bool} {n0 n1 n2 : String} {gs : List (DataW H)} {ps : List MemPlace} (h : DataW.TrodVars enc P w spare [n0, n1, n2] gs ps) : ∃ d0 d1 d2, gs = [d0, d1, d2] := by
  cases gs with
  | nil => simp [DataW.TrodVars] at h
  | cons d ds =>
    obtain ⟨_, _, _, _, _, _, _, _, _, _, hs, _⟩ := h
    obtain ⟨_, _, _, _, d1, _, _, _, _, _, d2, _, e, _⟩ := trodVars_two hs
    exact ⟨d, d1, d2, by rw [e]⟩
theorem pow {W : World} (h : laidMetH Tryd.prog Rows.fnExactStampReadRow.laid W) : PowIn W :=
  Lib.tabIs_of_head gPow (t := 86) (by kernel_rfl) Tryd.underlying86 Tryd.underlying76 (by kernel_rfl) (by kernel_rfl) (laidTail (laidTail (met h)))
theorem err {W : World} (h : laidMetH Tryd.prog Rows.fnExactStampReadRow.laid W) : ErrIn W :=
  by
  obtain ⟨a0, s0, hv0, -, -, -⟩ := laid_sentinel (laidTail (laidTail (laidTail (met h)))) gER (by kernel_rfl) Tryd.underlying61 rowES Tryd.underlying108 Tryd.underlying110 rfl rfl Tryd.underlying9 cellsES cellsStr
  obtain ⟨a1, s1, hv1, -, -, -⟩ := laid_sentinel (laidTail (laidTail (laidTail (laidTail (met h))))) gES (by kernel_rfl) Tryd.underlying61 rowES Tryd.underlying108 Tryd.underlying110 rfl rfl Tryd.underlying9 cellsES cellsStr
  exact ⟨⟨_, _, by have h0 := World.var?_cell gES hv1 0; simpa using h0⟩, _, _, by have h0 := World.var?_cell gER hv0 0; simpa using h0⟩

set_option maxRecDepth 100000 in
theorem lifted (os : Os) (started : os.Started) (H : Type) (enc : TypeId × Value → H) :
    ReturnsInHanded {} Tryd.checked os 4 .any (fun w args => (Rows.fnExactStampReadSpec.pre enc Tryd.prog Tryd.f4 [] false w args ∧ laidMetH Tryd.prog Rows.fnExactStampReadRow.laid w) ∧ sizedMet enc Tryd.prog Tryd.f4 (OpenSpec.ofChange Rows.fnExactStampReadSpec) false w args)
      (Rows.fnExactStampReadSpec.post enc Tryd.prog Tryd.f4 false true false false) := by
  refine returnsInHanded_of_change_and (C := Tryd.checked) (X := fun w _ => laidMetH Tryd.prog Rows.fnExactStampReadRow.laid w) (fun _ _ _ hh h => h.of_heap hh) own started (by kernel_rfl) Tryd.func4
    (ChangeSpec.witness_shaped (enc := enc) (C := Tryd.checked) (os := os) (X := fun w _ => laidMetH Tryd.prog Rows.fnExactStampReadRow.laid w) false (World.doorLaid Tryd.prog 400 os) #[.string ByteArray.empty] 8 rfl (World.shaped_of_RefB (by kernel_rfl) (by kernel_rfl)) (by kernel_rfl) (by kernel_rfl) (by kernel_rfl) (door_met os _)) ?_
  intro W base args ds gs before hval0 hW _ _ hL _
  have hval : ∀ (j : Nat) t v, Tryd.f4.params[j]? = some t → args[j]? = some v → Value.okWide Tryd.prog W .any base t v := hval0
  have hW' := hW
  obtain ⟨p, q, hA0, hV, rfl, hfz, hnd⟩ := hW
  have hA : DataW.TrodAll enc Tryd.prog W 0 (fun _ => true) true Tryd.f4.params.toList args.toList ds p := hA0
  rw [Tryd.params4] at hA hval
  obtain ⟨v0, d0, rfl, rfl, h0⟩ := trodAll_one hA
  obtain ⟨rfl, rfl⟩ := trodVars_none hV
  obtain ⟨s0, rfl, rfl, rfl, w0⟩ := open_string Tryd.underlying9 (hval 0 9 v0 rfl rfl) h0
  have herr := err hL
  have hpow := pow hL
  clear hA0 hval0
  refine (walk0 s0 W w0 herr hpow).mono fun e W' ⟨he, bel⟩ => ?_
  subst he
  have hV' := Below.trodVars laidOut bel (by kernel_rfl) hV
  exact ⟨_, rfl, _, _, _, [], _, _, hW', trodAll_mk1 (shut_bool Tryd.underlying4 _), trodAll_mk1 (shut_string Tryd.underlying9 w0), hV', bel.frame _, fun h => by cases h⟩

theorem said : Rows.FnExactStampReadSaid :=
  OpenClaim.holds_of_wide 4 Tryd.f4 rfl rfl rfl rfl rfl rfl rfl ⟨rfl, rfl, rfl, rfl, rfl⟩ rfl rfl rfl rfl rfl (by kernel_rfl) Tryd.func4 (by kernel_rfl)
    (of_decide_eq_true (by kernel_rfl)) (by unfold Func.isWrapper; first | (rw [if_pos (by decide +kernel)]; kernel_rfl) | (rw [if_neg (by decide +kernel)]; exact ⟨rfl, rfl⟩))
    (fun os started H enc _ => lifted os started H enc)

theorem card : Rows.FnExactStampReadCardSaid :=
  Claim7.holds_tied_plain_at .later [] _ _ _ _ said (fun _ h => by cases h) (by kernel_rfl) (fun _ h => by cases h) fnExactStampRead_row_tie rfl ⟨rfl, rfl⟩ (by kernel_rfl) rfl
    (fun f fn hf hfn => by
      obtain rfl : f = 4 := Option.some.inj ((show Tryd.prog.funcNamed Rows.fnExactStampReadRow.func = some 4 by kernel_rfl).symm.trans hf) |>.symm
      obtain rfl : fn = Tryd.f4 := (Option.some.inj (Tryd.func4.symm.trans hfn)).symm
      exact ⟨by kernel_rfl, fun j t ht => by
        rw [Tryd.params4] at ht
        obtain rfl : t = 9 := by simpa using Array.mem_of_getElem? ht
        exact (show Tryd.prog.wantsStandIn 9 = false by kernel_rfl)⟩)
    (by kernel_rfl)

end Go.Proofs.YteonbigmggeneaaDoor.fnExactStampRead

namespace Go.Proofs.YteonbigmggeneaaDoor
theorem fnExactStampRead_holds : Rows.FnExactStampReadCardSaid :=
  fnExactStampRead.card
end Go.Proofs.YteonbigmggeneaaDoor
