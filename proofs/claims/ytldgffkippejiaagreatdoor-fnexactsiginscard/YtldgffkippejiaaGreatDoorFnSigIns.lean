/-
  Proved: at every text the law on SigIns answers true, and the text reads afterwards as before: the program tells the inputs of a body as the specification does, and its answer owns its memory. Condition: the package variables that the row lists hold what the program's text lays (errors.errorType the handle of the type 'error', impl.shapes its table, and those of strconv and math/bits, of which none is used).
-/
import Derived.Test.YtldgffkippejiaaGreatDoorSigC
import Derived.Test.YtldgffkippejiaaGreatDoorStrHeld
import Derived.Test.YtldgffkippejiaaGreatDoorMerged47
import Derived.Test.YtldgffkippejiaaGreatDoorRows
import Derived.Test.YtldgffkippejiaaGreatDoorCards
import Derived.Test.YtldgffkippejiaaGreatDoorTie
import Derived.WalkKit
import Derived.ProofKit
import Derived.OpenShut
import Derived.Handy
import Derived.ShutString
import Derived.LaidMore
import Derived.LaidHandle
import Derived.OpenVars
import Derived.SevenTiedAt
import Derived.Stop.Joined
namespace Go.Proofs.YtldgffkippejiaaGreatDoor.fnExactSigIns
open Go.ChangeShapes Go.WideShapes Go.ChangeAt Go.RowKit Go.Deep Go.Maps
open Go.ChangeMaps (open_string shut_string)
set_option linter.unusedVariables false

def TrG (w : World) : Prop := ErrG w ∧ ShapesIn w
theorem TrG.below {w w' : World} {B : Nat} (h : TrG w) (hb : Below B w w') (hB : w.heap.size ≤ B) : TrG w' := ⟨h.1.below hb hB, h.2.below hb hB⟩
theorem tx_own {B : Nat} {w : World} {v : Value} {ts : List ByteArray} (h : TxRow B w v ts) : ∃ S, StringSOwn S w v ts ∧ (∀ k ∈ S, B ≤ k) := by
  have hh : w.ownsRow B 9 1 v ts.length (ts.map .string) := h
  rcases h with ⟨_, ⟨rfl, h0⟩ | ⟨g, cap, cur, rfl, hB, hg, hnc, _⟩⟩
  · have : ts = [] := List.eq_nil_of_length_eq_zero h0
    subst this
    exact ⟨[], .inl ⟨rfl, rfl, none, 0, rfl⟩, by simp⟩
  · refine ⟨[g], .inr ⟨g, 0, cap, rfl, rfl, (Array.getElem?_eq_some_iff.1 hg).1, fun i hi => ?_, fun i hi => hh.frozenAt _⟩, by simpa using hB⟩
    rw [Nat.zero_add, hh.cellAt _ (by omega)]
    simp [hi]
theorem spec_kit (t : ByteArray) (w : World) (hs : t.size ≤ 1048576) :
    Calls Tryz.prog 5 #[.string t] w fun e w' => ∃ v, e = .returned (.tuple #[v, .bool (sigB t)]) ∧ Hid (StringSRd w' v (sigOut t)) ∧ Below w.heap.size w w' := (specSig_any t w hs).mono fun _ _ h => by
  obtain ⟨v, h0, h1, h2⟩ := h
  exact ⟨v, h0, hide (str_rd (unhide h1)), h2⟩
theorem impl_kit (t : ByteArray) (w : World) (hs : t.size ≤ 1048576) (hE : TrG w) :
    Calls Tryz.prog 6 #[.string t] w fun e w' => ∃ v S, e = .returned (.tuple #[v, .bool (sigB t)]) ∧ Hid (StringSOwn S w' v (sigOut t)) ∧ Hid (∀ k ∈ S, w.heap.size ≤ k) ∧ Below w.heap.size w w' := (implSig_any t w hs hE.2 hE.1).mono fun _ _ h => by
  obtain ⟨v, h0, h1, h2⟩ := h
  obtain ⟨S, o, hS⟩ := tx_own (unhide h1)
  exact ⟨v, S, h0, hide o, hide hS, h2⟩

set_option maxHeartbeats 12800000 in
theorem walk0 (t : ByteArray) (w : World) (hf_t : t.size ≤ maxLen) (hE : TrG w) :
    Calls Tryz.prog 3 #[.string t] w fun e w' => e = .returned (.bool true) ∧ Below w.heap.size w w' := by
  have HE := hide hE
  clear hE
  have HF_t := hide hf_t
  clear hf_t
  go_enter Tryz.func3, Tryz.ntmps3
  have B00 := hide (Below.refl w.heap.size w)
  by_cases hl_t : (t.size : Int) ≤ 1048576
  rotate_left
  · have hm_t := unhide HF_t
    unfold maxLen at hm_t
    go_wp2_with fail
    go_ret
    exact ⟨rfl, by go_grown⟩
  have HS1 := hide (show t.size ≤ 1048576 by omega)
  have HRS0 := hide (show SmallStringS (sigOut t) from (sig_small t).1)
  obtain ⟨M_0, HM_0⟩ : ∃ N, Hid (nStringS (sigOut t) = N) := ⟨_, rfl⟩
  have ML_0 : M_0 ≤ 100000000 := by rw [← unhide HM_0]; exact nStringS_le (unhide HRS0)
  go_wp2_with fail
  refine (spec_kit t w (unhide HS1) ).mono ?_
  rintro e w2 ⟨v4, rfl, U5, b3⟩
  have B6 := hide ((unhide B00).trans (b3.mono (unhide B00).size))
  clear B00
  have Z7 := hide (show w.heap.size ≤ w2.heap.size from b3.size)
  clear b3
  obtain ⟨q_w0_0, q_w0_1, q_w0_2, rfl⟩ := (unhide U5).form
  have BU8 := hide (Below.refl w2.heap.size w2)
  go_wp2_with fail
  refine (impl_kit t w2 (unhide HS1) ((unhide HE).below (unhide B6) (Nat.le_refl _))).mono ?_
  rintro e w9 ⟨v11, S12, rfl, O13, L14, b10⟩
  have B15 := hide ((unhide B6).trans (b10.mono (unhide B6).size))
  clear B6
  have BU16 := hide ((unhide BU8).trans (b10.mono (unhide BU8).size))
  clear BU8
  have Z17 := hide (show w2.heap.size ≤ w9.heap.size from b10.size)
  clear b10
  obtain ⟨q_g0_0, q_g0_1, q_g0_2, rfl⟩ := (unhide O13).rd.form
  have H18 := hide (unhide O13).lt
  go_wp2_with fail
  refine (eqStringS_kit (sigOut t) _ _ w9 (unhide HRS0) (unhide O13).rd ((unhide U5).up (unhide BU16))).mono ?_
  rintro e w19 ⟨rfl, b20⟩
  have B21 := hide ((unhide B15).trans (b20.mono (unhide B15).size))
  clear B15
  have BU22 := hide ((unhide BU16).trans (b20.mono (unhide BU16).size))
  clear BU16
  have O23 := hide ((unhide O13).up b20)
  clear O13
  have Z24 := hide (show w9.heap.size ≤ w19.heap.size from b20.size)
  clear b20
  go_wp2_with fail
  refine (markStringS_kit S12 (sigOut t) _ w19 (1) M_0 (1) (by omega) (unhide HM_0) (by omega) (unhide HRS0) (unhide O23)).mono ?_
  rintro e w25 ⟨rfl, P26⟩
  have t27 := (unhide P26).2
  have B28 := hide ((unhide B21).trans (t27.below (unhide B21).size (fun k hk => by have z := unhide L14 k hk; have y := unhide H18 k hk; have z0 := unhide Z7; have z1 := unhide Z17; have z2 := unhide Z24; omega)))
  clear B21
  have BU29 := hide ((unhide BU22).trans (t27.below (unhide BU22).size (fun k hk => by have z := unhide L14 k hk; have y := unhide H18 k hk; have z0 := unhide Z7; have z1 := unhide Z17; have z2 := unhide Z24; omega)))
  clear BU22
  have Z30 := hide (show w19.heap.size ≤ w25.heap.size from t27.size)
  have O31 := hide (unhide P26).1
  clear P26 t27
  have nf31 : ¬ (1 + (M_0 : Int)) < 0 := by omega
  go_wp2_with fail
  refine (heldStringS_kit (sigOut t) _ w25 (1) M_0 (1) (by omega) (unhide HM_0) (by omega) (unhide HRS0) (unhide O31).rd).mono ?_
  rintro e w32 ⟨rfl, b33⟩
  have B34 := hide ((unhide B28).trans (b33.mono (unhide B28).size))
  clear B28
  have BU35 := hide ((unhide BU29).trans (b33.mono (unhide BU29).size))
  clear BU29
  have O36 := hide ((unhide O31).up b33)
  clear O31
  have Z37 := hide (show w25.heap.size ≤ w32.heap.size from b33.size)
  clear b33
  go_wp2_with fail
  refine (impl_kit t w32 (unhide HS1) ((unhide HE).below (unhide B34) (Nat.le_refl _))).mono ?_
  rintro e w38 ⟨v40, S41, rfl, O42, L43, b39⟩
  have B44 := hide ((unhide B34).trans (b39.mono (unhide B34).size))
  clear B34
  have BU45 := hide ((unhide BU35).trans (b39.mono (unhide BU35).size))
  clear BU35
  have O46 := hide ((unhide O36).up b39)
  clear O36
  have Z47 := hide (show w32.heap.size ≤ w38.heap.size from b39.size)
  clear b39
  obtain ⟨q_h0_0, q_h0_1, q_h0_2, rfl⟩ := (unhide O42).rd.form
  have H48 := hide (unhide O42).lt
  go_wp2_with fail
  refine (eqStringS_kit (sigOut t) _ _ w38 (unhide HRS0) (unhide O42).rd ((unhide U5).up (unhide BU45))).mono ?_
  rintro e w49 ⟨rfl, b50⟩
  have B51 := hide ((unhide B44).trans (b50.mono (unhide B44).size))
  clear B44
  have BU52 := hide ((unhide BU45).trans (b50.mono (unhide BU45).size))
  clear BU45
  have O53 := hide ((unhide O46).up b50)
  clear O46
  have O54 := hide ((unhide O42).up b50)
  clear O42
  have Z55 := hide (show w38.heap.size ≤ w49.heap.size from b50.size)
  clear b50
  go_wp2_with fail
  refine (heldStringS_kit (sigOut t) _ w49 (1) M_0 (1) (by omega) (unhide HM_0) (by omega) (unhide HRS0) (unhide O53).rd).mono ?_
  rintro e w56 ⟨rfl, b57⟩
  have B58 := hide ((unhide B51).trans (b57.mono (unhide B51).size))
  clear B51
  have BU59 := hide ((unhide BU52).trans (b57.mono (unhide BU52).size))
  clear BU52
  have O60 := hide ((unhide O53).up b57)
  clear O53
  have O61 := hide ((unhide O54).up b57)
  clear O54
  have Z62 := hide (show w49.heap.size ≤ w56.heap.size from b57.size)
  clear b57
  go_wp2_with fail
  go_ret
  exact ⟨rfl, unhide B58⟩

theorem own : ownKnob Tryz.prog.godebug = none := by kernel_rfl
theorem laidOut : laidOutB Tryz.prog = true := by kernel_rfl
theorem door_met (os : Os) (args : Array Value) : laidMetH Tryz.prog Rows.fnExactSigInsRow.laid ((World.doorLaid Tryz.prog 400 os).forCall (fun _ _ => 0) ⟨#[], args, []⟩).memory :=
  laidMetH_of_parts3 (fuel := 8) (laidMet_of_run' 8 (by kernel_rfl) (by kernel_rfl)) (by kernel_rfl) (by kernel_rfl)
theorem et : Tryz.prog.globalNamed "errors.errorType" = some 0 := by kernel_rfl
theorem rt : (Tryz.prog.cutTypes.find? (·.1 == "internal/reflectlite.rtype")).map (·.2) = some 151 := by kernel_rfl
theorem oneRow : ((List.range Tryz.prog.types.size).filter fun t => Tryz.prog.rowNamed t [101, 114, 114, 111, 114]) = [73] := by kernel_rfl
theorem parts {W : World} (h : laidMetH Tryz.prog Rows.fnExactSigInsRow.laid W) : laidMet Tryz.prog [("math/bits.deBruijn32tab", Rows.laid_math_bits_deBruijn32tab), ("math/bits.deBruijn64tab", Rows.laid_math_bits_deBruijn64tab), ("internal/strconv.uint64pow10", Rows.laid_internal_strconv_uint64pow10), ("strconv.ErrRange", Rows.laid_strconv_ErrRange), ("strconv.ErrSyntax", Rows.laid_strconv_ErrSyntax), ("loop.example/headrace/impl.shapes", Rows.laid_loop_example_headrace_impl_shapes)] W ∧ handlesMet Tryz.prog [("errors.errorType", Rows.laid_errors_errorType)] W := h
theorem shapes {W : World} (h : laidMetH Tryz.prog Rows.fnExactSigInsRow.laid W) : ShapesIn W := by
  obtain ⟨ps, hv, _⟩ := (parts h).1
  obtain ⟨_, _, _, _, _, _, _, _, _, _, hv, _⟩ := hv
  obtain ⟨_, _, _, _, _, _, _, _, _, _, hv, _⟩ := hv
  obtain ⟨_, _, _, _, _, _, _, _, _, _, hv, _⟩ := hv
  obtain ⟨_, _, _, _, _, _, _, _, _, _, hv, _⟩ := hv
  obtain ⟨_, _, _, _, _, _, _, _, _, _, hv, _⟩ := hv
  exact shapes_of_vars (by kernel_rfl) hv
theorem errs {W : World} (h : laidMetH Tryz.prog Rows.fnExactSigInsRow.laid W) : ErrG W := by
  have h' := parts h
  obtain ⟨name, u, ty, e1, e2, e3, e4, e5⟩ := h'.2 _ (List.mem_singleton.2 rfl)
  have en : name = [101, 114, 114, 111, 114] := (Option.some.inj e1).symm
  subst en
  obtain rfl := Option.some.inj (rt.symm.trans e2)
  have hm : ty ∈ (List.range Tryz.prog.types.size).filter fun t => Tryz.prog.rowNamed t [101, 114, 114, 111, 114] := List.mem_filter.2 ⟨List.mem_range.2 e3, e4⟩
  rw [oneRow] at hm
  obtain rfl := List.mem_singleton.1 hm
  have hh : typeHandle Tryz.prog 73 = .pointer (some ⟨7, 73, none⟩) := by kernel_rfl
  rw [hh] at e5
  unfold ErrG
  simpa using World.var?_cell et e5 0

set_option maxRecDepth 100000 in
theorem lifted (os : Os) (started : os.Started) (H : Type) (enc : TypeId × Value → H) :
    ReturnsInHanded {} Tryz.checked os 3 .any (fun w args => (Rows.fnExactSigInsSpec.pre enc Tryz.prog Tryz.f3 [] false w args ∧ laidMetH Tryz.prog Rows.fnExactSigInsRow.laid w) ∧ sizedMet enc Tryz.prog Tryz.f3 (OpenSpec.ofChange Rows.fnExactSigInsSpec) false w args)
      (Rows.fnExactSigInsSpec.post enc Tryz.prog Tryz.f3 false true false false) := by
  refine returnsInHanded_of_change_and (C := Tryz.checked) (X := fun w _ => laidMetH Tryz.prog Rows.fnExactSigInsRow.laid w) (fun _ _ _ hh h => h.of_heap hh) own started (by kernel_rfl) Tryz.func3
    (ChangeSpec.witness_shaped (enc := enc) (C := Tryz.checked) (os := os) (X := fun w _ => laidMetH Tryz.prog Rows.fnExactSigInsRow.laid w) false (World.doorLaid Tryz.prog 400 os) #[.string ByteArray.empty] 8 rfl (World.shaped_of_RefB (by kernel_rfl) (by kernel_rfl)) (by kernel_rfl) (by kernel_rfl) (by kernel_rfl) (door_met os _)) ?_
  intro W base args ds gs before hval0 hW _ _ hL _
  have hval : ∀ (j : Nat) t v, Tryz.f3.params[j]? = some t → args[j]? = some v → Value.okWide Tryz.prog W .any base t v := hval0
  have hW' := hW
  obtain ⟨p, q, hA0, hV, rfl, hfz, hnd⟩ := hW
  have hA : DataW.TrodAll enc Tryz.prog W 0 (fun _ => true) true Tryz.f3.params.toList args.toList ds p := hA0
  rw [Tryz.params3] at hA hval
  obtain ⟨v0, d0, rfl, rfl, h0⟩ := trodAll_one hA
  obtain ⟨gv, tv, cv, fv, dv, pv, rfl, _, _, _, _, _⟩ := trodVars_one hV
  obtain ⟨s0, rfl, rfl, rfl, w0⟩ := open_string Tryz.underlying9 (hval 0 9 v0 rfl rfl) h0
  have hE : TrG W := ⟨errs hL, shapes hL⟩
  clear hA0 hval0
  refine (walk0 s0 W w0 hE).mono fun e W' ⟨he, bel⟩ => ?_
  subst he
  have hV' := Below.trodVars laidOut bel (by kernel_rfl) hV
  exact ⟨_, rfl, _, _, _, [], _, _, hW', trodAll_mk1 (shut_bool Tryz.underlying4 _), trodAll_mk1 (shut_string Tryz.underlying9 w0), hV', bel.frame _, fun h => by cases h⟩

theorem said : Rows.FnExactSigInsSaid :=
  OpenClaim.holds_of_wide 3 Tryz.f3 rfl rfl rfl rfl rfl rfl rfl ⟨rfl, rfl, rfl, rfl, rfl⟩ rfl rfl rfl rfl rfl (by kernel_rfl) Tryz.func3 (by kernel_rfl)
    (of_decide_eq_true (by kernel_rfl)) (by unfold Func.isWrapper; first | (rw [if_pos (by decide +kernel)]; kernel_rfl) | (rw [if_neg (by decide +kernel)]; exact ⟨rfl, rfl⟩))
    (fun os started H enc _ => lifted os started H enc)

theorem card : Rows.FnExactSigInsCardSaid :=
  Claim7.holds_tied_plain_at .later [] _ _ _ _ said (fun _ h => by cases h) (by kernel_rfl) (fun _ h => by cases h) fnExactSigIns_row_tie rfl ⟨rfl, rfl⟩ (by kernel_rfl) rfl
    (fun f fn hf hfn => by
      obtain rfl : f = 3 := Option.some.inj ((show Tryz.prog.funcNamed Rows.fnExactSigInsRow.func = some 3 by kernel_rfl).symm.trans hf) |>.symm
      obtain rfl : fn = Tryz.f3 := (Option.some.inj (Tryz.func3.symm.trans hfn)).symm
      exact ⟨by kernel_rfl, fun j t ht => by
        rw [Tryz.params3] at ht
        obtain rfl : t = 9 := by simpa using Array.mem_of_getElem? ht
        exact (show Tryz.prog.wantsStandIn 9 = false by kernel_rfl)⟩)
    (by kernel_rfl)

end Go.Proofs.YtldgffkippejiaaGreatDoor.fnExactSigIns

namespace Go.Proofs.YtldgffkippejiaaGreatDoor
theorem fnExactSigIns_holds : Rows.FnExactSigInsCardSaid :=
  fnExactSigIns.card
end Go.Proofs.YtldgffkippejiaaGreatDoor
