/-
  Proved: at every signal the law on SigOk answers true, and the signal reads afterwards as before: the program tells whether a signal may be as the specification does. Condition: the package variables that the row lists hold what the program's text lays (errors.errorType the handle of the type 'error', impl.shapes its table, and those of strconv and math/bits, of which none is used).
-/
import Derived.Test.YtldgffkippejiaaGreatDoorSigOkB
import Derived.Test.YtldgffkippejiaaGreatDoorMerged47
import Derived.Test.YtldgffkippejiaaGreatDoorRows
import Derived.Test.YtldgffkippejiaaGreatDoorCards
import Derived.Test.YtldgffkippejiaaGreatDoorTie
import Derived.WalkKit
import Derived.ProofKit
import Derived.OpenShut
import Derived.Handy
import Derived.ShutString
import Derived.LaidMore
import Derived.LaidHandle
import Derived.OpenVars
import Derived.SevenTiedAt
import Derived.Stop.Joined
namespace Go.Proofs.YtldgffkippejiaaGreatDoor.fnExactSigOk
open Go.ChangeShapes Go.WideShapes Go.ChangeAt Go.RowKit Go.Deep Go.Maps
open Go.ChangeMaps (open_string shut_string)
set_option linter.unusedVariables false

def TrG (w : World) : Prop := ErrG w ∧ ShapesIn w
theorem TrG.below {w w' : World} {B : Nat} (h : TrG w) (hb : Below B w w') (hB : w.heap.size ≤ B) : TrG w' := ⟨h.1.below hb hB, h.2.below hb hB⟩
set_option maxHeartbeats 3200000 in
theorem walk0 (n b : ByteArray) (h : Int) (w : World) (hn : n.size ≤ maxLen) (hb : b.size ≤ maxLen) (hE : TrG w) :
    Calls Tryz.prog 4 #[sigVal n h b] w fun e w' => e = .returned (.bool true) ∧ Below w.heap.size w w' := by
  have HE := hide hE
  have HZ := hide (fun W => szSig_any n b h W hn hb)
  have HTO := hide (fun W => toSig_any n b h W)
  have HSP := hide (fun W h1 h2 => specSigOk_any n b h W h1 h2)
  have HIM := hide (fun W (bw : Below w.heap.size w W) h1 h2 => implSigOk_any n b h W h1 h2 (hE.below bw (Nat.le_refl _)).2 (hE.below bw (Nat.le_refl _)).1)
  have X0 := hide (boxF_new w [.string n, .int .i64 h, .string b] 29)
  have A0 := hide ((Below.refl w.heap.size w).alloc (Nat.le_refl _) (.cells #[.string n, .int .i64 h, .string b] 29))
  simp only [List.toArray] at X0
  generalize sigOkB n h b = R at *
  unfold sigVal at *
  clear hn hb hE
  obtain ⟨⟨c0, c1, c2⟩, -⟩ := (unhide X0).triR
  go_enter Tryz.func4, Tryz.ntmps4
  go_wp2_with fail
  generalize w.alloc (.cells #[.string n, .int .i64 h, .string b] 29) = W at *
  refine (unhide HZ _).mono ?_
  rintro e w1 ⟨⟨r, rfl, hr⟩, b1⟩
  have B1 := hide ((unhide A0).trans (b1.mono (unhide A0).size))
  have X1 := hide ((unhide X0).up b1)
  have HR := hide hr
  clear b1 hr HZ c0 c1 c2
  by_cases hneg : r < 0
  · go_wp2_with fail
    go_ret
    exact ⟨rfl, unhide B1⟩
  obtain ⟨s1, s2⟩ := unhide HR (by omega)
  obtain ⟨⟨c0, c1, c2⟩, -⟩ := (unhide X1).triR
  clear HR
  go_wp2_with fail
  refine (unhide HTO _).mono ?_
  rintro e w2 ⟨rfl, b2⟩
  have B2 := hide ((unhide B1).trans (b2.mono (unhide B1).size))
  have X2 := hide ((unhide X1).up b2)
  clear b2 c0 c1 c2
  go_wp2_with fail
  refine (unhide HSP _ s1 s2).mono ?_
  rintro e w3 ⟨rfl, b3⟩
  have B3 := hide ((unhide B2).trans (b3.mono (unhide B2).size))
  have X3 := hide ((unhide X2).up b3)
  clear b3
  obtain ⟨⟨c0, c1, c2⟩, -⟩ := (unhide X3).triR
  go_wp2_with fail
  refine (unhide HTO _).mono ?_
  rintro e w4 ⟨rfl, b4⟩
  have B4 := hide ((unhide B3).trans (b4.mono (unhide B3).size))
  clear b4 c0 c1 c2
  go_wp2_with fail
  refine (unhide HIM _ (unhide B4) s1 s2).mono ?_
  rintro e w5 ⟨rfl, b5⟩
  have B5 := hide ((unhide B4).trans (b5.mono (unhide B4).size))
  have hne : (R != R) = false := by simp
  clear b5
  go_wp2_with fail
  go_ret
  exact ⟨rfl, unhide B5⟩

theorem own : ownKnob Tryz.prog.godebug = none := by kernel_rfl
theorem laidOut : laidOutB Tryz.prog = true := by kernel_rfl
theorem door_met (os : Os) (args : Array Value) : laidMetH Tryz.prog Rows.fnExactSigOkRow.laid ((World.doorLaid Tryz.prog 400 os).forCall (fun _ _ => 0) ⟨#[], args, []⟩).memory :=
  laidMetH_of_parts3 (fuel := 8) (laidMet_of_run' 8 (by kernel_rfl) (by kernel_rfl)) (by kernel_rfl) (by kernel_rfl)
theorem et : Tryz.prog.globalNamed "errors.errorType" = some 0 := by kernel_rfl
theorem rt : (Tryz.prog.cutTypes.find? (·.1 == "internal/reflectlite.rtype")).map (·.2) = some 151 := by kernel_rfl
theorem oneRow : ((List.range Tryz.prog.types.size).filter fun t => Tryz.prog.rowNamed t [101, 114, 114, 111, 114]) = [73] := by kernel_rfl
theorem parts {W : World} (h : laidMetH Tryz.prog Rows.fnExactSigOkRow.laid W) : laidMet Tryz.prog [("math/bits.deBruijn32tab", Rows.laid_math_bits_deBruijn32tab), ("math/bits.deBruijn64tab", Rows.laid_math_bits_deBruijn64tab), ("internal/strconv.uint64pow10", Rows.laid_internal_strconv_uint64pow10), ("strconv.ErrRange", Rows.laid_strconv_ErrRange), ("strconv.ErrSyntax", Rows.laid_strconv_ErrSyntax), ("loop.example/headrace/impl.shapes", Rows.laid_loop_example_headrace_impl_shapes)] W ∧ handlesMet Tryz.prog [("errors.errorType", Rows.laid_errors_errorType)] W := h
theorem shapes {W : World} (h : laidMetH Tryz.prog Rows.fnExactSigOkRow.laid W) : ShapesIn W := by
  obtain ⟨ps, hv, _⟩ := (parts h).1
  obtain ⟨_, _, _, _, _, _, _, _, _, _, hv, _⟩ := hv
  obtain ⟨_, _, _, _, _, _, _, _, _, _, hv, _⟩ := hv
  obtain ⟨_, _, _, _, _, _, _, _, _, _, hv, _⟩ := hv
  obtain ⟨_, _, _, _, _, _, _, _, _, _, hv, _⟩ := hv
  obtain ⟨_, _, _, _, _, _, _, _, _, _, hv, _⟩ := hv
  exact shapes_of_vars (by kernel_rfl) hv
theorem errs {W : World} (h : laidMetH Tryz.prog Rows.fnExactSigOkRow.laid W) : ErrG W := by
  have h' := parts h
  obtain ⟨name, u, ty, e1, e2, e3, e4, e5⟩ := h'.2 _ (List.mem_singleton.2 rfl)
  have en : name = [101, 114, 114, 111, 114] := (Option.some.inj e1).symm
  subst en
  obtain rfl := Option.some.inj (rt.symm.trans e2)
  have hm : ty ∈ (List.range Tryz.prog.types.size).filter fun t => Tryz.prog.rowNamed t [101, 114, 114, 111, 114] := List.mem_filter.2 ⟨List.mem_range.2 e3, e4⟩
  rw [oneRow] at hm
  obtain rfl := List.mem_singleton.1 hm
  have hh : typeHandle Tryz.prog 73 = .pointer (some ⟨7, 73, none⟩) := by kernel_rfl
  rw [hh] at e5
  unfold ErrG
  simpa using World.var?_cell et e5 0

set_option maxRecDepth 100000 in
theorem lifted (os : Os) (started : os.Started) (H : Type) (enc : TypeId × Value → H) :
    ReturnsInHanded {} Tryz.checked os 4 .any (fun w args => (Rows.fnExactSigOkSpec.pre enc Tryz.prog Tryz.f4 [] false w args ∧ laidMetH Tryz.prog Rows.fnExactSigOkRow.laid w) ∧ sizedMet enc Tryz.prog Tryz.f4 (OpenSpec.ofChange Rows.fnExactSigOkSpec) false w args)
      (Rows.fnExactSigOkSpec.post enc Tryz.prog Tryz.f4 false true false false) := by
  refine returnsInHanded_of_change_and (C := Tryz.checked) (X := fun w _ => laidMetH Tryz.prog Rows.fnExactSigOkRow.laid w) (fun _ _ _ hh h => h.of_heap hh) own started (by kernel_rfl) Tryz.func4
    (ChangeSpec.witness_shaped (enc := enc) (C := Tryz.checked) (os := os) (X := fun w _ => laidMetH Tryz.prog Rows.fnExactSigOkRow.laid w) false (World.doorLaid Tryz.prog 400 os) #[.agg #[.string ByteArray.empty, .int .i64 0, .string ByteArray.empty]] 8 rfl (World.shaped_of_RefB (by kernel_rfl) (by kernel_rfl)) (by kernel_rfl) (by kernel_rfl) (by kernel_rfl) (door_met os _)) ?_
  intro W base args ds gs before hval0 hW _ _ hL _
  have hval : ∀ (j : Nat) t v, Tryz.f4.params[j]? = some t → args[j]? = some v → Value.okWide Tryz.prog W .any base t v := hval0
  have hW' := hW
  obtain ⟨p, q, hA0, hV, rfl, hfz, hnd⟩ := hW
  have hA : DataW.TrodAll enc Tryz.prog W 0 (fun _ => true) true Tryz.f4.params.toList args.toList ds p := hA0
  rw [Tryz.params4] at hA hval
  obtain ⟨v0, d0, rfl, rfl, h0⟩ := trodAll_one hA
  obtain ⟨gv, tv, cv, fv, dv, pv, rfl, _, _, _, _, _⟩ := trodVars_one hV
  obtain ⟨cs, rfl, hcs⟩ := aggOfS Tryz.underlying29 cellsSig (hval 0 29 v0 rfl rfl)
  obtain ⟨c0, c1, c2, rfl⟩ := array3S hcs
  obtain ⟨n0, b0, k0', hr, hn0, hb0⟩ := openSig h0
  rw [hr]
  rw [hr] at h0 hW'
  have k0 := h0
  have lt0 : ∀ x ∈ p, x.block < W.heap.size := by obtain ⟨m, hm⟩ := k0; exact DataW.trod_lt m _ _ _ hm
  have hE : TrG W := ⟨errs hL, shapes hL⟩
  clear hA0 hval0
  refine (walk0 n0 b0 k0' W hn0 hb0 hE).mono fun e W' ⟨he, bel⟩ => ?_
  subst he
  have hV' := Below.trodVars laidOut bel (by kernel_rfl) hV
  exact ⟨_, rfl, _, _, _, [], _, _, hW', trodAll_mk1 (shut_bool Tryz.underlying4 _), trodAll_mk1 (Below.trod laidOut (by kernel_rfl) (of_decide_eq_true (by kernel_rfl)) k0 bel lt0), hV', bel.frame _, fun h => by cases h⟩

theorem said : Rows.FnExactSigOkSaid :=
  OpenClaim.holds_of_wide 4 Tryz.f4 rfl rfl rfl rfl rfl rfl rfl ⟨rfl, rfl, rfl, rfl, rfl⟩ rfl rfl rfl rfl rfl (by kernel_rfl) Tryz.func4 (by kernel_rfl)
    (of_decide_eq_true (by kernel_rfl)) (by unfold Func.isWrapper; first | (rw [if_pos (by decide +kernel)]; kernel_rfl) | (rw [if_neg (by decide +kernel)]; exact ⟨rfl, rfl⟩))
    (fun os started H enc _ => lifted os started H enc)

theorem card : Rows.FnExactSigOkCardSaid :=
  Claim7.holds_tied_plain_at .later [] _ _ _ _ said (fun _ h => by cases h) (by kernel_rfl) (fun _ h => by cases h) fnExactSigOk_row_tie rfl ⟨rfl, rfl⟩ (by kernel_rfl) rfl
    (fun f fn hf hfn => by
      obtain rfl : f = 4 := Option.some.inj ((show Tryz.prog.funcNamed Rows.fnExactSigOkRow.func = some 4 by kernel_rfl).symm.trans hf) |>.symm
      obtain rfl : fn = Tryz.f4 := (Option.some.inj (Tryz.func4.symm.trans hfn)).symm
      exact ⟨by kernel_rfl, fun j t ht => by
        rw [Tryz.params4] at ht
        obtain rfl : t = 29 := by simpa using Array.mem_of_getElem? ht
        exact (show Tryz.prog.wantsStandIn 29 = false by kernel_rfl)⟩)
    (by kernel_rfl)

end Go.Proofs.YtldgffkippejiaaGreatDoor.fnExactSigOk

namespace Go.Proofs.YtldgffkippejiaaGreatDoor
theorem fnExactSigOk_holds : Rows.FnExactSigOkCardSaid :=
  fnExactSigOk.card
end Go.Proofs.YtldgffkippejiaaGreatDoor
