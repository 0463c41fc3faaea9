/-
  Proved: at every list of instructions the law on CodeShow answers true, and the list reads afterwards as before: the program's CodeShow is the specification's CodeShow, and writes into no argument. Condition: the program's tables 'shapes', 'signWords' and 'insWords', and the table of powers that strconv reads, hold what its own text lays there (the card ties them to that text, by the given tie).
-/
import Derived.Test.YtmogeifejolbdaaDoorCodeShow
import Derived.Test.YtmogeifejolbdaaDoorLaidWords
import Derived.Test.YtmogeifejolbdaaDoorCards
import Derived.Test.YtmogeifejolbdaaDoorTie
import Derived.WalkKit
import Derived.ProofKit
import Derived.OpenShut
import Derived.LaidMore
import Derived.OpenVars
import Derived.SevenTiedAt
import Derived.Stop.Joined
namespace Go.Proofs.YtmogeifejolbdaaDoor.fnExactCodeShow
open Go.ChangeShapes Go.WideShapes Go.ChangeAt Go.RowKit Go.Deep
set_option linter.unusedVariables false

set_option maxHeartbeats 1600000 in
theorem walk (a : Option Addr) (cap : Nat) (ns : List InsV) (w : World) (hl : ns.length ≤ maxLen) (hn : InsIn w a ns) (hs : InsOk ns) (hsh : ShapesIn w) (hsg : SignsIn w) (hin : InsIn' w) (hp : PowIn w) :
    Calls Tryd.prog 4 #[.slice a ns.length cap] w fun e w' => e = .returned (.bool true) ∧ Below w.heap.size w w' := by
  have HL := hide hl
  have HN := hide hn
  have HS := hide hs
  have HSH := hide hsh
  have HSG := hide hsg
  have HIN := hide hin
  have HP := hide hp
  clear hl hn hs hsh hsg hin hp
  go_enter Tryd.func4, Tryd.ntmps4
  go_wp2_with fail
  refine (szInsS_in w a cap ns 1048576 (by omega) (by omega) (unhide HL) (unhide HN) (unhide HS)).mono ?_
  rintro e w1 ⟨⟨r, rfl, hr0, hr⟩, b1⟩
  have HR := hide hr
  have HB1 := hide b1
  clear hr b1
  by_cases hneg : r < 0
  · go_wp2_with fail
    go_ret
    exact ⟨rfl, unhide HB1⟩
  · have HSM := hide (unhide HR (by omega))
    go_wp2_with fail
    refine (toInsS_in w1 a cap ns (unhide HSM).1 ((unhide HN).below (unhide HB1))).mono ?_
    rintro e w2 ⟨rfl, m2, z2, b2⟩
    have HB2 := hide ((unhide HB1).trans (b2.mono (unhide HB1).size))
    have HM2 := hide m2
    clear m2 b2
    go_wp2_with fail
    refine (specCShow_any w2 _ _ ns (.inr ⟨_, _, rfl, z2, unhide HM2⟩) (unhide HS)).mono ?_
    rintro e w3 ⟨hr3, b3⟩
    have HB3 := hide ((unhide HB2).trans (b3.mono (unhide HB2).size))
    have HR3 := hide hr3
    have hz3 := b3.size
    clear b3
    obtain ⟨q, rfl, _⟩ := retShow_same hr3 hr3
    clear hr3
    go_wp2_with fail
    refine (toInsS_in w3 a cap ns (unhide HSM).1 ((unhide HN).below (unhide HB3))).mono ?_
    rintro e w4 ⟨rfl, m4, z4, b4⟩
    have HB4 := hide ((unhide HB3).trans (b4.mono (unhide HB3).size))
    have HM4 := hide m4
    clear m4 b4
    go_wp2_with fail
    refine (implCShow_any w4 _ _ ns (.inr ⟨_, _, rfl, z4, unhide HM4⟩) (unhide HS) ((unhide HSH).below (unhide HB4) (Nat.le_refl _)) ((unhide HSG).below (unhide HB4) (Nat.le_refl _)) (WordsIn.below (unhide HIN) (unhide HB4) (Nat.le_refl _)) ((unhide HP).below (unhide HB4) (Nat.le_refl _))).mono ?_
    rintro e w5 ⟨hr5, b5⟩
    obtain ⟨q', he, he'⟩ := retShow_same (unhide HR3) hr5
    obtain rfl : q = q' := by injection he with h; injection h
    subst he'
    have HB5 := hide ((unhide HB4).trans (b5.mono (unhide HB4).size))
    have HM5 := hide ((unhide HM4).below b5 z4)
    have hz5 := b5.size
    clear b5 he hr5
    go_wp2_with fail
    refine (toInsS_in w5 a cap ns (unhide HSM).1 ((unhide HN).below (unhide HB5))).mono ?_
    rintro e w6 ⟨rfl, m6, z6, b6⟩
    have HB6 := hide ((unhide HB5).trans (b6.mono (unhide HB5).size))
    have HM6 := hide m6
    have HM56 := hide ((unhide HM5).below b6 (by omega))
    have hz6 := b6.size
    clear m6 b6
    go_wp2_with fail
    refine (eqInsS_same w6 _ _ _ _ _ _ ns (by have := (unhide HSM).1; omega) (unhide HM56) (unhide HM6) (by omega) z6).mono ?_
    rintro e w7 ⟨rfl, b7⟩
    have HB7 := hide ((unhide HB6).trans (b7.mono (unhide HB6).size))
    clear b7
    go_wp2_with fail
    go_ret
    exact ⟨rfl, unhide HB7⟩

theorem own : ownKnob Tryd.prog.godebug = none := by kernel_rfl
theorem laidOut : laidOutB Tryd.prog = true := by kernel_rfl
theorem door_met (os : Os) (args : Array Value) : laidMetH Tryd.prog Rows.fnExactCodeShowRow.laid ((World.doorLaid Tryd.prog 400 os).forCall (fun _ _ => 0) ⟨#[], args, []⟩).memory :=
  laidMetH_of_parts3 (fuel := 8) (laidMet_of_run' 8 (by kernel_rfl) (by kernel_rfl)) (by kernel_rfl) (by kernel_rfl)
theorem met {W : World} (h : laidMetH Tryd.prog Rows.fnExactCodeShowRow.laid W) : laidMet Tryd.prog Rows.fnExactCodeShowRow.laid W := h
theorem trodVars_three {H : Type} {enc : TypeId × Value → H} {P : Program} {w : World} {spare : Nat → Bool} {n0 n1 n2 : String} {gs : List (DataW H)} {ps : List MemPlace} (h : DataW.TrodVars enc P w spare [n0, n1, n2] gs ps) : ∃ d0 d1 d2, gs = [d0, d1, d2] := by
  cases gs with
  | nil => simp [DataW.TrodVars] at h
  | cons d ds =>
    obtain ⟨_, _, _, _, _, _, _, _, _, _, hs, _⟩ := h
    obtain ⟨_, _, _, _, d1, _, _, _, _, _, d2, _, e, _⟩ := trodVars_two hs
    exact ⟨d, d1, d2, by rw [e]⟩
theorem pow {W : World} (h : laidMetH Tryd.prog Rows.fnExactCodeShowRow.laid W) : PowIn W :=
  Lib.tabIs_of_head gPow (t := 111) (by kernel_rfl) Tryd.underlying111 Tryd.underlying103 (by kernel_rfl) (by kernel_rfl) (laidTail (laidTail (met h)))
theorem shapes {W : World} (h : laidMetH Tryd.prog Rows.fnExactCodeShowRow.laid W) : ShapesIn W :=
  shapes_of_laid (by kernel_rfl) (laidTail (laidTail (laidTail (met h))))
theorem words {W : World} (h : laidMetH Tryd.prog Rows.fnExactCodeShowRow.laid W) : InsIn' W :=
  words_of_laid (t := 61) (n := 12) (by kernel_rfl) (by kernel_rfl) Tryd.underlying61 rfl (by omega) rfl (laidTail (laidTail (laidTail (laidTail (met h)))))
theorem signs {W : World} (h : laidMetH Tryd.prog Rows.fnExactCodeShowRow.laid W) : SignsIn W :=
  words_of_laid (t := 62) (n := 21) (by kernel_rfl) (by kernel_rfl) Tryd.underlying62 rfl (by omega) rfl (laidTail (laidTail (laidTail (laidTail (laidTail (met h))))))

set_option maxRecDepth 100000 in
theorem lifted (os : Os) (started : os.Started) (H : Type) (enc : TypeId × Value → H) :
    ReturnsInHanded {} Tryd.checked os 4 .any (fun w args => (Rows.fnExactCodeShowSpec.pre enc Tryd.prog Tryd.f4 [] false w args ∧ laidMetH Tryd.prog Rows.fnExactCodeShowRow.laid w) ∧ sizedMet enc Tryd.prog Tryd.f4 (OpenSpec.ofChange Rows.fnExactCodeShowSpec) false w args)
      (Rows.fnExactCodeShowSpec.post enc Tryd.prog Tryd.f4 false true false false) := by
  refine returnsInHanded_of_change_and (C := Tryd.checked) (X := fun w _ => laidMetH Tryd.prog Rows.fnExactCodeShowRow.laid w) (fun _ _ _ hh h => h.of_heap hh) own started (by kernel_rfl) Tryd.func4
    (ChangeSpec.witness_shaped (enc := enc) (C := Tryd.checked) (os := os) (X := fun w _ => laidMetH Tryd.prog Rows.fnExactCodeShowRow.laid w) false (World.doorLaid Tryd.prog 400 os) #[.slice none 0 0] 8 rfl (World.shaped_of_RefB (by kernel_rfl) (by kernel_rfl)) (by kernel_rfl) (by kernel_rfl) (by kernel_rfl) (door_met os _)) ?_
  intro W base args ds gs before hval0 hW _ _ hL _
  have hval : ∀ (j : Nat) t v, Tryd.f4.params[j]? = some t → args[j]? = some v → Value.okWide Tryd.prog W .any base t v := hval0
  have hW' := hW
  obtain ⟨p, q, hA0, hV, rfl, hfz, hnd⟩ := hW
  have hA : DataW.TrodAll enc Tryd.prog W 0 (fun _ => true) true Tryd.f4.params.toList args.toList ds p := hA0
  rw [Tryd.params4] at hA hval
  obtain ⟨v0, d0, rfl, rfl, h0⟩ := trodAll_one hA
  obtain ⟨dv0, dv1, dv2, rfl⟩ := trodVars_three hV
  obtain ⟨a0, len0, cap0, rfl⟩ := okWide_slice Tryd.underlying22 (hval 0 22 v0 rfl rfl)
  have k0 := h0
  have lt0 : ∀ x ∈ p, x.block < W.heap.size := by obtain ⟨m, hm⟩ := k0; exact DataW.trod_lt m _ _ _ hm
  obtain ⟨ns, rfl, hl, hn, hs⟩ := openInsS h0
  have hshapes := shapes hL
  have hsigns := signs hL
  have hwords := words hL
  have hpow := pow hL
  clear hA0 hval0
  refine (walk a0 cap0 ns W hl hn hs hshapes hsigns hwords hpow).mono fun e W' ⟨he, bel⟩ => ?_
  subst he
  have hV' := Below.trodVars laidOut bel (by kernel_rfl) hV
  exact ⟨_, rfl, _, _, _, [], _, _, hW', trodAll_mk1 (shut_bool Tryd.underlying4 _), trodAll_mk1 (Below.trod laidOut (by kernel_rfl) (of_decide_eq_true (by kernel_rfl)) k0 bel lt0), hV', bel.frame _, fun h => by cases h⟩

theorem said : Rows.FnExactCodeShowSaid :=
  OpenClaim.holds_of_wide 4 Tryd.f4 rfl rfl rfl rfl rfl rfl rfl ⟨rfl, rfl, rfl, rfl, rfl⟩ rfl rfl rfl rfl rfl (by kernel_rfl) Tryd.func4 (by kernel_rfl)
    (of_decide_eq_true (by kernel_rfl)) (by unfold Func.isWrapper; first | (rw [if_pos (by decide +kernel)]; kernel_rfl) | (rw [if_neg (by decide +kernel)]; exact ⟨rfl, rfl⟩))
    (fun os started H enc _ => lifted os started H enc)

theorem card : Rows.FnExactCodeShowCardSaid :=
  Claim7.holds_tied_plain_at .later [] _ _ _ _ said (fun _ h => by cases h) (by kernel_rfl) (fun _ h => by cases h) fnExactCodeShow_row_tie rfl ⟨rfl, rfl⟩ (by kernel_rfl) rfl
    (fun f fn hf hfn => by
      obtain rfl : f = 4 := Option.some.inj ((show Tryd.prog.funcNamed Rows.fnExactCodeShowRow.func = some 4 by kernel_rfl).symm.trans hf) |>.symm
      obtain rfl : fn = Tryd.f4 := (Option.some.inj (Tryd.func4.symm.trans hfn)).symm
      exact ⟨by kernel_rfl, fun j t ht => by
        rw [Tryd.params4] at ht
        obtain rfl : t = 22 := by simpa using Array.mem_of_getElem? ht
        exact (show Tryd.prog.wantsStandIn 22 = false by kernel_rfl)⟩)
    (by kernel_rfl)

end Go.Proofs.YtmogeifejolbdaaDoor.fnExactCodeShow

namespace Go.Proofs.YtmogeifejolbdaaDoor
theorem fnExactCodeShow_holds : Rows.FnExactCodeShowCardSaid :=
  fnExactCodeShow.card
end Go.Proofs.YtmogeifejolbdaaDoor
