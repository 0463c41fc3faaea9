/-
  Proved: at every list of instructions and every list of binds the law on CodeRun answers true, and both lists read afterwards as before: the program's CodeRun is the specification's CodeRun, all three answers, and writes into no argument. Condition: the program's tables 'shapes' and 'signWords' hold what its own text lays there (the card ties them to that text, by the given tie).
-/
import Derived.Test.YtoehjbehfolekaaDoorImplRun
import Derived.Test.YtoehjbehfolekaaDoorLaidWords
import Derived.Test.YtoehjbehfolekaaDoorCards
import Derived.Test.YtoehjbehfolekaaDoorTie
import Derived.WalkKit
import Derived.ProofKit
import Derived.OpenShut
import Derived.LaidMore
import Derived.OpenVars
import Derived.SevenTiedAt
import Derived.Stop.Joined
namespace Go.Proofs.YtoehjbehfolekaaDoor.fnExactCodeRun
open Go.ChangeShapes Go.WideShapes Go.ChangeAt Go.RowKit Go.Deep
set_option linter.unusedVariables false

set_option maxHeartbeats 3200000 in
theorem walk (a : Option Addr) (cap : Nat) (ns : List InsV) (ab : Option Addr) (capb : Nat) (bs : List BindV) (w : World) (hl : ns.length ≤ maxLen) (hn : InsIn w a ns) (hs : InsOk ns) (hlb : bs.length ≤ maxLen) (hnb : BindIn w ab bs) (hsb : BindOk bs) (hsh : ShapesIn w) (hsg : SignsIn w) :
    Calls Tryd.prog 3 #[.slice a ns.length cap, .slice ab bs.length capb] w fun e w' => e = .returned (.bool true) ∧ Below w.heap.size w w' := by
  have HL := hide hl
  have HN := hide hn
  have HS := hide hs
  have HLB := hide hlb
  have HNB := hide hnb
  have HSB := hide hsb
  have HSH := hide hsh
  have HSG := hide hsg
  clear hl hn hs hlb hnb hsb hsh hsg
  go_enter Tryd.func3, Tryd.ntmps3
  go_wp2_with fail
  refine (szInsS_in w a cap ns 1048576 (by omega) (by omega) (unhide HL) (unhide HN) (unhide HS)).mono ?_
  rintro e w1 ⟨⟨r, rfl, hr0, hr⟩, b1⟩
  have HR := hide hr
  have HB1 := hide b1
  clear hr b1
  by_cases hneg : r < 0
  · go_wp2_with fail
    go_ret
    exact ⟨rfl, unhide HB1⟩
  have HSM := hide (unhide HR (by omega))
  have hr1 : 0 ≤ r := by omega
  go_wp2_with fail
  refine (szBindS_in w1 ab capb bs r hr1 hr0 (unhide HLB) ((unhide HNB).below (unhide HB1)) (unhide HSB)).mono ?_
  rintro e w2 ⟨⟨r2, rfl, hr20, hr2⟩, b2⟩
  have HR2 := hide hr2
  have HB2 := hide ((unhide HB1).trans (b2.mono (unhide HB1).size))
  clear hr2 b2
  by_cases hneg2 : r2 < 0
  · go_wp2_with fail
    go_ret
    exact ⟨rfl, unhide HB2⟩
  have HSM2 := hide (unhide HR2 (by omega))
  go_wp2_with fail
  refine (toInsS_in w2 a cap ns (unhide HSM).1 ((unhide HN).below (unhide HB2))).mono ?_
  rintro e w3 ⟨rfl, m3, z3, b3⟩
  have HB3 := hide ((unhide HB2).trans (b3.mono (unhide HB2).size))
  have HM3 := hide m3
  clear m3 b3
  go_wp2_with fail
  refine (toBindS_in w3 ab capb bs (unhide HSM2).1 ((unhide HNB).below (unhide HB3))).mono ?_
  rintro e w4 ⟨rfl, m4, z4, b4⟩
  have HB4 := hide ((unhide HB3).trans (b4.mono (unhide HB3).size))
  have HM4 := hide m4
  have HM34 := hide ((unhide HM3).below b4 z3)
  have hz4 := b4.size
  clear m4 b4
  go_wp2_with fail
  refine (specRun_any w4 _ _ ns _ _ bs (.inr ⟨_, _, rfl, by omega, unhide HM34⟩) (unhide HS) (.inr ⟨_, _, rfl, z4, unhide HM4⟩) (unhide HSB)).mono ?_
  rintro e w5 ⟨hr5, b5⟩
  have HB5 := hide ((unhide HB4).trans (b5.mono (unhide HB4).size))
  have HR5 := hide hr5
  clear b5
  obtain ⟨⟨q1, q2, q3⟩, rfl, _⟩ := retRun_same hr5 hr5
  clear hr5
  unfold triple
  go_wp2_with fail
  refine (toInsS_in w5 a cap ns (unhide HSM).1 ((unhide HN).below (unhide HB5))).mono ?_
  rintro e w6 ⟨rfl, m6, z6, b6⟩
  have HB6 := hide ((unhide HB5).trans (b6.mono (unhide HB5).size))
  have HM6 := hide m6
  clear m6 b6
  go_wp2_with fail
  refine (toBindS_in w6 ab capb bs (unhide HSM2).1 ((unhide HNB).below (unhide HB6))).mono ?_
  rintro e w7 ⟨rfl, m7, z7, b7⟩
  have HB7 := hide ((unhide HB6).trans (b7.mono (unhide HB6).size))
  have HM7 := hide m7
  have HM67 := hide ((unhide HM6).below b7 z6)
  have hz7 := b7.size
  clear m7 b7
  go_wp2_with fail
  refine (implRun_any w7 _ _ ns _ _ bs (.inr ⟨_, _, rfl, by omega, unhide HM67⟩) (unhide HS) (.inr ⟨_, _, rfl, z7, unhide HM7⟩) (unhide HSB) ((unhide HSH).below (unhide HB7) (Nat.le_refl _)) ((unhide HSG).below (unhide HB7) (Nat.le_refl _))).mono ?_
  rintro e w8 ⟨hr8, b8⟩
  obtain ⟨⟨p1, p2, p3⟩, he, he'⟩ := retRun_same (unhide HR5) hr8
  obtain ⟨rfl, rfl, rfl⟩ : q1 = p1 ∧ q2 = p2 ∧ q3 = p3 := by simpa [triple] using he
  subst he'
  have HB8 := hide ((unhide HB7).trans (b8.mono (unhide HB7).size))
  have HM68 := hide ((unhide HM67).below b8 (by omega))
  have HM78 := hide ((unhide HM7).below b8 z7)
  have hz8 := b8.size
  clear b8 he hr8
  unfold triple
  go_wp2_with fail
  refine (toInsS_in w8 a cap ns (unhide HSM).1 ((unhide HN).below (unhide HB8))).mono ?_
  rintro e w9 ⟨rfl, m9, z9, b9⟩
  have HB9 := hide ((unhide HB8).trans (b9.mono (unhide HB8).size))
  have HM9 := hide m9
  have HM69 := hide ((unhide HM68).below b9 (by omega))
  have HM79 := hide ((unhide HM78).below b9 (by omega))
  have hz9 := b9.size
  clear m9 b9
  go_wp2_with fail
  refine (eqInsS_same w9 _ _ _ _ _ _ ns (by have := (unhide HSM).1; omega) (unhide HM69) (unhide HM9) (by omega) z9).mono ?_
  rintro e w10 ⟨rfl, b10⟩
  have HB10 := hide ((unhide HB9).trans (b10.mono (unhide HB9).size))
  have HM710 := hide ((unhide HM79).below b10 (by omega))
  have hz10 := b10.size
  clear b10
  go_wp2_with fail
  refine (toBindS_in w10 ab capb bs (unhide HSM2).1 ((unhide HNB).below (unhide HB10))).mono ?_
  rintro e w11 ⟨rfl, m11, z11, b11⟩
  have HB11 := hide ((unhide HB10).trans (b11.mono (unhide HB10).size))
  have HM11 := hide m11
  have HM711 := hide ((unhide HM710).below b11 (by omega))
  have hz11 := b11.size
  clear m11 b11
  go_wp2_with fail
  refine (eqBindS_same w11 _ _ _ _ _ _ bs (by have := (unhide HSM2).1; omega) (unhide HM711) (unhide HM11) (by omega) z11).mono ?_
  rintro e w12 ⟨rfl, b12⟩
  have HB12 := hide ((unhide HB11).trans (b12.mono (unhide HB11).size))
  clear b12
  go_wp2_with fail
  go_ret
  exact ⟨rfl, unhide HB12⟩

theorem own : ownKnob Tryd.prog.godebug = none := by kernel_rfl
theorem laidOut : laidOutB Tryd.prog = true := by kernel_rfl
theorem door_met (os : Os) (args : Array Value) : laidMetH Tryd.prog Rows.fnExactCodeRunRow.laid ((World.doorLaid Tryd.prog 400 os).forCall (fun _ _ => 0) ⟨#[], args, []⟩).memory :=
  laidMetH_of_parts3 (fuel := 8) (laidMet_of_run' 8 (by kernel_rfl) (by kernel_rfl)) (by kernel_rfl) (by kernel_rfl)
theorem met {W : World} (h : laidMetH Tryd.prog Rows.fnExactCodeRunRow.laid W) : laidMet Tryd.prog Rows.fnExactCodeRunRow.laid W := h
theorem trodVars_three {H : Type} {enc : TypeId × Value → H} {P : Program} {w : World} {spare : Nat → Bool} {n0 n1 n2 : String} {gs : List (DataW H)} {ps : List MemPlace} (h : DataW.TrodVars enc P w spare [n0, n1, n2] gs ps) : ∃ d0 d1 d2, gs = [d0, d1, d2] := by
  cases gs with
  | nil => simp [DataW.TrodVars] at h
  | cons d ds =>
    obtain ⟨_, _, _, _, _, _, _, _, _, _, hs, _⟩ := h
    obtain ⟨_, _, _, _, d1, _, _, _, _, _, d2, _, e, _⟩ := trodVars_two hs
    exact ⟨d, d1, d2, by rw [e]⟩
theorem shapes {W : World} (h : laidMetH Tryd.prog Rows.fnExactCodeRunRow.laid W) : ShapesIn W :=
  shapes_of_laid (by kernel_rfl) (met h)
theorem signs {W : World} (h : laidMetH Tryd.prog Rows.fnExactCodeRunRow.laid W) : SignsIn W :=
  words_of_laid (t := 97) (n := 21) (by kernel_rfl) (by kernel_rfl) Tryd.underlying97 rfl (by omega) rfl (laidTail (met h))

set_option maxRecDepth 100000 in
theorem lifted (os : Os) (started : os.Started) (H : Type) (enc : TypeId × Value → H) :
    ReturnsInHanded {} Tryd.checked os 3 .any (fun w args => (Rows.fnExactCodeRunSpec.pre enc Tryd.prog Tryd.f3 [] false w args ∧ laidMetH Tryd.prog Rows.fnExactCodeRunRow.laid w) ∧ sizedMet enc Tryd.prog Tryd.f3 (OpenSpec.ofChange Rows.fnExactCodeRunSpec) false w args)
      (Rows.fnExactCodeRunSpec.post enc Tryd.prog Tryd.f3 false true false false) := by
  refine returnsInHanded_of_change_and (C := Tryd.checked) (X := fun w _ => laidMetH Tryd.prog Rows.fnExactCodeRunRow.laid w) (fun _ _ _ hh h => h.of_heap hh) own started (by kernel_rfl) Tryd.func3
    (ChangeSpec.witness_shaped (enc := enc) (C := Tryd.checked) (os := os) (X := fun w _ => laidMetH Tryd.prog Rows.fnExactCodeRunRow.laid w) false (World.doorLaid Tryd.prog 400 os) #[.slice none 0 0, .slice none 0 0] 8 rfl (World.shaped_of_RefB (by kernel_rfl) (by kernel_rfl)) (by kernel_rfl) (by kernel_rfl) (by kernel_rfl) (door_met os _)) ?_
  intro W base args ds gs before hval0 hW _ _ hL _
  have hval : ∀ (j : Nat) t v, Tryd.f3.params[j]? = some t → args[j]? = some v → Value.okWide Tryd.prog W .any base t v := hval0
  have hW' := hW
  obtain ⟨p, q, hA0, hV, rfl, hfz, hnd⟩ := hW
  have hA : DataW.TrodAll enc Tryd.prog W 0 (fun _ => true) true Tryd.f3.params.toList args.toList ds p := hA0
  rw [Tryd.params3] at hA hval
  obtain ⟨v0, vs0, d0, ds0, p0, q0, hargs, rfl, rfl, h0, r0⟩ := trodAll_cons hA
  obtain ⟨v1, vs1, d1, ds1, p1, q1, rfl, rfl, rfl, h1, r1⟩ := trodAll_cons r0
  obtain ⟨rfl, rfl, rfl⟩ := trodAll_nil r1
  obtain rfl : args = #[v0, v1] := by cases args; simp_all
  obtain ⟨_, _, _, _, dv0, _, _, _, _, _, dv1, _, rfl, _⟩ := trodVars_two hV
  obtain ⟨a0, len0, cap0, rfl⟩ := okWide_slice Tryd.underlying22 (hval 0 22 v0 rfl rfl)
  obtain ⟨a1, len1, cap1, rfl⟩ := okWide_slice Tryd.underlying23 (hval 1 23 v1 rfl rfl)
  have k0 := h0
  have k1 := h1
  have lt0 : ∀ x ∈ p0, x.block < W.heap.size := by obtain ⟨m, hm⟩ := k0; exact DataW.trod_lt m _ _ _ hm
  have lt1 : ∀ x ∈ p1, x.block < W.heap.size := by obtain ⟨m, hm⟩ := k1; exact DataW.trod_lt m _ _ _ hm
  obtain ⟨ns, rfl, hl, hn, hs⟩ := openInsS h0
  obtain ⟨bs, rfl, hlb, hnb, hsb⟩ := openBindS h1
  have hshapes := shapes hL
  have hsigns := signs hL
  clear hA0 hval0
  refine (walk a0 cap0 ns a1 cap1 bs W hl hn hs hlb hnb hsb hshapes hsigns).mono fun e W' ⟨he, bel⟩ => ?_
  subst he
  have hV' := Below.trodVars laidOut bel (by kernel_rfl) hV
  exact ⟨_, rfl, _, _, _, [], _, _, hW', trodAll_mk1 (shut_bool Tryd.underlying4 _), trodAll_cons_mk (Below.trod laidOut (by kernel_rfl) (of_decide_eq_true (by kernel_rfl)) k0 bel lt0) (trodAll_cons_mk (Below.trod laidOut (by kernel_rfl) (of_decide_eq_true (by kernel_rfl)) k1 bel lt1) trodAll_mk0), hV', bel.frame _, fun h => by cases h⟩

theorem said : Rows.FnExactCodeRunSaid :=
  OpenClaim.holds_of_wide 3 Tryd.f3 rfl rfl rfl rfl rfl rfl rfl ⟨rfl, rfl, rfl, rfl, rfl⟩ rfl rfl rfl rfl rfl (by kernel_rfl) Tryd.func3 (by kernel_rfl)
    (of_decide_eq_true (by kernel_rfl)) (by unfold Func.isWrapper; first | (rw [if_pos (by decide +kernel)]; kernel_rfl) | (rw [if_neg (by decide +kernel)]; exact ⟨rfl, rfl⟩))
    (fun os started H enc _ => lifted os started H enc)

theorem card : Rows.FnExactCodeRunCardSaid :=
  Claim7.holds_tied_plain_at .later [] _ _ _ _ said (fun _ h => by cases h) (by kernel_rfl) (fun _ h => by cases h) fnExactCodeRun_row_tie rfl ⟨rfl, rfl⟩ (by kernel_rfl) rfl
    (fun f fn hf hfn => by
      obtain rfl : f = 3 := Option.some.inj ((show Tryd.prog.funcNamed Rows.fnExactCodeRunRow.func = some 3 by kernel_rfl).symm.trans hf) |>.symm
      obtain rfl : fn = Tryd.f3 := (Option.some.inj (Tryd.func3.symm.trans hfn)).symm
      exact ⟨by kernel_rfl, fun j t ht => by
        rw [Tryd.params3] at ht
        have hm := Array.mem_of_getElem? ht
        simp at hm
        rcases hm with rfl | rfl
        · exact (show Tryd.prog.wantsStandIn 22 = false by kernel_rfl)
        · exact (show Tryd.prog.wantsStandIn 23 = false by kernel_rfl)⟩)
    (by kernel_rfl)

end Go.Proofs.YtoehjbehfolekaaDoor.fnExactCodeRun

namespace Go.Proofs.YtoehjbehfolekaaDoor
theorem fnExactCodeRun_holds : Rows.FnExactCodeRunCardSaid :=
  fnExactCodeRun.card
end Go.Proofs.YtoehjbehfolekaaDoor
