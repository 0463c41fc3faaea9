/-
  Proved: at every list of nodes the law on FoldConst answers true, and the list reads afterwards as before: the program's FoldConst is the specification's FoldConst, both answers, and writes into no argument. Condition: the program's table 'shapes' holds what its own text lays there (the card ties it to that text, by the given tie).
-/
import Derived.Test.YtckeljpmdmbdmaaDoorFoldConst
import Derived.Test.YtckeljpmdmbdmaaDoorLaid
import Derived.Test.YtckeljpmdmbdmaaDoorCards
import Derived.Test.YtckeljpmdmbdmaaDoorTie
import Derived.WalkKit
import Derived.ProofKit
import Derived.OpenShut
import Derived.LaidMore
import Derived.OpenVars
import Derived.SevenTiedAt
import Derived.Stop.Joined
namespace Go.Proofs.YtckeljpmdmbdmaaDoor.fnExactFoldConst
open Go.ChangeShapes Go.WideShapes Go.ChangeAt Go.RowKit Go.Deep
set_option linter.unusedVariables false

set_option maxHeartbeats 1600000 in
theorem walk (a : Option Addr) (cap : Nat) (ns : List NodeV) (w : World) (hl : ns.length ≤ maxLen) (hn : NodesIn w a ns) (hs : NamesOk ns) (hsh : ShapesIn w) :
    Calls Tryd.prog 3 #[.slice a ns.length cap] w fun e w' => e = .returned (.bool true) ∧ Below w.heap.size w w' := by
  have HL := hide hl
  have HSH := hide hsh
  have HN := hide hn
  have HS := hide hs
  clear hl hsh hn hs
  go_enter Tryd.func3, Tryd.ntmps3
  go_wp2_with fail
  refine (szNodeS_in w a cap ns (unhide HL) (unhide HN) (unhide HS)).mono ?_
  rintro e w1 ⟨⟨r, rfl, hr⟩, b1⟩
  have HR := hide hr
  have HB1 := hide b1
  clear hr b1
  by_cases hneg : r < 0
  · go_wp2_with fail
    go_ret
    exact ⟨rfl, unhide HB1⟩
  · have HLEN := hide (unhide HR (by omega)).1
    go_wp2_with fail
    refine (toNodeS_in w1 a cap ns (unhide HLEN) ((unhide HN).below (unhide HB1))).mono ?_
    rintro e w2 ⟨rfl, m2, z2, b2⟩
    have HB2 := hide ((unhide HB1).trans (b2.mono (unhide HB1).size))
    have HM2 := hide m2
    clear m2 b2
    go_wp2_with fail
    refine (specConst_any w2 _ _ _ ns (unhide HLEN) (unhide HM2) z2 (unhide HS)).mono ?_
    rintro e w3 ⟨hr3, b3⟩
    have HB3 := hide ((unhide HB2).trans (b3.mono (unhide HB2).size))
    have HR3 := hide hr3
    have hz3 := b3.size
    clear b3
    obtain ⟨n1, q1, rfl, _⟩ := retConst_same hr3 hr3
    clear hr3
    go_wp2_with fail
    refine (toNodeS_in w3 a cap ns (unhide HLEN) ((unhide HN).below (unhide HB3))).mono ?_
    rintro e w4 ⟨rfl, m4, z4, b4⟩
    have HB4 := hide ((unhide HB3).trans (b4.mono (unhide HB3).size))
    have HM4 := hide m4
    clear m4 b4
    go_wp2_with fail
    refine (implConst_any w4 _ _ _ ns (unhide HLEN) (unhide HM4) z4 (unhide HS) ((unhide HSH).below (unhide HB4) (Nat.le_refl _))).mono ?_
    rintro e w5 ⟨hr5, b5⟩
    obtain ⟨n2, q2, he, he'⟩ := retConst_same (unhide HR3) hr5
    obtain ⟨rfl, rfl⟩ : n1 = n2 ∧ q1 = q2 := by simpa using he
    subst he'
    have HB5 := hide ((unhide HB4).trans (b5.mono (unhide HB4).size))
    have HM5 := hide ((unhide HM4).below b5 z4)
    have hz5 := b5.size
    clear b5 he hr5
    go_wp2_with fail
    refine (toNodeS_in w5 a cap ns (unhide HLEN) ((unhide HN).below (unhide HB5))).mono ?_
    rintro e w6 ⟨rfl, m6, z6, b6⟩
    have HB6 := hide ((unhide HB5).trans (b6.mono (unhide HB5).size))
    have HM6 := hide m6
    have HM56 := hide ((unhide HM5).below b6 (by omega))
    have hz6 := b6.size
    clear m6 b6
    go_wp2_with fail
    refine (eqNodeS_same w6 _ _ _ _ _ _ ns (by have := unhide HLEN; omega) (unhide HM56) (unhide HM6) (by omega) z6).mono ?_
    rintro e w7 ⟨rfl, b7⟩
    have HB7 := hide ((unhide HB6).trans (b7.mono (unhide HB6).size))
    clear b7
    go_wp2_with fail
    go_ret
    exact ⟨rfl, unhide HB7⟩

theorem own : ownKnob Tryd.prog.godebug = none := by kernel_rfl
theorem laidOut : laidOutB Tryd.prog = true := by kernel_rfl
theorem door_met (os : Os) (args : Array Value) : laidMetH Tryd.prog Rows.fnExactFoldConstRow.laid ((World.doorLaid Tryd.prog 400 os).forCall (fun _ _ => 0) ⟨#[], args, []⟩).memory :=
  laidMetH_of_parts3 (fuel := 8) (laidMet_of_run' 8 (by kernel_rfl) (by kernel_rfl)) (by kernel_rfl) (by kernel_rfl)
theorem met {W : World} (h : laidMetH Tryd.prog Rows.fnExactFoldConstRow.laid W) : laidMet Tryd.prog Rows.fnExactFoldConstRow.laid W := h
theorem trodVars_three {H : Type} {enc : TypeId × Value → H} {P : Program} {w : World} {spare : Nat → Bool} {n0 n1 n2 : String} {gs : List (DataW H)} {ps : List MemPlace} (h : DataW.TrodVars enc P w spare [n0, n1, n2] gs ps) : ∃ d0 d1 d2, gs = [d0, d1, d2] := by
  cases gs with
  | nil => simp [DataW.TrodVars] at h
  | cons d ds =>
    obtain ⟨_, _, _, _, _, _, _, _, _, _, hs, _⟩ := h
    obtain ⟨_, _, _, _, d1, _, _, _, _, _, d2, _, e, _⟩ := trodVars_two hs
    exact ⟨d, d1, d2, by rw [e]⟩
theorem shapes {W : World} (h : laidMetH Tryd.prog Rows.fnExactFoldConstRow.laid W) : ShapesIn W :=
  shapes_of_laid (by kernel_rfl) (met h)

set_option maxRecDepth 100000 in
theorem lifted (os : Os) (started : os.Started) (H : Type) (enc : TypeId × Value → H) :
    ReturnsInHanded {} Tryd.checked os 3 .any (fun w args => (Rows.fnExactFoldConstSpec.pre enc Tryd.prog Tryd.f3 [] false w args ∧ laidMetH Tryd.prog Rows.fnExactFoldConstRow.laid w) ∧ sizedMet enc Tryd.prog Tryd.f3 (OpenSpec.ofChange Rows.fnExactFoldConstSpec) false w args)
      (Rows.fnExactFoldConstSpec.post enc Tryd.prog Tryd.f3 false true false false) := by
  refine returnsInHanded_of_change_and (C := Tryd.checked) (X := fun w _ => laidMetH Tryd.prog Rows.fnExactFoldConstRow.laid w) (fun _ _ _ hh h => h.of_heap hh) own started (by kernel_rfl) Tryd.func3
    (ChangeSpec.witness_shaped (enc := enc) (C := Tryd.checked) (os := os) (X := fun w _ => laidMetH Tryd.prog Rows.fnExactFoldConstRow.laid w) false (World.doorLaid Tryd.prog 400 os) #[.slice none 0 0] 8 rfl (World.shaped_of_RefB (by kernel_rfl) (by kernel_rfl)) (by kernel_rfl) (by kernel_rfl) (by kernel_rfl) (door_met os _)) ?_
  intro W base args ds gs before hval0 hW _ _ hL _
  have hval : ∀ (j : Nat) t v, Tryd.f3.params[j]? = some t → args[j]? = some v → Value.okWide Tryd.prog W .any base t v := hval0
  have hW' := hW
  obtain ⟨p, q, hA0, hV, rfl, hfz, hnd⟩ := hW
  have hA : DataW.TrodAll enc Tryd.prog W 0 (fun _ => true) true Tryd.f3.params.toList args.toList ds p := hA0
  rw [Tryd.params3] at hA hval
  obtain ⟨v0, d0, rfl, rfl, h0⟩ := trodAll_one hA
  obtain ⟨gv, tv, cv, fv, dv, pv, rfl, _, _, _, _, _⟩ := trodVars_one hV
  obtain ⟨a0, len0, cap0, rfl⟩ := okWide_slice Tryd.underlying22 (hval 0 22 v0 rfl rfl)
  have k0 := h0
  have lt0 : ∀ x ∈ p, x.block < W.heap.size := by obtain ⟨m, hm⟩ := k0; exact DataW.trod_lt m _ _ _ hm
  obtain ⟨ns, rfl, hl, hn, hs⟩ := open_nodes h0
  have hshapes := shapes hL
  clear hA0 hval0
  refine (walk a0 cap0 ns W hl hn hs hshapes).mono fun e W' ⟨he, bel⟩ => ?_
  subst he
  have hV' := Below.trodVars laidOut bel (by kernel_rfl) hV
  exact ⟨_, rfl, _, _, _, [], _, _, hW', trodAll_mk1 (shut_bool Tryd.underlying4 _), trodAll_mk1 (Below.trod laidOut (by kernel_rfl) (of_decide_eq_true (by kernel_rfl)) k0 bel lt0), hV', bel.frame _, fun h => by cases h⟩

theorem said : Rows.FnExactFoldConstSaid :=
  OpenClaim.holds_of_wide 3 Tryd.f3 rfl rfl rfl rfl rfl rfl rfl ⟨rfl, rfl, rfl, rfl, rfl⟩ rfl rfl rfl rfl rfl (by kernel_rfl) Tryd.func3 (by kernel_rfl)
    (of_decide_eq_true (by kernel_rfl)) (by unfold Func.isWrapper; first | (rw [if_pos (by decide +kernel)]; kernel_rfl) | (rw [if_neg (by decide +kernel)]; exact ⟨rfl, rfl⟩))
    (fun os started H enc _ => lifted os started H enc)

theorem card : Rows.FnExactFoldConstCardSaid :=
  Claim7.holds_tied_plain_at .later [] _ _ _ _ said (fun _ h => by cases h) (by kernel_rfl) (fun _ h => by cases h) fnExactFoldConst_row_tie rfl ⟨rfl, rfl⟩ (by kernel_rfl) rfl
    (fun f fn hf hfn => by
      obtain rfl : f = 3 := Option.some.inj ((show Tryd.prog.funcNamed Rows.fnExactFoldConstRow.func = some 3 by kernel_rfl).symm.trans hf) |>.symm
      obtain rfl : fn = Tryd.f3 := (Option.some.inj (Tryd.func3.symm.trans hfn)).symm
      exact ⟨by kernel_rfl, fun j t ht => by
        rw [Tryd.params3] at ht
        obtain rfl : t = 22 := by simpa using Array.mem_of_getElem? ht
        exact (show Tryd.prog.wantsStandIn 22 = false by kernel_rfl)⟩)
    (by kernel_rfl)

end Go.Proofs.YtckeljpmdmbdmaaDoor.fnExactFoldConst

namespace Go.Proofs.YtckeljpmdmbdmaaDoor
theorem fnExactFoldConst_holds : Rows.FnExactFoldConstCardSaid :=
  fnExactFoldConst.card
end Go.Proofs.YtckeljpmdmbdmaaDoor
