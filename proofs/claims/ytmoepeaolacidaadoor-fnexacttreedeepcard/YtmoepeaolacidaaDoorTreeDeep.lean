/-
  Proved: at every list of nodes the law on TreeDeep answers true, and the list reads afterwards as before: the program's TreeDeep is the specification's TreeDeep, and writes into no argument. Condition: the program's table 'shapes' holds what its own text lays there (the card ties it to that text, by the given tie).
-/
import Derived.Test.YtmoepeaolacidaaDoorFormDeep
import Derived.Test.YtmoepeaolacidaaDoorLaid
import Derived.Test.YtmoepeaolacidaaDoorCards
import Derived.Test.YtmoepeaolacidaaDoorTie
import Derived.WalkKit
import Derived.ProofKit
import Derived.OpenShut
import Derived.LaidMore
import Derived.OpenVars
import Derived.SevenTiedAt
import Derived.Stop.Joined
namespace Go.Proofs.YtmoepeaolacidaaDoor.fnExactTreeDeep
open Go.ChangeShapes Go.WideShapes Go.ChangeAt Go.RowKit
set_option linter.unusedVariables false

set_option maxHeartbeats 1600000 in
theorem walk (a : Option Addr) (cap : Nat) (ns : List NodeV) (w : World) (hl : ns.length ≤ maxLen) (hn : NodesIn w a ns) (hs : NamesOk ns) (hsh : ShapesIn w) :
    Calls Tryd.prog 5 #[.slice a ns.length cap] w fun e w' => e = .returned (.bool true) ∧ Below w.heap.size w w' := by
  have HL := hide hl
  have HSH := hide hsh
  clear hl hsh
  go_enter Tryd.func5, Tryd.ntmps5
  go_wp2_with fail
  refine (szNodeS_in w a cap ns (unhide HL) hn hs).mono ?_
  rintro e w1 ⟨⟨r, rfl, hr⟩, b1⟩
  have HR := hide hr
  clear hr
  by_cases hneg : r < 0
  · go_wp2_with fail
    go_ret
    exact ⟨rfl, b1⟩
  · obtain ⟨hlen, hsm⟩ := unhide HR (by omega)
    go_wp2_with fail
    have n1 := hn.below b1
    refine (toNodeS_in w1 a cap ns hlen n1).mono ?_
    rintro e w2 ⟨rfl, m2, z2, b2⟩
    go_wp2_with fail
    obtain ⟨d, hD⟩ : ∃ d : Int, (∀ x l, OkAt ns x l → d = ((dp l + 1 : Nat) : Int)) ∧ (¬ OkTree ns → d = 0) := by
      by_cases hok : OkTree ns
      · obtain ⟨x, l, h⟩ := hok
        refine ⟨((dp l + 1 : Nat) : Int), fun y m h' => ?_, fun hno => absurd ⟨x, l, h⟩ hno⟩
        have e := h.eq.symm.trans h'.eq
        simp only [List.cons.injEq] at e
        obtain ⟨rfl, e⟩ := e
        have := (same_deep l m [] [] h.kok h'.kok (by have := h.kids; have := h'.kids; omega) (by simpa using e)).1
        omega
      · exact ⟨0, fun x l h => absurd ⟨x, l, h⟩ hok, fun _ => rfl⟩
    have HD := hide hD
    clear hD
    have hspec : Calls Tryd.prog 14 #[.slice (some ⟨w1.heap.size, 0, none⟩) ns.length ns.length] w2 fun e w' => e = .returned (.int .i64 d) ∧ Below w2.heap.size w2 w' := by
      by_cases hok : OkTree ns
      · obtain ⟨x, l, h⟩ := hok
        rw [(unhide HD).1 x l h]
        exact specDeep_ok w2 _ _ _ ns x l h m2 z2 hs
      · rw [(unhide HD).2 hok]
        exact specDeep_no w2 _ _ _ ns hok hlen m2 z2 hs
    refine hspec.mono ?_
    rintro e w3 ⟨rfl, b3⟩
    clear hspec
    go_wp2_with fail
    have n3 := (n1.below b2).below b3
    refine (toNodeS_in _ a cap ns hlen n3).mono ?_
    rintro e w4 ⟨rfl, m4, z4, b4⟩
    have s4 : ShapesIn w4 := ((((unhide HSH).below b1 (Nat.le_refl _)).below b2 (Nat.le_refl _)).below b3 (Nat.le_refl _)).below b4 (Nat.le_refl _)
    have HS4 := hide s4
    clear s4
    go_wp2_with fail
    refine (implDeep_any w4 _ _ _ ns hlen m4 z4 hs (unhide HS4)).mono ?_
    rintro e w5 ⟨hret, b5⟩
    obtain rfl : e = .returned (.int .i64 d) := by
      rcases hret with ⟨x, l, h, rfl⟩ | ⟨hno, rfl⟩
      · rw [(unhide HD).1 x l h]
      · rw [(unhide HD).2 hno]
    clear hret
    go_wp2_with fail
    have n5 := (n3.below b4).below b5
    refine (toNodeS_in _ a cap ns hlen n5).mono ?_
    rintro e w6 ⟨rfl, m6, z6, b6⟩
    go_wp2_with fail
    refine (eqNodeS_same w6 _ _ _ _ _ _ ns (by omega) ((m4.below b5 z4).below b6 (Nat.lt_of_lt_of_le z4 b5.size)) m6 (Nat.lt_of_lt_of_le z4 (Nat.le_trans b5.size b6.size)) z6).mono ?_
    rintro e w7 ⟨rfl, b7⟩
    go_wp2_with fail
    go_ret
    have s1 := b1.size
    have s2 := b2.size
    have s3 := b3.size
    have s4 := b4.size
    have s5 := b5.size
    have s6 := b6.size
    exact ⟨rfl, (((((b1.trans (b2.mono (by omega))).trans (b3.mono (by omega))).trans (b4.mono (by omega))).trans (b5.mono (by omega))).trans (b6.mono (by omega))).trans (b7.mono (by omega))⟩

theorem own : ownKnob Tryd.prog.godebug = none := by kernel_rfl
theorem laidOut : laidOutB Tryd.prog = true := by kernel_rfl
theorem door_met (os : Os) (args : Array Value) : laidMetH Tryd.prog Rows.fnExactTreeDeepRow.laid ((World.doorLaid Tryd.prog 400 os).forCall (fun _ _ => 0) ⟨#[], args, []⟩).memory :=
  laidMetH_of_parts3 (fuel := 8) (laidMet_of_run' 8 (by kernel_rfl) (by kernel_rfl)) (by kernel_rfl) (by kernel_rfl)
theorem shapes {W : World} (h : laidMetH Tryd.prog Rows.fnExactTreeDeepRow.laid W) : ShapesIn W :=
  shapes_of_laid (rest := []) (by kernel_rfl) h

set_option maxRecDepth 100000 in
theorem lifted (os : Os) (started : os.Started) (H : Type) (enc : TypeId × Value → H) :
    ReturnsInHanded {} Tryd.checked os 5 .any (fun w args => (Rows.fnExactTreeDeepSpec.pre enc Tryd.prog Tryd.f5 [] false w args ∧ laidMetH Tryd.prog Rows.fnExactTreeDeepRow.laid w) ∧ sizedMet enc Tryd.prog Tryd.f5 (OpenSpec.ofChange Rows.fnExactTreeDeepSpec) false w args)
      (Rows.fnExactTreeDeepSpec.post enc Tryd.prog Tryd.f5 false true false false) := by
  refine returnsInHanded_of_change_and (C := Tryd.checked) (X := fun w _ => laidMetH Tryd.prog Rows.fnExactTreeDeepRow.laid w) (fun _ _ _ hh h => h.of_heap hh) own started (by kernel_rfl) Tryd.func5
    (ChangeSpec.witness_shaped (enc := enc) (C := Tryd.checked) (os := os) (X := fun w _ => laidMetH Tryd.prog Rows.fnExactTreeDeepRow.laid w) false (World.doorLaid Tryd.prog 400 os) #[.slice none 0 0] 8 rfl (World.shaped_of_RefB (by kernel_rfl) (by kernel_rfl)) (by kernel_rfl) (by kernel_rfl) (by kernel_rfl) (door_met os _)) ?_
  intro W base args ds gs before hval0 hW _ _ hL _
  have hval : ∀ (j : Nat) t v, Tryd.f5.params[j]? = some t → args[j]? = some v → Value.okWide Tryd.prog W .any base t v := hval0
  have hW' := hW
  obtain ⟨p, q, hA0, hV, rfl, hfz, hnd⟩ := hW
  have hA : DataW.TrodAll enc Tryd.prog W 0 (fun _ => true) true Tryd.f5.params.toList args.toList ds p := hA0
  rw [Tryd.params5] at hA hval
  obtain ⟨v0, d0, rfl, rfl, h0⟩ := trodAll_one hA
  obtain ⟨gv, tv, cv, fv, dv, pv, rfl, _, _, _, _, _⟩ := trodVars_one hV
  obtain ⟨a0, len0, cap0, rfl⟩ := okWide_slice Tryd.underlying31 (hval 0 31 v0 rfl rfl)
  have k0 := h0
  have lt0 : ∀ x ∈ p, x.block < W.heap.size := by obtain ⟨m, hm⟩ := k0; exact DataW.trod_lt m _ _ _ hm
  obtain ⟨ns, rfl, hl, hn, hs⟩ := open_nodes h0
  have hsh := shapes hL
  clear hA0 hval0
  refine (walk a0 cap0 ns W hl hn hs hsh).mono fun e W' ⟨he, bel⟩ => ?_
  subst he
  have hV' := Below.trodVars laidOut bel (by kernel_rfl) hV
  exact ⟨_, rfl, _, _, _, [], _, _, hW', trodAll_mk1 (shut_bool Tryd.underlying4 _), trodAll_mk1 (Below.trod laidOut (by kernel_rfl) (of_decide_eq_true (by kernel_rfl)) k0 bel lt0), hV', bel.frame _, fun h => by cases h⟩

theorem said : Rows.FnExactTreeDeepSaid :=
  OpenClaim.holds_of_wide 5 Tryd.f5 rfl rfl rfl rfl rfl rfl rfl ⟨rfl, rfl, rfl, rfl, rfl⟩ rfl rfl rfl rfl rfl (by kernel_rfl) Tryd.func5 (by kernel_rfl)
    (of_decide_eq_true (by kernel_rfl)) (by unfold Func.isWrapper; first | (rw [if_pos (by decide +kernel)]; kernel_rfl) | (rw [if_neg (by decide +kernel)]; exact ⟨rfl, rfl⟩))
    (fun os started H enc _ => lifted os started H enc)

theorem card : Rows.FnExactTreeDeepCardSaid :=
  Claim7.holds_tied_plain_at .later [] _ _ _ _ said (fun _ h => by cases h) (by kernel_rfl) (fun _ h => by cases h) fnExactTreeDeep_row_tie rfl ⟨rfl, rfl⟩ (by kernel_rfl) rfl
    (fun f fn hf hfn => by
      obtain rfl : f = 5 := Option.some.inj ((show Tryd.prog.funcNamed Rows.fnExactTreeDeepRow.func = some 5 by kernel_rfl).symm.trans hf) |>.symm
      obtain rfl : fn = Tryd.f5 := (Option.some.inj (Tryd.func5.symm.trans hfn)).symm
      exact ⟨by kernel_rfl, fun j t ht => by
        rw [Tryd.params5] at ht
        obtain rfl : t = 31 := by simpa using Array.mem_of_getElem? ht
        exact (show Tryd.prog.wantsStandIn 31 = false by kernel_rfl)⟩)
    (by kernel_rfl)

end Go.Proofs.YtmoepeaolacidaaDoor.fnExactTreeDeep

namespace Go.Proofs.YtmoepeaolacidaaDoor
theorem fnExactTreeDeep_holds : Rows.FnExactTreeDeepCardSaid :=
  fnExactTreeDeep.card
end Go.Proofs.YtmoepeaolacidaaDoor
