/-
  Proved: at every input of bytes the law on the parts of a tree answers true, and the input reads afterwards as before. Condition: the program's table 'shapes' holds what its own text lays there (the card ties it to that text, by the given tie).
-/
import Derived.Test.YtmoepeaolacidaaDoorFormDeep
import Derived.Test.YtmoepeaolacidaaDoorLaid
import Derived.Test.YtmoepeaolacidaaDoorOpen
import Derived.Test.YtmoepeaolacidaaDoorCards
import Derived.Test.YtmoepeaolacidaaDoorTie
import Derived.WalkKit
import Derived.ProofKit
import Derived.OpenShut
import Derived.LaidMore
import Derived.OpenVars
import Derived.SevenTiedAt
import Derived.Stop.Joined
namespace Go.Proofs.YtmoepeaolacidaaDoor.fnTreeEnds
open Go.ChangeShapes Go.WideShapes Go.ChangeAt Go.RowKit Go.Deep
set_option linter.unusedVariables false

theorem short_names {ns : List NodeV} (h : ShortNames ns) : NamesOk ns := fun n hn => by have := h n hn; unfold maxLen; omega
theorem nodesAt_part {w : World} {b q : Nat} {ns : List NodeV} {y : NodeV} {m : BT NodeV} (h : NodesAt w b 0 ns) (hs : StandsAt ns q y m) : NodesAt w b (q * 4) (y :: fl m) := by
  obtain ⟨pre, post, rfl, rfl⟩ := hs
  intro i hi
  have hi' : pre.length + i < (pre ++ (y :: fl m ++ post)).length := by simp at hi ⊢; omega
  have := h (pre.length + i) hi'
  rw [show 0 + (pre.length + i) * 4 = pre.length * 4 + i * 4 by omega] at this
  have e : (pre ++ (y :: fl m ++ post))[pre.length + i] = (y :: fl m)[i] := by
    rw [List.getElem_append_right (by omega), List.getElem_append_left (by simp at hi ⊢; omega)]
    congr 1
    omega
  rw [e] at this
  exact this
theorem kok_node {d : BT NodeV} {b o : Nat} {y : NodeV} {m r : BT NodeV} (h : kok (Go.Proofs.YtmoepeaolacidaaDoor.app d (.node b o y m r))) : y.kids = cnt m ∧ kok m := by
  have := (kok_app _ _).1 h
  exact ⟨this.2.1, this.2.2.1⟩
theorem part_ok {ns : List NodeV} {x : NodeV} {l d : BT NodeV} {b o : Nat} {y : NodeV} {m r : BT NodeV} (h : OkAt ns x l) (e : l = Go.Proofs.YtmoepeaolacidaaDoor.app d (.node b o y m r)) : OkAt (y :: fl m) y m ∧ dp m + 1 ≤ dp l := by
  have hd : dp m + 1 ≤ dp l := by rw [e, dp_app]; simp only [dp]; omega
  have hk := h.kok
  rw [e] at hk
  have hm : ∀ n ∈ y :: fl m, n ∈ ns := by
    intro n hn
    rw [h.eq, e, fl_app]
    simp only [fl, List.mem_cons, List.mem_append] at hn ⊢
    rcases hn with hn | hn
    · exact .inr (.inr (.inl hn))
    · exact .inr (.inr (.inr (.inl hn)))
  have hs := h.size
  have hl := h.deep
  have heq := congrArg List.length h.eq
  rw [e, fl_app] at heq
  simp only [fl, List.length_cons, List.length_append] at heq
  exact ⟨⟨by simp only [List.length_cons]; omega, fun n hn => h.own n (hm n hn), rfl, (kok_node hk).1, (kok_node hk).2, by omega⟩, hd⟩
theorem deep_same {ns : List NodeV} {x x' : NodeV} {l l' : BT NodeV} (h : OkAt ns x l) (h' : OkAt ns x' l') : dp l' = dp l := by
  have e := h.eq.symm.trans h'.eq
  injection e with e1 e2
  subst e1
  have hc : cnt l' = cnt l := by have a := h.kids; have b := h'.kids; omega
  exact (same_deep l' l [] [] h'.kok h.kok hc (by rw [List.append_nil, List.append_nil]; exact e2.symm)).1
theorem retDeep_ok {ns : List NodeV} {x : NodeV} {l : BT NodeV} {e : Ending} (h : OkAt ns x l) (r : RetDeep ns e) : e = .returned (.int .i64 ((dp l + 1 : Nat) : Int)) := by
  rcases r with ⟨x', l', h', rfl⟩ | ⟨hno, _⟩
  · rw [deep_same h h']
  · exact absurd ⟨x, l, h⟩ hno
theorem retIff_yes {p : Prop} {e : Ending} (h : p) (r : RetIff p e) : e = .returned (.bool true) := by
  obtain ⟨b, rfl, hb⟩ := r
  rw [hb.2 h]
theorem retIff_no {p : Prop} {e : Ending} (h : ¬ p) (r : RetIff p e) : e = .returned (.bool false) := by
  obtain ⟨b, rfl, hb⟩ := r
  cases b
  · rfl
  · exact absurd (hb.1 rfl) h

set_option maxHeartbeats 6400000 in
theorem walk (a : Option Addr) (n cap : Nat) (w : World) (hn : n ≤ maxLen) (hc : n ≤ cap) (hb : BytesIn w a n) (hsh : ShapesIn w) :
    Calls Tryd.prog 3 #[.slice a n cap] w fun e w' => e = .returned (.bool true) ∧ Below w.heap.size w w' := by
  have HD := hide (drawTreeOk_any w a n cap hn hc hb)
  have HSH := hide hsh
  have hn' : (n : Int) ≤ 9223372036854775807 := by unfold maxLen at hn; omega
  clear hb hsh hn
  by_cases hbig : (1048576 : Int) < (n : Int)
  · go_enter Tryd.func3, Tryd.ntmps3
    go_wp2_with fail
    go_ret
    exact ⟨rfl, Below.refl _ _⟩
  · go_enter Tryd.func3, Tryd.ntmps3
    go_wp2_with fail
    refine (unhide HD).mono ?_
    rintro e w1 ⟨k, c, ns, rfl, m1, l1, z1, b1, s1, sn, ht1⟩
    have bel1 : Below w.heap.size w w1 := ht1.below (Nat.le_refl _) (by simp)
    have sh1 : ShapesIn w1 := (unhide HSH).below bel1 (Nat.le_refl _)
    have HN := hide (short_names sn)
    have hnl : ns.length ≤ 1048576 := by omega
    have hwz := bel1.size
    have HM1 := hide m1
    have HB1 := hide bel1
    have HS1 := hide sh1
    clear m1 sn ht1 bel1 sh1
    go_wp2_with fail
    refine (implOk_any w1 k 0 c ns hnl (unhide HM1) z1 (unhide HN) (unhide HS1)).mono ?_
    rintro e w2 ⟨hr2, bel2⟩
    have HM2 := hide ((unhide HM1).below bel2 z1)
    have HB2 := hide ((unhide HB1).trans (bel2.mono hwz))
    have HS2 := hide ((unhide HS1).below bel2 (Nat.le_refl _))
    have hz2 := bel2.size
    have z2 : k < w2.heap.size := by omega
    clear bel2
    by_cases hok : OkTree ns
    · obtain rfl := retIff_yes hok hr2
      have HOK := hide hok
      clear hok hr2
      go_wp2_with fail
      refine (specOk_any w2 k 0 c ns hnl (unhide HM2) z2 (unhide HN)).mono ?_
      rintro e w3 ⟨hr3, bel3⟩
      obtain rfl := retIff_yes (unhide HOK) hr3
      have HM3 := hide ((unhide HM2).below bel3 z2)
      have HB3 := hide ((unhide HB2).trans (bel3.mono (by omega)))
      have HS3 := hide ((unhide HS2).below bel3 (Nat.le_refl _))
      have hz3 := bel3.size
      have z3 : k < w3.heap.size := by omega
      clear bel3 hr3
      go_wp2_with fail
      refine (specOk_any w3 k 0 c ns hnl (unhide HM3) z3 (unhide HN)).mono ?_
      rintro e w4 ⟨hr4, bel4⟩
      obtain rfl := retIff_yes (unhide HOK) hr4
      have HM4 := hide ((unhide HM3).below bel4 z3)
      have HB4 := hide ((unhide HB3).trans (bel4.mono (by omega)))
      have HS4 := hide ((unhide HS3).below bel4 (Nat.le_refl _))
      have hz4 := bel4.size
      have z4 : k < w4.heap.size := by omega
      clear bel4 hr4
      obtain ⟨x, l, hok⟩ := unhide HOK
      have hlen := congrArg List.length hok.eq
      simp only [List.length_cons] at hlen
      have hsz := hok.size
      have hkx := hide hok.kids
      have HK := hide hok
      have hcl : cnt l ≤ 400 := by have := cnt_le l; omega
      have hdl : dp l ≤ 400 := by have := dp_le l; omega
      have hns1 : 1 ≤ ns.length := by omega
      have HLEN := hide hlen
      clear hok hlen
      go_wp2_with fail
      go_loopw [4, 5, 6] (fun kk ii ee wr => ∃ (d r : BT NodeV) (q j : Nat), Hid (l = Go.Proofs.YtmoepeaolacidaaDoor.app d r) ∧ Hid (q = 1 + (fl d).length) ∧ Hid (j = cnt d) ∧ q ≤ ns.length ∧ kk = .int .i64 q ∧ ii = .int .i64 j ∧ k < wr.heap.size ∧ w.heap.size ≤ wr.heap.size ∧ Hid (NodesAt wr k 0 ns ∧ Below w.heap.size w wr ∧ ShapesIn wr)) (fun _ ii _ _ => (((cnt l : Nat) : Int) - intOf ii).toNat)
      case atStart => exact ⟨.nil, l, 1, 0, hide rfl, hide rfl, hide rfl, by omega, rfl, rfl, z4, by omega, hide ⟨unhide HM4, unhide HB4, unhide HS4⟩⟩
      case round =>
        obtain ⟨d, r, q, j, hle, hq, hj, hqn, rfl, rfl, zr, hwr, HP⟩ := hrel
        have hX : wr.cell? ⟨k, 3, none⟩ = some (.int .i64 ((cnt l : Nat) : Int)) := by
          have := NodesAt.kids (unhide HP).1 (unhide HK).stands
          rw [unhide hkx] at this
          simpa using this
        have hpos : (0 : Int) < (ns.length : Int) := by omega
        cases r with
        | nil =>
          have hql : (q : Int) = (ns.length : Int) := by
            have h1 := unhide hle
            rw [app_nil] at h1
            have h2 := unhide hq
            rw [← h1] at h2
            have := unhide HLEN
            omega
          have hjl : (j : Int) = ((cnt l : Nat) : Int) := by
            have h1 := unhide hle
            rw [app_nil] at h1
            have h2 := unhide hj
            rw [← h1] at h2
            omega
          have hE := hide (show treeEnd ns ((0 : Nat) : Int) = (ns.length : Int) by
            rw [(unhide HK).stands.end' (unhide hkx) (unhide HK).kok]; have := unhide HLEN; omega)
          have hnlt : ¬ (j : Int) < ((cnt l : Nat) : Int) := by omega
          go_wp2_with (first
            | (go_at_call 9; refine (implEnd_any wr k 0 c ns ((0 : Nat) : Int) (by omega) (by omega) hnl (unhide HP).1).mono ?_; rw [unhide hE]; rintro e w5 ⟨rfl, rfl⟩))
          go_ret
          exact ⟨rfl, (unhide HP).2.1⟩
        | node b' o' y m r =>
          have hS : StandsAt ns q y m := by
            have h := (unhide HK).stands
            rw [unhide hle] at h
            have := h.kid
            rw [unhide hq]
            simpa using this
          have hpart := part_ok (unhide HK) (unhide hle)
          have hkk := kok_node (by have := (unhide HK).kok; rw [unhide hle] at this; exact this)
          have hE := hide (hS.end' hkk.1 hkk.2)
          have hlt : q + 1 + (fl m).length ≤ ns.length := hS.lt
          generalize hfm : (fl m).length = fm at *
          have hfm := hide hfm
          have hjl : (j : Int) < ((cnt l : Nat) : Int) := by
            have e := unhide hle
            rw [e, cnt_app, unhide hj]; simp only [cnt]; omega
          have HPART := hide hpart.1
          have HDEEP := hide hpart.2
          have HS := hide hS
          clear hpart hkk hS
          go_wp2_with fail
          refine (implEnd_any wr k 0 c ns (q : Int) (by omega) (by omega) hnl (unhide HP).1).mono ?_
          rw [unhide hE]
          rintro e w5 ⟨rfl, rfl⟩
          go_wp2_with fail
          have hL2 := hide (show (y :: fl m).length = q + 1 + fm - q by rw [List.length_cons, unhide hfm]; omega)
          have hNP : NamesOk (y :: fl m) := by
            obtain ⟨pre, post, e1, _⟩ := unhide HS
            intro n hn
            exact unhide HN n (by rw [e1]; simp only [List.mem_append]; exact .inr (.inl hn))
          have HNP := hide hNP
          have hsm : (y :: fl m).length ≤ 1048576 := by rw [unhide hL2]; omega
          have HSM := hide hsm
          have H7 := implOk_any w5 k (q * 4) (c - q) (y :: fl m) hsm (nodesAt_part (unhide HP).1 (unhide HS)) zr hNP (unhide HP).2.2
          rw [unhide hL2] at H7
          clear hNP hsm
          refine H7.mono ?_
          rintro e w6 ⟨hr6, bel6⟩
          obtain rfl := retIff_yes ⟨_, _, unhide HPART⟩ hr6
          have HP6 := hide (show NodesAt w6 k 0 ns ∧ Below w.heap.size w w6 ∧ ShapesIn w6 from ⟨(unhide HP).1.below bel6 zr, (unhide HP).2.1.trans (bel6.mono (by omega)), (unhide HP).2.2.below bel6 (Nat.le_refl _)⟩)
          have zs6 := bel6.size
          have z6 : k < w6.heap.size := by omega
          clear hr6 bel6 H7
          go_wp2_with fail
          have H8 := implDeep_any w6 k (q * 4) (c - q) (y :: fl m) (unhide HSM) (nodesAt_part (unhide HP6).1 (unhide HS)) z6 (unhide HNP) (unhide HP6).2.2
          rw [unhide hL2] at H8
          refine H8.mono ?_
          rintro e w7 ⟨hr7, bel7⟩
          obtain rfl := retDeep_ok (unhide HPART) hr7
          have HP7 := hide (show NodesAt w7 k 0 ns ∧ Below w.heap.size w w7 ∧ ShapesIn w7 from ⟨(unhide HP6).1.below bel7 z6, (unhide HP6).2.1.trans (bel7.mono (by omega)), (unhide HP6).2.2.below bel7 (Nat.le_refl _)⟩)
          have zs7 := bel7.size
          have z7 : k < w7.heap.size := by omega
          clear hr7 bel7 H8
          go_wp2_with fail
          refine (implDeep_any w7 k 0 c ns hnl (unhide HP7).1 z7 (unhide HN) (unhide HP7).2.2).mono ?_
          rintro e w8 ⟨hr8, bel8⟩
          obtain rfl := retDeep_ok (unhide HK) hr8
          have HP8 := hide (show NodesAt w8 k 0 ns ∧ Below w.heap.size w w8 ∧ ShapesIn w8 from ⟨(unhide HP7).1.below bel8 z7, (unhide HP7).2.1.trans (bel8.mono (by omega)), (unhide HP7).2.2.below bel8 (Nat.le_refl _)⟩)
          have zs8 := bel8.size
          have z8 : k < w8.heap.size := by omega
          clear hr8 bel8
          have hnge : ¬ ((dp l + 1 : Nat) : Int) ≤ ((dp m + 1 : Nat) : Int) := by have := unhide HDEEP; omega
          have hle' := hide ((unhide hle).trans (app_snoc d b' o' y m r))
          have hq' := hide (show q + 1 + fm = 1 + (fl (Go.Proofs.YtmoepeaolacidaaDoor.app d (.node b' o' y m .nil))).length by
            rw [fl_app, unhide hq]; simp [fl]; have := unhide hfm; omega)
          have hj' := hide (show j + 1 = cnt (Go.Proofs.YtmoepeaolacidaaDoor.app d (.node b' o' y m .nil)) by rw [unhide hj, cnt_app]; rfl)
          go_wp2_with fail
          go_roundw
          case rel => exact ⟨_, r, _, _, hle', hq', hj', by omega, by go_num, by go_num, z8, by omega, HP8⟩
          case measure => simp [intOf]; omega
    · obtain rfl := retIff_no hok hr2
      have HOK := hide hok
      clear hok hr2
      go_wp2_with fail
      refine (specOk_any w2 k 0 c ns hnl (unhide HM2) z2 (unhide HN)).mono ?_
      rintro e w3 ⟨hr3, bel3⟩
      obtain rfl := retIff_no (unhide HOK) hr3
      have HM3 := hide ((unhide HM2).below bel3 z2)
      have HB3 := hide ((unhide HB2).trans (bel3.mono (by omega)))
      have hz3 := bel3.size
      have z3 : k < w3.heap.size := by omega
      clear bel3 hr3
      go_wp2_with fail
      refine (specOk_any w3 k 0 c ns hnl (unhide HM3) z3 (unhide HN)).mono ?_
      rintro e w4 ⟨hr4, bel4⟩
      obtain rfl := retIff_no (unhide HOK) hr4
      have HB4 := hide ((unhide HB3).trans (bel4.mono (by omega)))
      clear bel4 hr4
      go_wp2_with fail
      go_ret
      exact ⟨rfl, unhide HB4⟩

theorem own : ownKnob Tryd.prog.godebug = none := by kernel_rfl
theorem laidOut : laidOutB Tryd.prog = true := by kernel_rfl
theorem door_met (os : Os) (args : Array Value) : laidMetH Tryd.prog Rows.fnTreeEndsRow.laid ((World.doorLaid Tryd.prog 400 os).forCall (fun _ _ => 0) ⟨#[], args, []⟩).memory :=
  laidMetH_of_parts3 (fuel := 8) (laidMet_of_run' 8 (by kernel_rfl) (by kernel_rfl)) (by kernel_rfl) (by kernel_rfl)
theorem shapes {W : World} (h : laidMetH Tryd.prog Rows.fnTreeEndsRow.laid W) : ShapesIn W :=
  shapes_of_laid (rest := []) (by kernel_rfl) h

set_option maxRecDepth 100000 in
theorem lifted (os : Os) (started : os.Started) (H : Type) (enc : TypeId × Value → H) :
    ReturnsInHanded {} Tryd.checked os 3 .any (fun w args => (Rows.fnTreeEndsSpec.pre enc Tryd.prog Tryd.f3 [] false w args ∧ laidMetH Tryd.prog Rows.fnTreeEndsRow.laid w) ∧ sizedMet enc Tryd.prog Tryd.f3 (OpenSpec.ofChange Rows.fnTreeEndsSpec) false w args)
      (Rows.fnTreeEndsSpec.post enc Tryd.prog Tryd.f3 false true false false) := by
  refine returnsInHanded_of_change_and (C := Tryd.checked) (X := fun w _ => laidMetH Tryd.prog Rows.fnTreeEndsRow.laid w) (fun _ _ _ hh h => h.of_heap hh) own started (by kernel_rfl) Tryd.func3
    (ChangeSpec.witness_shaped (enc := enc) (C := Tryd.checked) (os := os) (X := fun w _ => laidMetH Tryd.prog Rows.fnTreeEndsRow.laid w) false (World.doorLaid Tryd.prog 400 os) #[.slice none 0 0] 8 rfl (World.shaped_of_RefB (by kernel_rfl) (by kernel_rfl)) (by kernel_rfl) (by kernel_rfl) (by kernel_rfl) (door_met os _)) ?_
  intro W base args ds gs before hval0 hW _ _ hL _
  have hval : ∀ (j : Nat) t v, Tryd.f3.params[j]? = some t → args[j]? = some v → Value.okWide Tryd.prog W .any base t v := hval0
  have hW' := hW
  obtain ⟨p, q, hA0, hV, rfl, hfz, hnd⟩ := hW
  have hA : DataW.TrodAll enc Tryd.prog W 0 (fun _ => true) true Tryd.f3.params.toList args.toList ds p := hA0
  rw [Tryd.params3] at hA hval
  obtain ⟨v0, d0, rfl, rfl, h0⟩ := trodAll_one hA
  obtain ⟨gv, tv, cv, fv, dv, pv, rfl, _, _, _, _, _⟩ := trodVars_one hV
  obtain ⟨a0, len0, cap0, rfl⟩ := okWide_slice Tryd.underlying22 (hval 0 22 v0 rfl rfl)
  have k0 := h0
  have lt0 : ∀ x ∈ p, x.block < W.heap.size := by obtain ⟨m, hm⟩ := k0; exact DataW.trod_lt m _ _ _ hm
  obtain ⟨hl, hlc, hb⟩ := open_bytes h0
  have hsh := shapes hL
  clear hA0 hval0
  refine (walk a0 len0 cap0 W hl hlc hb hsh).mono fun e W' ⟨he, bel⟩ => ?_
  subst he
  have hV' := Below.trodVars laidOut bel (by kernel_rfl) hV
  exact ⟨_, rfl, _, _, _, [], _, _, hW', trodAll_mk1 (shut_bool Tryd.underlying4 _), trodAll_mk1 (Below.trod laidOut (by kernel_rfl) (of_decide_eq_true (by kernel_rfl)) k0 bel lt0), hV', bel.frame _, fun h => by cases h⟩

theorem said : Rows.FnTreeEndsSaid :=
  OpenClaim.holds_of_wide 3 Tryd.f3 rfl rfl rfl rfl rfl rfl rfl ⟨rfl, rfl, rfl, rfl, rfl⟩ rfl rfl rfl rfl rfl (by kernel_rfl) Tryd.func3 (by kernel_rfl)
    (of_decide_eq_true (by kernel_rfl)) (by unfold Func.isWrapper; first | (rw [if_pos (by decide +kernel)]; kernel_rfl) | (rw [if_neg (by decide +kernel)]; exact ⟨rfl, rfl⟩))
    (fun os started H enc _ => lifted os started H enc)

theorem card : Rows.FnTreeEndsCardSaid :=
  Claim7.holds_tied_plain_at .later [] _ _ _ _ said (fun _ h => by cases h) (by kernel_rfl) (fun _ h => by cases h) fnTreeEnds_row_tie rfl ⟨rfl, rfl⟩ (by kernel_rfl) rfl
    (fun f fn hf hfn => by
      obtain rfl : f = 3 := Option.some.inj ((show Tryd.prog.funcNamed Rows.fnTreeEndsRow.func = some 3 by kernel_rfl).symm.trans hf) |>.symm
      obtain rfl : fn = Tryd.f3 := (Option.some.inj (Tryd.func3.symm.trans hfn)).symm
      exact ⟨by kernel_rfl, fun j t ht => by
        rw [Tryd.params3] at ht
        obtain rfl : t = 22 := by simpa using Array.mem_of_getElem? ht
        exact (show Tryd.prog.wantsStandIn 22 = false by kernel_rfl)⟩)
    (by kernel_rfl)

end Go.Proofs.YtmoepeaolacidaaDoor.fnTreeEnds

namespace Go.Proofs.YtmoepeaolacidaaDoor
theorem fnTreeEnds_holds : Rows.FnTreeEndsCardSaid :=
  fnTreeEnds.card
end Go.Proofs.YtmoepeaolacidaaDoor
