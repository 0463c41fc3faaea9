/-
  The program's reader: a tree out of words.
-/
import Derived.Test.YtkfhokeoooafnaaGreatDoorMerged41
import Derived.Test.YtkfhokeoooafnaaGreatDoorRdrAp
import Derived.Test.YtkfhokeoooafnaaGreatDoorMerged21
import Derived.Deep.RegionHeld3
set_option linter.unusedVariables false
namespace Go.Proofs.YtkfhokeoooafnaaGreatDoor
open Go.RowKit Go.Maps Go.Deep

/-- a tree, or what the reader gave up with -/
def RetTi (rb : Nat) (r : TrRes) (w : World) (e : Ending) (w' : World) : Prop := match r with
  | .bad c a => e = .panicked [{ v := errV c a, recovered := false }] ∧ Hid (Turn [rb] w w')
  | .ok x => ∃ v, e = .returned v ∧ Hid (NdRow w.heap.size w' v (fl x.f)) ∧ Hid (Turn [rb] w w')
theorem fl_f (x : TreeV) : fl x.f = x.x :: fl x.l := by show x.x :: (fl x.l ++ []) = _; rw [List.append_nil]
set_option maxHeartbeats 6400000 in
set_option maxRecDepth 20000 in
theorem tree_any (t : ByteArray) (w : World) (rb : Nat) (a : Option Addr) (c : Nat) (hc : bwCode t = 0) (h : PrK (bwWords t) t.size w rb a c 0) :
    Calls Tryz.prog 44 #[.pointer (some ⟨rb, 0, none⟩)] w fun e w' => RetTi rb (trRes t) w e w' := by
  obtain ⟨hlen, hwis⟩ := bw_words t
  have HRB := h.pr.lt
  have P0 := hide h
  have HEX := hide ((isaid_all (bwWords t) hwis t.size (fuelT (bwWords t))).1)
  have HFU := hide (fuel_ok (bwWords t))
  have HTR := hide (tr_tree t)
  have HGD := hide (tr_good t)
  have HNM := hide (parse_norm (bwWords t) (fuelT (bwWords t)) .expr 0 trivial)
  have TB := hide (fun k h => tr_bad (t := t) (k := k) hc h)
  have TM := hide (fun k x h1 h2 => tr_more (t := t) (k := k) (x := x) hc h1 h2)
  have TN := hide (fun k x h1 h2 h3 => tr_many (t := t) (k := k) (x := x) hc h1 h2 h3)
  have TD := hide (fun k x h1 h2 h3 h4 => tr_deep (t := t) (k := k) (x := x) hc h1 h2 h3 h4)
  have TO := hide (fun k x h1 h2 h3 h4 => tr_ok (t := t) (k := k) (x := x) hc h1 h2 h3 h4)
  clear hc h
  generalize trRes t = R at *
  have HMIS := hide (fun W k (hp : PrI (bwWords t) t.size W rb a c k) => misplaced_any (bwWords t) t.size W rb a c k hp)
  generalize bwWords t = ws at *
  go_enter Tryz.func44, Tryz.ntmps44
  go_wp2_with fail
  refine (unhide HEX _ rb a c _ (unhide P0) (unhide HFU)).mono ?_
  rintro e w1 (⟨k1, hp1, rfl, t1⟩ | ⟨x1, k1, y1, u1, hp1, rfl, p1, t1, f1⟩)
  · refine ⟨rfl, ?_⟩
    rw [unhide TB _ hp1]
    exact ⟨rfl, t1⟩
  have HOK := unhide HTR
  rw [hp1] at HOK
  have HSZ := hide HOK.2.2
  have HNT := unhide HNM
  rw [hp1] at HNT
  have HNT := hide HNT
  have G1 := unhide HGD
  rw [hp1] at G1
  have hk1 : k1 ≤ ws.length := G1.2
  have TM1 := hide (unhide TM _ _ hp1)
  have TN1 := hide (unhide TN _ _ hp1)
  have TD1 := hide (unhide TD _ _ hp1)
  have TO1 := hide (unhide TO _ _ hp1)
  obtain ⟨⟨c0, c1, c2⟩, f0, ff1, f2⟩ := (unhide p1).pr.box.triR
  clear HOK HTR HNM G1 HGD TB TM TN TD TO hp1 HEX P0 HFU
  by_cases hlt : k1 < ws.length
  · have hlt2 : (k1 : Int) < (ws.length : Int) := by omega
    have HR := hide (unhide TM1 hlt)
    clear hlt TM1 TN1 TD1 TO1
    have PD := hide ((unhide p1).up (Below.refl _ _).drew)
    have TD := hide ((unhide t1).trans (Turn.of_below (Below.refl _ _).drew))
    go_wp2_with fail
    go_region
    all_goals
      go_wp2_with (first
        | (go_at_call 71; refine (unhide HMIS _ _ (unhide PD).pr).mono ?_; rintro e w2 ⟨rfl, b2⟩)
        | fail)
      refine ⟨rfl, ?_⟩
      rw [unhide HR]
      exact ⟨rfl, hide ((unhide TD).trans (Turn.of_below b2))⟩
  · have hlt2 : ¬ (k1 : Int) < (ws.length : Int) := by omega
    have BD := hide ((Below.refl w1.heap.size w1).drew)
    have TD0 := hide ((unhide t1).trans (Turn.of_below (Below.refl w1.heap.size w1).drew))
    have F1 := hide ((unhide f1).upR (Below.refl w1.heap.size w1).drew)
    have TN2 := hide (unhide TN1 hlt)
    have TD2 := hide (unhide TD1 hlt)
    have TO2 := hide (unhide TO1 hlt)
    clear hlt TM1 TN1 TD1 TO1
    go_wp2_with fail
    go_region
    all_goals
      go_wp2_with fail
      generalize w1.drew = W1 at *
      obtain ⟨v1, rest1, kvs, ev, h1, h2, h3⟩ := unhide F1
      cases ev
      have HS : (fl x1.l).length + 1 ≤ 1500 := by have := unhide HSZ; rw [sizeT_is] at this; omega
      have HA := hide (app_any x1.x x1.l W1 W1 w.heap.size (.iface y1 u1) (.slice none 0 0) kvs [] h1 h2 (unhide HNT x1.x (by rw [fl_f]; simp)) (fun y hy => unhide HNT y (by rw [fl_f]; simp [hy])) (Below.refl _ _) (NdRow.nil _ _) (by simp; omega))
      have HFD := hide (fun (W : World) (b : Below W1.heap.size W1 W) => fdeep_any x1.x x1.l (by omega) W w.heap.size (.iface y1 u1) kvs (h1.upR b) (h2.agree (Agree.of_below b)))
      clear h1 h2 h3 F1
      refine (unhide HA).mono ?_
      rintro e w2 ⟨nv, rfl, R2, G2⟩
      have B2 := hide ((unhide G2).below (Below.refl W1.heap.size W1) (fun g hg => by cases hg))
      obtain ⟨a2, c2', e2⟩ := (unhide R2).slice
      subst e2
      have hm : ([] ++ x1.x :: fl x1.l).length = sizeT x1 := by rw [sizeT_is]; simp
      have R3 := hide (show NdRow W1.heap.size w2 (.slice a2 (sizeT x1) c2') (fl x1.f) from by have := unhide R2; rw [hm] at this; rw [fl_f]; exact this)
      rw [hm]
      clear R2 hm G2 HA
      by_cases h400 : 400 < sizeT x1
      · have h4i : (400 : Int) < (sizeT x1 : Int) := by omega
        have HR := hide (unhide TN2 h400)
        clear h400
        generalize sizeT x1 = m at *
        go_wp2_with (first
          | (go_at_call 66; refine (wrongAt_any 6 0 _).mono ?_; rintro e w4 ⟨rfl, rfl⟩)
          | fail)
        refine ⟨rfl, ?_⟩
        rw [unhide HR]
        exact ⟨rfl, hide ((unhide TD0).trans (Turn.of_below (unhide B2)))⟩
      · have h4i : ¬ (400 : Int) < (sizeT x1 : Int) := by omega
        have HD2 := hide (unhide TD2 h400)
        have HO2 := hide (unhide TO2 h400)
        clear h400
        have HFW := hide (unhide HFD w2 (unhide B2))
        obtain ⟨dn, hdn⟩ : ∃ dn : Nat, dn = dp x1.l + 1 := ⟨_, rfl⟩
        rw [← hdn] at HFW HD2 HO2
        clear hdn
        generalize sizeT x1 = m at *
        go_wp2_with fail
        refine (unhide HFW).mono ?_
        rintro e w5 ⟨rfl, b5⟩
        have T5 := hide (((unhide TD0).trans (Turn.of_below (unhide B2))).trans (Turn.of_below b5))
        have R5 := hide (((unhide R3).up b5).mono (unhide TD0).size)
        clear HFW HFD R3 b5 B2 TD0
        by_cases h40 : 40 < dn
        · have h4d : (40 : Int) < (dn : Int) := by omega
          have HR := hide (unhide HD2 h40)
          clear h40
          go_wp2_with (first
            | (go_at_call 66; refine (wrongAt_any 7 0 _).mono ?_; rintro e w6 ⟨rfl, rfl⟩)
            | fail)
          refine ⟨rfl, ?_⟩
          rw [unhide HR]
          exact ⟨rfl, T5⟩
        · have h4d : ¬ (40 : Int) < (dn : Int) := by omega
          have HR := hide (unhide HO2 h40)
          clear h40
          go_wp2_with fail
          go_ret
          rw [unhide HR]
          exact ⟨_, rfl, R5, T5⟩
end Go.Proofs.YtkfhokeoooafnaaGreatDoor
