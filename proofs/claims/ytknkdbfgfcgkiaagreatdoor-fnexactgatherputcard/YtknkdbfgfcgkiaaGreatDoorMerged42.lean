/-
  The program's greatest.
-/
/-
  The program's ChoiceBest.
-/
/-
  The program's ChoiceJoin.
-/
import Derived.Test.YtknkdbfgfcgkiaaGreatDoorMerged41
import Derived.Deep.LoopGhost
import Derived.WalkMore
import Derived.Test.YtknkdbfgfcgkiaaGreatDoorMerged38
import Derived.Test.YtknkdbfgfcgkiaaGreatDoorMerged34
set_option linter.unusedVariables false
namespace Go.Proofs.YtknkdbfgfcgkiaaGreatDoor
open Go.RowKit Go.Maps Go.Deep

def sumQ (q : List Int) : Nat := (q.map Int.toNat).sum
theorem sumQ_set : ∀ (q : List Int) (a : Nat), a < q.length → 1 ≤ q.getD a 0 → sumQ (q.set a (q.getD a 0 - 1)) < sumQ q
 | [], a, h, _ => by simp at h
 | x :: xs, 0, _, h1 => by
  simp only [List.getD_cons_zero] at h1 ⊢
  simp only [sumQ, List.set_cons_zero, List.map_cons, List.sum_cons]
  omega
 | x :: xs, a + 1, h, h1 => by
  simp only [List.getD_cons_succ] at h1 ⊢
  have := sumQ_set xs a (by simpa using h) h1
  simp only [sumQ, List.set_cons_succ, List.map_cons, List.sum_cons] at this ⊢
  omega
theorem ChIs.sees {w0 w : World} {b off cap nn gp pc : Nat} {D : DataW Unit} {G : ByteArray → Hd} {ws : List (List ItemV)} {sh : ByteArray → List Int} {q : List Int} (h : ChIs w0 w sh (.slice (some ⟨b, off, none⟩) ws.length cap) nn D G (.slice (some ⟨gp, 0, none⟩) ws.length pc) q) (hb : b < w0.heap.size) (hc : WinsAt w0 b off ws) (hq : q.length = ws.length) : Sees w (w0.heap.size + 1) ws q := by
 obtain ⟨⟨b0, b1, -⟩, -⟩ := h.box.threeC
 exact ⟨b, off, cap, gp, pc, b0, b1, Nat.lt_of_lt_of_le hb h.bel.size, h.pick.lt gp rfl, hc.up hb h.bel, fun i hi => by
  rw [Nat.zero_add, h.pick.cellAt hi, List.getD_eq_getElem?_getD, List.getElem?_eq_getElem hi]
  rfl⟩
/-- one place is lowered -/
theorem ChIs.lower {w0 w : World} {nn gp n pc : Nat} {D : DataW Unit} {G : ByteArray → Hd} {wv : Value} {sh : ByteArray → List Int} {q : List Int} (h : ChIs w0 w sh wv nn D G (.slice (some ⟨gp, 0, none⟩) n pc) q) (a : Nat) (x : Int) : ChIs w0 (w.setCell ⟨gp, a, none⟩ (.int .i64 x)) sh wv nn D G (.slice (some ⟨gp, 0, none⟩) n pc) (q.set a x) := by
 have hge : w0.heap.size + 2 ≤ gp := h.pick.ge gp rfl
 have t : Turn [gp] w (w.setCell ⟨gp, a, none⟩ (.int .i64 x)) := (Turn.refl _ w).setCell (by simp) a _
 exact ⟨h.map.setCell (by simp; omega) _, h.rows.turn t (fun k hk => .inr (by simp at hk; subst hk; rfl)), h.pick.set a x, h.box.turn t (by simp; omega), h.bel.trans (t.below h.bel.size (fun k hk => by simp at hk; omega))⟩
set_option maxRecDepth 20000 in
set_option maxHeartbeats 3200000 in
theorem great_any {w0 w : World} {b off cap nn gp pc : Nat} {D : DataW Unit} {G : ByteArray → Hd} {ws : List (List ItemV)} (hs : SmallItemSS ws) (hw : winsB ws = true) (hc : WinsAt w0 b off ws) (hb : b < w0.heap.size) (hnn : nn ≤ 10000000) (hI : ChIs w0 w (shC ws) (.slice (some ⟨b, off, none⟩) ws.length cap) nn D G (.slice (some ⟨gp, 0, none⟩) ws.length pc) (lasts ws)) (hq : InR ws (lasts ws)) (hu : UB ws (lasts ws)) :
  Calls Tryz.prog 113 #[.pointer (some ⟨w0.heap.size + 1, 0, none⟩)] w fun e w' => ∃ v S, e = .returned (.tuple #[v, .bool (bestB ws)]) ∧ Hid (IntSOwn S w' v (bestV ws)) ∧ Hid (∀ k ∈ S, w0.heap.size ≤ k) ∧ Below w0.heap.size w0 w' := by
 have HI := hide hI
 have HS := hide hs
 have HW := hide hw
 have HC := hide hc
 have HQ := hide hq
 have HU := hide hu
 have HNN := hide hnn
 have b2 := hI.box.threeC.1.2.2
 clear hI hs hw hc hq hu hnn
 go_enter Tryz.func113, Tryz.ntmps113
 go_wp2_with fail
 go_step3
 go_wp2_with (first
  | (go_at_call 127; refine (keysFn_any _ _).mono ?_; rintro e w1 ⟨rfl, rfl⟩)
  | (go_at_call 126; refine (sorted_any (unhide HI).map (unhide HNN)).mono ?_; rintro e w2 ⟨v2, ts, rfl, K2, M2, L2, k2⟩; have C2 := hide ((unhide HI).up k2); clear k2)
  | fail)
 obtain ⟨va, vc, rfl, -⟩ : ∃ a c, v2 = .slice a ts.length c ∧ True := by
  obtain ⟨a, c, e, _⟩ := unhide K2
  exact ⟨a, c, e, trivial⟩
 have hgw : gp < w.heap.size := (unhide HI).pick.lt gp rfl
 have hts := (unhide L2).1
 have h6 := (winsB_len (unhide HW)).2
 clear HI b2
 go_step3
 go_wp2_with fail
 go_loopg [17] (sumQ (lasts ws)) (fun gh x17 wx => ∃ q : List Int, sumQ q ≤ gh ∧ Hid (InR ws q) ∧ Hid (UB ws q) ∧ Hid (ChIs w0 wx (shC ws) (.slice (some ⟨b, off, none⟩) ws.length cap) nn D G (.slice (some ⟨gp, 0, none⟩) ws.length pc) q) ∧ Hid (SrcRd w.heap.size wx (.slice va ts.length vc) ts))
 case atStart => exact ⟨lasts ws, Nat.le_refl _, HQ, HU, C2, K2⟩
 case round =>
  clear HQ HU C2 K2
  obtain ⟨q, hgq, HQ, HU, HI1, HK1⟩ := hrel
  have HQL := hide (show q.length = ws.length from (unhide HQ).1)
  go_wp2_with fail
  go_loopg [17] ts.length (fun g2 kv wy => ∃ k : Nat, k + g2 = ts.length ∧ kv = .int .i64 k ∧ Hid (∀ j (h : j < ts.length), j < k → EvenS ws q ts[j]) ∧ Hid (ChIs w0 wy (shC ws) (.slice (some ⟨b, off, none⟩) ws.length cap) nn D G (.slice (some ⟨gp, 0, none⟩) ws.length pc) q) ∧ Hid (SrcRd w.heap.size wy (.slice va ts.length vc) ts))
  case atStart => exact ⟨0, by omega, rfl, hide (fun j h hj => absurd hj (Nat.not_lt_zero _)), HI1, HK1⟩
  case round =>
   clear HI1 HK1
   obtain ⟨k, hkg, rfl, HE, HI, HK⟩ := hrel
   by_cases hlt : k < ts.length
   ·obtain ⟨a', c', e, hin⟩ := unhide HK
    simp only [Value.slice.injEq, true_and] at e
    obtain ⟨rfl, rfl⟩ := e
    rcases hin with h0 | ⟨gs, rfl, hgs, hgl, hat⟩
    ·rw [h0] at hlt; simp at hlt
    have s0 := hat k hlt
    have HM := hide (List.getElem_mem hlt : ts[k] ∈ ts)
    have HEK := hide (fun (hv : EvenS ws q ts[k]) => show ∀ j (h : j < ts.length), j < k + 1 → EvenS ws q ts[j] from fun j h hj => by
     by_cases e : j = k
     ·subst e; exact hv
     ·exact unhide HE j h (by omega))
    generalize ts[k] = s at *
    clear hat
    have hG := (unhide M2 s).1 (unhide HM)
    obtain ⟨⟨g, n, c⟩, hGs⟩ := Option.ne_none_iff_exists'.1 hG
    have hrow := (unhide HI).rows.row s
    rw [hGs] at hrow
    simp only [hdV] at hrow
    obtain ⟨ns, hns, hnl, hin2, hall⟩ := shC_nats ws s
    have hne : shC ws s ≠ [] := (unhide HI).rows.non s hG
    have hn0 : 0 < ns.length := List.length_pos_iff.2 (fun e => hne (by rw [hns, e]; rfl))
    have hnn2 : n = ns.length := by
     obtain ⟨x, y, e⟩ := hrow.form
     simp only [Value.slice.injEq] at e
     rw [e.2.1, hns, List.length_map]
    subst hnn2
    have hcs : ∀ i (h : i < ns.length), wr.cell? ⟨g, i, none⟩ = some (.int .i64 ((ns[i] : Nat) : Int)) := fun i hi => by
     rw [hrow.cellAt (i := i) (by rw [hns, List.length_map]; exact hi), hns]
     simp [List.getD_eq_getElem?_getD, hi]
    have HL := hide (latest_any ((unhide HI).sees hb (unhide HC) (unhide HQL)) (unhide HS) h6 (unhide HQ) (unhide HI).map (unhide HI).box.threeC.1.2.2 (s := s) ((unhide L2).2 _ (unhide HM)) hGs hcs hn0 (by omega) (fun a ha => (hin2 a ha).1) (fun i => verC ws q i s) (fun _ => rfl) (maxFP (fun i => verC ws q i s) ns (ns.length - 1)) (minFP (fun i => verC ws q i s) ns (ns.length - 1)) rfl rfl)
    have HEV := hide (even_of (V := fun i => verC ws q i s) (unhide HW) (unhide HQ) (fun _ => rfl) hn0 hall)
    have HLA := hide (late_of (V := fun i => verC ws q i s) (unhide HW) (unhide HQ) (unhide HU) (fun _ => rfl) hn0 hin2 rfl)
    clear hcs hrow hall hin2 hne hG hns
    generalize maxFP (fun i => verC ws q i s) ns (ns.length - 1) = mx at *
    generalize minFP (fun i => verC ws q i s) ns (ns.length - 1) = mn at *
    by_cases hl : verC ws q mn s < verC ws q mx s
    ·obtain ⟨hmx, hz, hnz⟩ := unhide HLA hl
     rw [decide_eq_true hl] at HL
     obtain ⟨p, hp1, hp2, -⟩ := inR_at (unhide HQ) hmx
     have hp4 : p < 4 := by have := wins_four4 (unhide HW) _ (List.getElem_mem hmx); omega
     have hml : mx < q.length := by rw [unhide HQL]; exact hmx
     have HSM := hide (fun (h1 : p ≠ 0) => sumQ_set q mx hml (by rw [hp1]; omega))
     have HPC := hide (fun (X : World) (h : ChIs w0 X (shC ws) (.slice (some ⟨b, off, none⟩) ws.length cap) nn D G (.slice (some ⟨gp, 0, none⟩) ws.length pc) q) => h.pick.cellAt hml)
     rw [hp1] at hz hnz HPC HSM
     have HZ := hide hz
     have HNZ := hide hnz
     have hm6 : mx < 6 := by omega
     clear hl hz hnz HLA HEV hp1 hp2
     by_cases hp0 : p = 0
     ·subst hp0
      have HB := hide (best_no (ws := ws) (.inr (unhide HZ rfl)))
      go_wp2_with (go_at_call 128; refine (unhide HL).mono ?_; rintro e w5 ⟨rfl, k5⟩; have I5 := hide ((unhide HI).up k5); have b1 := (unhide I5).box.threeC.1.2.1; have p1 := unhide HPC _ (unhide I5); clear k5)
      try rw [Exit.noGoto_ret]
      refine bodyPost_ret (v := .tuple #[.slice none 0 0, .bool false]) ?_ rfl ?_
      ·simp [results, Tryz.results113, go_sem]
      exact ⟨_, [], by rw [(unhide HB).2], by rw [(unhide HB).1]; exact hide (.inl ⟨rfl, rfl, _, _, rfl⟩), hide (by simp), (unhide I5).bel⟩
     ·have hq2 := unhide HNZ (by omega)
      have HQ2 := hide hq2.1
      have HU2 := hide hq2.2
      have hsm := unhide HSM hp0
      have hpe : ¬ ((p : Int) = 0) := by omega
      clear hq2
      go_wp2_with (go_at_call 128; refine (unhide HL).mono ?_; rintro e w5 ⟨rfl, k5⟩; have I5 := hide ((unhide HI).up k5); have S5 := hide ((unhide HK).turn (Turn.of_below (S := []) k5) (by simp)); have b1 := (unhide I5).box.threeC.1.2.1; have p1 := unhide HPC _ (unhide I5); have f1 := (unhide I5).pick.writable mx; clear k5)
      have I6 := hide ((unhide I5).lower mx ((p : Int) - 1))
      have S6 := hide ((unhide S5).turn ((Turn.refl [gp] w5).setCell (g := gp) (by simp) mx (.int .i64 ((p : Int) - 1))) (fun k hk => by simp at hk; omega))
      clear b1 p1 f1
      go_roundg (sumQ (q.set mx ((p : Int) - 1)))
      case measure => omega
      case rel => exact ⟨_, Nat.le_refl _, HQ2, HU2, I6, S6⟩
    ·have HE2 := hide (unhide HEK (unhide HEV hl))
     rw [decide_eq_false hl] at HL
     clear HLA HEV hl HEK
     go_wp2_with (go_at_call 128; refine (unhide HL).mono ?_; rintro e w5 ⟨rfl, k5⟩; have I5 := hide ((unhide HI).up k5); have S5 := hide ((unhide HK).turn (Turn.of_below (S := []) k5) (by simp)); clear k5)
     go_roundg (ts.length - (k + 1))
     case measure => omega
     case rel => exact ⟨k + 1, by omega, by go_num, HE2, I5, S5⟩
   ·obtain rfl : k = ts.length := by omega
    have HB := hide (best_yes (best_of_top (unhide HW) (all_even (unhide HW) (unhide HQ) (fun s hs => by
     have hm := (unhide M2 s).2 ((has_list (unhide HI).rows s).2 hs)
     obtain ⟨j, hj, rfl⟩ := List.getElem_of_mem hm
     exact unhide HE j hj hj)) (unhide HU)))
    have b1 := (unhide HI).box.threeC.1.2.1
    go_wp2_with fail
    try rw [Exit.noGoto_ret]
    refine bodyPost_ret (v := .tuple #[.slice (some ⟨gp, 0, none⟩) ws.length pc, .bool true]) ?_ rfl ?_
    ·simp [results, Tryz.results113, go_sem]
    refine ⟨_, [gp], by rw [(unhide HB).2], ?_, hide (fun k hk => by simp at hk; have := (unhide HI).pick.ge gp rfl; omega), (unhide HI).bel⟩
    rw [(unhide HB).1]
    exact hide (.inr ⟨gp, 0, pc, rfl, by rw [unhide HQL], (unhide HI).pick.lt gp rfl, fun i hi => by
     rw [Nat.zero_add, (unhide HI).pick.cellAt hi, List.getD_eq_getElem?_getD, List.getElem?_eq_getElem hi]
     rfl, fun i _ => (unhide HI).pick.writable _⟩)
end Go.Proofs.YtknkdbfgfcgkiaaGreatDoor

set_option linter.unusedVariables false
namespace Go.Proofs.YtknkdbfgfcgkiaaGreatDoor
open Go.RowKit Go.Maps Go.Deep

def anyEmpty (ws : List (List ItemV)) : Bool := ws.any (fun x => x.isEmpty)
theorem empty_any (a : Option Addr) (n c : Nat) (w : World) : Calls Tryz.prog 110 #[.slice a n c] w fun e w' => e = .returned (.bool (decide (n = 0))) ∧ Below w.heap.size w w' := by
 by_cases h : n = 0
 ·subst h
  go_enter Tryz.func110, Tryz.ntmps110
  go_wp2_with fail
  go_ret
  exact ⟨rfl, Below.refl _ _⟩
 ·have h2 : ((n : Int) == 0) = false := by simp; omega
  rw [decide_eq_false h]
  go_enter Tryz.func110, Tryz.ntmps110
  go_wp2_with fail
  go_ret
  exact ⟨by first | rfl | simp [h2], Below.refl _ _⟩
set_option maxHeartbeats 1600000 in
theorem index_any (w : World) (b off cap : Nat) (ws : List (List ItemV)) (h6 : ws.length ≤ 6) (hc : WinsAt w b off ws) (hb : b < w.heap.size) :
  Calls Tryz.prog 123 #[.slice (some ⟨b, off, none⟩) ws.length cap, .func (.func 110) #[] #[]] w fun e w' => (∃ i : Int, e = .returned (.int .i64 i) ∧ (decide (0 ≤ i) = anyEmpty ws)) ∧ Below w.heap.size w w' := by
 have HC := hide hc
 clear hc
 go_enter Tryz.func123, Tryz.ntmps123
 go_wp2_with fail
 go_loopw [8] (fun iv wr => ∃ k : Nat, k ≤ ws.length ∧ iv = .int .i64 k ∧ Hid (∀ j (h : j < ws.length), j < k → ws[j] ≠ []) ∧ Hid (Below w.heap.size w wr)) (fun iv _ => ws.length - (intOf iv).toNat)
 case atStart => exact ⟨0, Nat.zero_le _, rfl, hide (fun j h hj => absurd hj (Nat.not_lt_zero _)), Below.refl _ _⟩
 case round =>
  obtain ⟨k, hk, rfl, HN, HB⟩ := hrel
  by_cases hlt : k < ws.length
  ·obtain ⟨v, c0, hv⟩ := (unhide HC).up hb (unhide HB) k hlt
   obtain ⟨a, c, rfl, -⟩ := hv
   by_cases he : ws[k].length = 0
   ·have HE := hide (show anyEmpty ws = true from List.any_eq_true.2 ⟨_, List.getElem_mem hlt, by rw [List.eq_nil_of_length_eq_zero he]; rfl⟩)
    have HQ := hide (empty_any a ws[k].length c)
    rw [decide_eq_true he] at HQ
    generalize ws[k].length = n at *
    clear he
    go_wp2_with (go_at_call 110; refine (unhide HQ _).mono ?_; rintro e w1 ⟨rfl, k1⟩; have B1 := hide ((unhide HB).trans (k1.mono (unhide HB).size)); clear k1)
    go_ret
    exact ⟨⟨k, rfl, by rw [unhide HE]; simp⟩, unhide B1⟩
   ·have HNX := hide (show ∀ j (h : j < ws.length), j < k + 1 → ws[j] ≠ [] from fun j h hj => by
     by_cases e : j = k
     ·subst e; intro e2; rw [e2] at he; exact he rfl
     ·exact unhide HN j h (by omega))
    have HQ := hide (empty_any a ws[k].length c)
    rw [decide_eq_false he] at HQ
    generalize ws[k].length = n at *
    clear he
    go_wp2_with (go_at_call 110; refine (unhide HQ _).mono ?_; rintro e w1 ⟨rfl, k1⟩; have B1 := hide ((unhide HB).trans (k1.mono (unhide HB).size)); clear k1)
    clear c0
    go_roundw
    case rel => exact ⟨k + 1, by omega, by go_num, HNX, B1⟩
    case measure => simp [intOf]; omega
  ·obtain rfl : k = ws.length := by omega
   have HE := hide (show anyEmpty ws = false from List.any_eq_false.2 fun x hx => by
    obtain ⟨j, hj, rfl⟩ := List.getElem_of_mem hx
    have := unhide HN j hj hj
    simpa using this)
   go_wp2_with fail
   go_ret
   exact ⟨⟨-1, rfl, by rw [unhide HE]; rfl⟩, unhide HB⟩
theorem contains_any (w : World) (b off cap : Nat) (ws : List (List ItemV)) (h6 : ws.length ≤ 6) (hc : WinsAt w b off ws) (hb : b < w.heap.size) :
  Calls Tryz.prog 111 #[.slice (some ⟨b, off, none⟩) ws.length cap, .func (.func 110) #[] #[]] w fun e w' => e = .returned (.bool (anyEmpty ws)) ∧ Below w.heap.size w w' := by
 have HI := hide (index_any w b off cap ws h6 hc hb)
 clear hc
 go_enter Tryz.func111, Tryz.ntmps111
 go_wp2_with (go_at_call 123; refine (unhide HI).mono ?_; rintro e w1 ⟨⟨i, rfl, hi⟩, k1⟩; have HE := hide hi; have B1 := hide k1; clear hi k1)
 go_ret
 exact ⟨by rw [← unhide HE]; rfl, unhide B1⟩
theorem any_empty {ws : List (List ItemV)} (h : anyEmpty ws = true) : ∃ w ∈ ws, w = [] := by
 obtain ⟨x, hx, e⟩ := List.any_eq_true.1 h
 exact ⟨x, hx, by simpa using e⟩
theorem none_empty {ws : List (List ItemV)} (h : anyEmpty ws = false) : ∀ x ∈ ws, x ≠ [] := fun x hx e => by
 have := List.any_eq_false.1 h x hx
 rw [e] at this
 exact this rfl
set_option maxRecDepth 20000 in
set_option maxHeartbeats 1600000 in
theorem implBest_any (ws : List (List ItemV)) (v : Value) (w : World) (hs : SmallItemSS ws) (h : ItemSSRd w v ws) :
  Calls Tryz.prog 92 #[v] w fun e w' => ∃ v S, e = .returned (.tuple #[v, .bool (bestB ws)]) ∧ Hid (IntSOwn S w' v (bestV ws)) ∧ Hid (∀ k ∈ S, w.heap.size ≤ k) ∧ Below w.heap.size w w' := by
 have HK := hide (fun (W : World) (bW : Below w.heap.size w W) => windowsOk_any ws v W hs (h.up bW))
 obtain ⟨a, c, rfl, h⟩ := h
 cases hw : winsB ws
 ·have HB := hide (best_no (ws := ws) (.inl hw))
  rw [hw] at HK
  clear hw h hs
  go_enter Tryz.func92, Tryz.ntmps92
  go_wp2_with (go_at_call 87; refine (unhide HK _ (Below.refl _ _)).mono ?_; rintro e w1 ⟨rfl, k1⟩; have B1 := hide k1; clear k1)
  refine bodyPost_ret (v := .tuple #[.slice none 0 0, .bool false]) ?_ rfl ?_
  ·simp [results, Tryz.results92, go_sem]
  exact ⟨_, [], by rw [(unhide HB).2], by rw [(unhide HB).1]; exact hide (.inl ⟨rfl, rfl, _, _, rfl⟩), hide (by simp), unhide B1⟩
 ·obtain ⟨h1, h6⟩ := winsB_len hw
  rcases h with rfl | ⟨b, off, rfl, hb, hc⟩
  ·simp at h1
  have HC := hide (fun (W : World) (bW : Below w.heap.size w W) => contains_any W b off c ws h6 (hc.up hb bW) (Nat.lt_of_lt_of_le hb bW.size))
  cases he : anyEmpty ws
  ·have HN := hide (fun (W : World) (bW : Below w.heap.size w W) => newChooser_any W b off c ws hs hw (none_empty he) (hc.up hb bW) (Nat.lt_of_lt_of_le hb bW.size))
   have hl := lasts_in (none_empty he)
   have HG := hide (fun (W X : World) (nn : Nat) (D : DataW Unit) (G : ByteArray → Hd) (gp pc : Nat) (bW : Below w.heap.size w W) (hnn : nn ≤ 10000000) (hI : ChIs W X (shC ws) (.slice (some ⟨b, off, none⟩) ws.length c) nn D G (.slice (some ⟨gp, 0, none⟩) ws.length pc) (lasts ws)) => great_any hs hw (hc.up hb bW) (Nat.lt_of_lt_of_le hb bW.size) hnn hI hl.1 hl.2)
   rw [hw] at HK
   rw [he] at HC
   clear hw hs hc he hl
   go_enter Tryz.func92, Tryz.ntmps92
   go_wp2_with (first
    | (go_at_call 87; refine (unhide HK _ (Below.refl _ _)).mono ?_; rintro e w1 ⟨rfl, k1⟩; have B1 := hide k1; clear k1)
    | (go_at_call 111; refine (unhide HC _ (unhide B1)).mono ?_; rintro e w2 ⟨rfl, k2⟩; have B2 := hide ((unhide B1).trans (k2.mono (unhide B1).size)); clear k2)
    | (go_at_call 112; refine (unhide HN _ (unhide B2)).mono ?_; rintro e w3 ⟨rfl, nn, D, G, gp, pc, HNN, HCI⟩)
    | (go_at_call 113; refine (unhide HG _ _ nn D G gp pc (unhide B2) (unhide HNN) (unhide HCI)).mono ?_; rintro e w4 ⟨v4, S4, rfl, HO, HS4, k4⟩; have B4 := hide ((unhide B2).trans (k4.mono (unhide B2).size)); have HS5 := hide (show ∀ k ∈ S4, w.heap.size ≤ k from fun k hk => Nat.le_trans (unhide B2).size (unhide HS4 k hk)); clear k4)
    | fail)
   refine bodyPost_ret (v := .tuple #[v4, .bool (bestB ws)]) ?_ rfl ?_
   ·simp [results, Tryz.results92, go_sem]
   exact ⟨_, S4, rfl, HO, HS5, unhide B4⟩
  ·have HB := hide (best_no (ws := ws) (.inr (empty_none (any_empty he))))
   rw [hw] at HK
   rw [he] at HC
   clear hw hs hc he
   go_enter Tryz.func92, Tryz.ntmps92
   go_wp2_with (first
    | (go_at_call 87; refine (unhide HK _ (Below.refl _ _)).mono ?_; rintro e w1 ⟨rfl, k1⟩; have B1 := hide k1; clear k1)
    | (go_at_call 111; refine (unhide HC _ (unhide B1)).mono ?_; rintro e w2 ⟨rfl, k2⟩; have B2 := hide ((unhide B1).trans (k2.mono (unhide B1).size)); clear k2)
    | fail)
   refine bodyPost_ret (v := .tuple #[.slice none 0 0, .bool false]) ?_ rfl ?_
   ·simp [results, Tryz.results92, go_sem]
   exact ⟨_, [], by rw [(unhide HB).2], by rw [(unhide HB).1]; exact hide (.inl ⟨rfl, rfl, _, _, rfl⟩), hide (by simp), unhide B2⟩
theorem small_best (ws : List (List ItemV)) (hs : SmallItemSS ws) : SmallIntS (bestV ws) := by
 have nil : SmallIntS [] := ⟨by simp, fun t h => by simp at h⟩
 unfold bestV
 cases hb : bestO ws with
 | none => exact nil
 | some b =>
  have hx : BestIs ws (some b) := by
   unfold bestO at hb
   split at hb
   ·rename_i h
    have := Classical.choose_spec h
    rwa [hb] at this
   ·cases hb
  obtain ⟨hw, hl, -, hp⟩ := hx
  have h6 := (winsB_len hw).2
  refine ⟨by simp; omega, fun t ht => ?_⟩
  obtain ⟨k, hk, rfl⟩ := List.getElem_of_mem ht
  simp only [Option.getD_some] at hk ⊢
  obtain ⟨p, h1, h2⟩ := hp k (by omega)
  obtain ⟨q, e1, e2, -⟩ := inR_at h1.1 (show k < ws.length by omega)
  have h4 := wins_four4 hw _ (List.getElem_mem (show k < ws.length by omega))
  have hg : b.getD k 0 = b[k] := by rw [List.getD_eq_getElem?_getD, List.getElem?_eq_getElem hk]; rfl
  show IntFit b[k]
  rw [← hg, ← h2, e1]
  constructor <;> omega
end Go.Proofs.YtknkdbfgfcgkiaaGreatDoor

set_option linter.unusedVariables false
namespace Go.Proofs.YtknkdbfgfcgkiaaGreatDoor
open Go.RowKit Go.Maps Go.Deep

set_option maxHeartbeats 6400000 in
theorem implChJoin_any (ws : List (List ItemV)) (v : Value) (ps : List Int) (u : Value) (w : World) (hs : SmallItemSS ws) (hsp : SmallIntS ps) (h : ItemSSRd w v ws) (hp : IntSRd w u ps) :
  Calls Tryz.prog 93 #[v, u] w fun e w' => ∃ v S, e = .returned (.tuple #[v, .bool (chB ws ps)]) ∧ Hid (MarkSOwn S w' v (chV ws ps)) ∧ Hid (∀ k ∈ S, w.heap.size ≤ k) ∧ Below w.heap.size w w' := by
 have HK := hide (implChoice_any ws v ps u w hs hsp h hp)
 have hsl := hs.1
 have hpl := hsp.1
 cases hch : choiceB ws ps
 ·rw [hch] at HK
  obtain ⟨hE1, hE2⟩ := ch_no hch
  rw [hE1, hE2]
  obtain ⟨a, n, c, rfl⟩ := h.form
  obtain ⟨a2, n2, c2, rfl⟩ := hp.form
  clear h hp hch hE1 hE2
  go_enter Tryz.func93, Tryz.ntmps93
  go_wp2_with fail
  refine (unhide HK).mono ?_
  rintro e w1 ⟨rfl, b1⟩
  go_wp2_with fail
  refine bodyPost_ret (v := .tuple #[.slice none 0 0, .bool false]) ?_ rfl ?_
  ·simp [results, Tryz.results93, go_sem]
  exact ⟨_, [], rfl, hide (.inl ⟨rfl, rfl, none, 0, rfl⟩), hide (by simp), b1⟩
 rw [hch] at HK
 obtain ⟨hwin, hlen, hin⟩ := choice_parts hch
 obtain ⟨h1, h6⟩ := winsB_len hwin
 obtain ⟨a, c, rfl, h⟩ := h
 obtain ⟨a2, c2, rfl, hp⟩ := hp
 rcases h with rfl | ⟨b, off, rfl, hb, hc⟩
 ·simp at h1
 rcases hp with rfl | ⟨b2, off2, rfl, hb2, hpc⟩
 ·simp at hlen; omega
 have HL := hide hlen
 have HIN := hide hin
 have HC := hide hc
 have HP := hide hpc
 have HS := hide hs
 have HCH := hide hch
 rw [← hlen] at HK ⊢
 have hl6 : ps.length ≤ 6 := by omega
 clear hc hpc hs hch hlen h1 h6 hsl hpl hin hwin
 go_enter Tryz.func93, Tryz.ntmps93
 go_wp2_with fail
 refine (unhide HK).mono ?_
 rintro e w1 ⟨rfl, b1⟩
 have B1 := hide b1
 clear b1
 go_wp2_with fail
 go_loopw [6, 17] (fun o i wr => ∃ (k : Nat) (x : List MarkV) (a : Option Addr) (n cc : Nat) (So : List Nat), k ≤ ps.length ∧ i = .int .i64 k ∧ o = .slice a n cc ∧ Hid (MarkSOwn So wr (.slice a n cc) x) ∧ Hid (∀ k ∈ So, w.heap.size ≤ k) ∧ Hid (jnTo ws ps k = some x) ∧ Hid (Below w.heap.size w wr)) (fun _ i _ => ps.length - (intOf i).toNat)
 case atStart => exact ⟨0, [], none, 0, 0, [], Nat.zero_le _, rfl, rfl, hide (.inl ⟨rfl, rfl, none, 0, rfl⟩), hide (by simp), hide rfl, B1⟩
 case round =>
  obtain ⟨k, x, oa, on, oc, So, hk, rfl, rfl, HX, HXL, HJ, HB⟩ := hrel
  by_cases hlt : k < ps.length
  ·have hkw : k < ws.length := by have := unhide HL; omega
   obtain ⟨q1, bi, oi, ni, ci, ma, mn, mc, e1, hq1, hni, c1, d1, hm1, hsm1, -⟩ := choice_reach (unhide HS) ((unhide HC).up hb (unhide HB)) hlt (Nat.le_of_eq (unhide HL)) (unhide HIN)
   have p1 := (unhide HP).up hb2 (unhide HB) k hlt
   rw [e1] at p1
   have HA := hide (fun W (bW : Below wr.heap.size wr W) => implJoin_kit x (.slice oa on oc) (stampAt ws ps k) (.slice ma mn mc) W (jn_small (unhide HS) k x (unhide HJ)) hsm1 ((unhide HX).rd.up bW) (hm1.up bW))
   have HNO := hide (fun h => jn_stop (ws := ws) hlt (unhide HJ) h)
   have HYES := hide (fun h => jn_step (unhide HJ) h)
   clear hm1 hsm1 e1
   generalize joinV x (stampAt ws ps k) = y at *
   generalize joinOkB x (stampAt ws ps k) = r at *
   cases r
   ·have HE1 := hide (unhide HNO rfl).1
    have HE2 := hide (unhide HNO rfl).2
    clear HNO HYES
    go_wp2_with fail
    refine (unhide HA _ (Below.refl _ _)).mono ?_
    rintro e w2 ⟨jv, Sj, rfl, HM, HML, hb2'⟩
    all_goals
     have hb3 := hide ((unhide HB).trans (Below.mono hb2' (unhide HB).size))
     obtain ⟨ja, jn, jc, rfl⟩ := (unhide HM).rd.form
     clear c1 d1 p1 hb2'
     go_wp2_with fail
     refine bodyPost_ret (v := .tuple #[.slice none 0 0, .bool false]) ?_ rfl ?_
     ·simp [results, Tryz.results93, go_sem]
     rw [unhide HE1, unhide HE2]
     exact ⟨_, [], rfl, hide (.inl ⟨rfl, rfl, none, 0, rfl⟩), hide (by simp), unhide hb3⟩
   ·have HJ2 := hide (unhide HYES rfl)
    clear HNO HYES
    go_wp2_with fail
    refine (unhide HA _ (Below.refl _ _)).mono ?_
    rintro e w2 ⟨jv, Sj, rfl, HM, HML, hb2'⟩
    all_goals
     have hb3 := hide ((unhide HB).trans (Below.mono hb2' (unhide HB).size))
     obtain ⟨ja, jn, jc, rfl⟩ := (unhide HM).rd.form
     have HML2 := hide (show ∀ k ∈ Sj, w.heap.size ≤ k from fun k hk => Nat.le_trans (unhide HB).size (unhide HML k hk))
     clear c1 d1 p1 hb2'
     go_wp2_with fail
     go_roundw
     case rel => exact ⟨k + 1, y, ja, jn, jc, Sj, by omega, by go_num, rfl, HM, HML2, HJ2, hb3⟩
     case measure => simp [intOf]; omega
  ·obtain rfl : k = ps.length := by omega
   obtain ⟨hE1, hE2⟩ := ch_yes (unhide HCH) (unhide HJ)
   have HE1 := hide hE1
   have HE2 := hide hE2
   clear hE1 hE2
   go_wp2_with fail
   refine bodyPost_ret (v := .tuple #[.slice oa on oc, .bool true]) ?_ rfl ?_
   ·simp [results, Tryz.results93, go_sem]
   rw [unhide HE1, unhide HE2]
   exact ⟨_, So, rfl, HX, HXL, unhide HB⟩
end Go.Proofs.YtknkdbfgfcgkiaaGreatDoor
