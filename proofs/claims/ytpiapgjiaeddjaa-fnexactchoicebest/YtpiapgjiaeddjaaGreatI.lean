/-
  The program's greatest.
-/
import Derived.Test.YtpiapgjiaeddjaaLateI
import Derived.Test.YtpiapgjiaeddjaaMerged43
import Derived.Deep.LoopGhost
import Derived.WalkMore
set_option linter.unusedVariables false
namespace Go.Proofs.Ytpiapgjiaeddjaa
open Go.RowKit Go.Maps Go.Deep

def sumQ (q : List Int) : Nat := (q.map Int.toNat).sum
theorem sumQ_set : ∀ (q : List Int) (a : Nat), a < q.length → 1 ≤ q.getD a 0 → sumQ (q.set a (q.getD a 0 - 1)) < sumQ q
  | [], a, h, _ => by simp at h
  | x :: xs, 0, _, h1 => by
    simp only [List.getD_cons_zero] at h1 ⊢
    simp only [sumQ, List.set_cons_zero, List.map_cons, List.sum_cons]
    omega
  | x :: xs, a + 1, h, h1 => by
    simp only [List.getD_cons_succ] at h1 ⊢
    have := sumQ_set xs a (by simpa using h) h1
    simp only [sumQ, List.set_cons_succ, List.map_cons, List.sum_cons] at this ⊢
    omega
theorem ChIs.sees {w0 w : World} {b off cap nn gp pc : Nat} {D : DataW Unit} {G : ByteArray → Hd} {ws : List (List ItemV)} {sh : ByteArray → List Int} {q : List Int} (h : ChIs w0 w sh (.slice (some ⟨b, off, none⟩) ws.length cap) nn D G (.slice (some ⟨gp, 0, none⟩) ws.length pc) q) (hb : b < w0.heap.size) (hc : WinsAt w0 b off ws) (hq : q.length = ws.length) : Sees w (w0.heap.size + 1) ws q := by
  obtain ⟨⟨b0, b1, -⟩, -⟩ := h.box.three
  exact ⟨b, off, cap, gp, pc, b0, b1, Nat.lt_of_lt_of_le hb h.bel.size, h.pick.lt gp rfl, hc.up hb h.bel, fun i hi => by
    rw [Nat.zero_add, h.pick.cellAt hi, List.getD_eq_getElem?_getD, List.getElem?_eq_getElem hi]
    rfl⟩
/-- one place is lowered -/
theorem ChIs.lower {w0 w : World} {nn gp n pc : Nat} {D : DataW Unit} {G : ByteArray → Hd} {wv : Value} {sh : ByteArray → List Int} {q : List Int} (h : ChIs w0 w sh wv nn D G (.slice (some ⟨gp, 0, none⟩) n pc) q) (a : Nat) (x : Int) : ChIs w0 (w.setCell ⟨gp, a, none⟩ (.int .i64 x)) sh wv nn D G (.slice (some ⟨gp, 0, none⟩) n pc) (q.set a x) := by
  have hge : w0.heap.size + 2 ≤ gp := h.pick.ge gp rfl
  have t : Turn [gp] w (w.setCell ⟨gp, a, none⟩ (.int .i64 x)) := (Turn.refl _ w).setCell (by simp) a _
  exact ⟨h.map.setCell (by simp; omega) _, h.rows.turn t (fun k hk => .inr (by simp at hk; subst hk; rfl)), h.pick.set a x, h.box.turn t (by simp; omega), h.bel.trans (t.below h.bel.size (fun k hk => by simp at hk; omega))⟩
set_option maxRecDepth 20000 in
set_option maxHeartbeats 3200000 in
theorem great_any {w0 w : World} {b off cap nn gp pc : Nat} {D : DataW Unit} {G : ByteArray → Hd} {ws : List (List ItemV)} (hs : SmallItemSS ws) (hw : winsB ws = true) (hc : WinsAt w0 b off ws) (hb : b < w0.heap.size) (hnn : nn ≤ 10000000) (hI : ChIs w0 w (shC ws) (.slice (some ⟨b, off, none⟩) ws.length cap) nn D G (.slice (some ⟨gp, 0, none⟩) ws.length pc) (lasts ws)) (hq : InR ws (lasts ws)) (hu : UB ws (lasts ws)) :
    Calls Try.prog 21 #[.pointer (some ⟨w0.heap.size + 1, 0, none⟩)] w fun e w' => ∃ v S, e = .returned (.tuple #[v, .bool (bestB ws)]) ∧ Hid (IntSOwn S w' v (bestV ws)) ∧ Hid (∀ k ∈ S, w0.heap.size ≤ k) ∧ Below w0.heap.size w0 w' := by
  have HI := hide hI
  have HS := hide hs
  have HW := hide hw
  have HC := hide hc
  have HQ := hide hq
  have HU := hide hu
  have HNN := hide hnn
  have b2 := hI.box.three.1.2.2
  clear hI hs hw hc hq hu hnn
  go_enter Try.func21, Try.ntmps21
  go_wp2_with fail
  go_step3
  go_wp2_with (first
    | (go_at_call 33; refine (keysFn_any _ _).mono ?_; rintro e w1 ⟨rfl, rfl⟩)
    | (go_at_call 32; refine (sorted_any (unhide HI).map (unhide HNN)).mono ?_; rintro e w2 ⟨v2, ts, rfl, K2, M2, L2, k2⟩; have C2 := hide ((unhide HI).up k2); clear k2)
    | fail)
  obtain ⟨va, vc, rfl, -⟩ : ∃ a c, v2 = .slice a ts.length c ∧ True := by
    obtain ⟨a, c, e, _⟩ := unhide K2
    exact ⟨a, c, e, trivial⟩
  have hgw : gp < w.heap.size := (unhide HI).pick.lt gp rfl
  have hts := (unhide L2).1
  have h6 := (winsB_len (unhide HW)).2
  clear HI b2
  go_step3
  go_wp2_with fail
  go_loopg [17] (sumQ (lasts ws)) (fun gh x17 wx => ∃ q : List Int, sumQ q ≤ gh ∧ Hid (InR ws q) ∧ Hid (UB ws q) ∧ Hid (ChIs w0 wx (shC ws) (.slice (some ⟨b, off, none⟩) ws.length cap) nn D G (.slice (some ⟨gp, 0, none⟩) ws.length pc) q) ∧ Hid (SrcRd w.heap.size wx (.slice va ts.length vc) ts))
  case atStart => exact ⟨lasts ws, Nat.le_refl _, HQ, HU, C2, K2⟩
  case round =>
    clear HQ HU C2 K2
    obtain ⟨q, hgq, HQ, HU, HI1, HK1⟩ := hrel
    have HQL := hide (show q.length = ws.length from (unhide HQ).1)
    go_wp2_with fail
    go_loopg [17] ts.length (fun g2 kv wy => ∃ k : Nat, k + g2 = ts.length ∧ kv = .int .i64 k ∧ Hid (∀ j (h : j < ts.length), j < k → EvenS ws q ts[j]) ∧ Hid (ChIs w0 wy (shC ws) (.slice (some ⟨b, off, none⟩) ws.length cap) nn D G (.slice (some ⟨gp, 0, none⟩) ws.length pc) q) ∧ Hid (SrcRd w.heap.size wy (.slice va ts.length vc) ts))
    case atStart => exact ⟨0, by omega, rfl, hide (fun j h hj => absurd hj (Nat.not_lt_zero _)), HI1, HK1⟩
    case round =>
      clear HI1 HK1
      obtain ⟨k, hkg, rfl, HE, HI, HK⟩ := hrel
      by_cases hlt : k < ts.length
      · obtain ⟨a', c', e, hin⟩ := unhide HK
        simp only [Value.slice.injEq, true_and] at e
        obtain ⟨rfl, rfl⟩ := e
        rcases hin with h0 | ⟨gs, rfl, hgs, hgl, hat⟩
        · rw [h0] at hlt; simp at hlt
        have s0 := hat k hlt
        have HM := hide (List.getElem_mem hlt : ts[k] ∈ ts)
        have HEK := hide (fun (hv : EvenS ws q ts[k]) => show ∀ j (h : j < ts.length), j < k + 1 → EvenS ws q ts[j] from fun j h hj => by
          by_cases e : j = k
          · subst e; exact hv
          · exact unhide HE j h (by omega))
        generalize ts[k] = s at *
        clear hat
        have hG := (unhide M2 s).1 (unhide HM)
        obtain ⟨⟨g, n, c⟩, hGs⟩ := Option.ne_none_iff_exists'.1 hG
        have hrow := (unhide HI).rows.row s
        rw [hGs] at hrow
        simp only [hdV] at hrow
        obtain ⟨ns, hns, hnl, hin2, hall⟩ := shC_nats ws s
        have hne : shC ws s ≠ [] := (unhide HI).rows.non s hG
        have hn0 : 0 < ns.length := List.length_pos_iff.2 (fun e => hne (by rw [hns, e]; rfl))
        have hnn2 : n = ns.length := by
          obtain ⟨x, y, e⟩ := hrow.form
          simp only [Value.slice.injEq] at e
          rw [e.2.1, hns, List.length_map]
        subst hnn2
        have hcs : ∀ i (h : i < ns.length), wr.cell? ⟨g, i, none⟩ = some (.int .i64 ((ns[i] : Nat) : Int)) := fun i hi => by
          rw [hrow.cellAt (i := i) (by rw [hns, List.length_map]; exact hi), hns]
          simp [List.getD_eq_getElem?_getD, hi]
        have HL := hide (latest_any ((unhide HI).sees hb (unhide HC) (unhide HQL)) (unhide HS) h6 (unhide HQ) (unhide HI).map (unhide HI).box.three.1.2.2 (s := s) ((unhide L2).2 _ (unhide HM)) hGs hcs hn0 (by omega) (fun a ha => (hin2 a ha).1) (fun i => verC ws q i s) (fun _ => rfl) (maxFP (fun i => verC ws q i s) ns (ns.length - 1)) (minFP (fun i => verC ws q i s) ns (ns.length - 1)) rfl rfl)
        have HEV := hide (even_of (V := fun i => verC ws q i s) (unhide HW) (unhide HQ) (fun _ => rfl) hn0 hall)
        have HLA := hide (late_of (V := fun i => verC ws q i s) (unhide HW) (unhide HQ) (unhide HU) (fun _ => rfl) hn0 hin2 rfl)
        clear hcs hrow hall hin2 hne hG hns
        generalize maxFP (fun i => verC ws q i s) ns (ns.length - 1) = mx at *
        generalize minFP (fun i => verC ws q i s) ns (ns.length - 1) = mn at *
        by_cases hl : verC ws q mn s < verC ws q mx s
        · obtain ⟨hmx, hz, hnz⟩ := unhide HLA hl
          rw [decide_eq_true hl] at HL
          obtain ⟨p, hp1, hp2, -⟩ := inR_at (unhide HQ) hmx
          have hp4 : p < 4 := by have := wins_four4 (unhide HW) _ (List.getElem_mem hmx); omega
          have hml : mx < q.length := by rw [unhide HQL]; exact hmx
          have HSM := hide (fun (h1 : p ≠ 0) => sumQ_set q mx hml (by rw [hp1]; omega))
          have HPC := hide (fun (X : World) (h : ChIs w0 X (shC ws) (.slice (some ⟨b, off, none⟩) ws.length cap) nn D G (.slice (some ⟨gp, 0, none⟩) ws.length pc) q) => h.pick.cellAt hml)
          rw [hp1] at hz hnz HPC HSM
          have HZ := hide hz
          have HNZ := hide hnz
          have hm6 : mx < 6 := by omega
          clear hl hz hnz HLA HEV hp1 hp2
          by_cases hp0 : p = 0
          · subst hp0
            have HB := hide (best_no (ws := ws) (.inr (unhide HZ rfl)))
            go_wp2_with (go_at_call 34; refine (unhide HL).mono ?_; rintro e w5 ⟨rfl, k5⟩; have I5 := hide ((unhide HI).up k5); have b1 := (unhide I5).box.three.1.2.1; have p1 := unhide HPC _ (unhide I5); clear k5)
            try rw [Exit.noGoto_ret]
            refine bodyPost_ret (v := .tuple #[.slice none 0 0, .bool false]) ?_ rfl ?_
            · simp [results, Try.results21, go_sem]
            exact ⟨_, [], by rw [(unhide HB).2], by rw [(unhide HB).1]; exact hide (.inl ⟨rfl, rfl, _, _, rfl⟩), hide (by simp), (unhide I5).bel⟩
          · have hq2 := unhide HNZ (by omega)
            have HQ2 := hide hq2.1
            have HU2 := hide hq2.2
            have hsm := unhide HSM hp0
            have hpe : ¬ ((p : Int) = 0) := by omega
            clear hq2
            go_wp2_with (go_at_call 34; refine (unhide HL).mono ?_; rintro e w5 ⟨rfl, k5⟩; have I5 := hide ((unhide HI).up k5); have S5 := hide ((unhide HK).turn (Turn.of_below (S := []) k5) (by simp)); have b1 := (unhide I5).box.three.1.2.1; have p1 := unhide HPC _ (unhide I5); have f1 := (unhide I5).pick.writable mx; clear k5)
            have I6 := hide ((unhide I5).lower mx ((p : Int) - 1))
            have S6 := hide ((unhide S5).turn ((Turn.refl [gp] w5).setCell (g := gp) (by simp) mx (.int .i64 ((p : Int) - 1))) (fun k hk => by simp at hk; omega))
            clear b1 p1 f1
            go_roundg (sumQ (q.set mx ((p : Int) - 1)))
            case measure => omega
            case rel => exact ⟨_, Nat.le_refl _, HQ2, HU2, I6, S6⟩
        · have HE2 := hide (unhide HEK (unhide HEV hl))
          rw [decide_eq_false hl] at HL
          clear HLA HEV hl HEK
          go_wp2_with (go_at_call 34; refine (unhide HL).mono ?_; rintro e w5 ⟨rfl, k5⟩; have I5 := hide ((unhide HI).up k5); have S5 := hide ((unhide HK).turn (Turn.of_below (S := []) k5) (by simp)); clear k5)
          go_roundg (ts.length - (k + 1))
          case measure => omega
          case rel => exact ⟨k + 1, by omega, by go_num, HE2, I5, S5⟩
      · obtain rfl : k = ts.length := by omega
        have HB := hide (best_yes (best_of_top (unhide HW) (all_even (unhide HW) (unhide HQ) (fun s hs => by
          have hm := (unhide M2 s).2 ((has_list (unhide HI).rows s).2 hs)
          obtain ⟨j, hj, rfl⟩ := List.getElem_of_mem hm
          exact unhide HE j hj hj)) (unhide HU)))
        have b1 := (unhide HI).box.three.1.2.1
        go_wp2_with fail
        try rw [Exit.noGoto_ret]
        refine bodyPost_ret (v := .tuple #[.slice (some ⟨gp, 0, none⟩) ws.length pc, .bool true]) ?_ rfl ?_
        · simp [results, Try.results21, go_sem]
        refine ⟨_, [gp], by rw [(unhide HB).2], ?_, hide (fun k hk => by simp at hk; have := (unhide HI).pick.ge gp rfl; omega), (unhide HI).bel⟩
        rw [(unhide HB).1]
        exact hide (.inr ⟨gp, 0, pc, rfl, by rw [unhide HQL], (unhide HI).pick.lt gp rfl, fun i hi => by
          rw [Nat.zero_add, (unhide HI).pick.cellAt hi, List.getD_eq_getElem?_getD, List.getElem?_eq_getElem hi]
          rfl, fun i _ => (unhide HI).pick.writable _⟩)
end Go.Proofs.Ytpiapgjiaeddjaa
