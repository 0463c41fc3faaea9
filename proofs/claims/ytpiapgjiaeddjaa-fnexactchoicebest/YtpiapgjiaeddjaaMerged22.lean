/-
  StampOrder of the specification, and that both sides answer the same.
-/
/-
  Windows: the program's comesBehind.
-/
import Derived.Test.YtpiapgjiaeddjaaSideSet
import Derived.Test.YtpiapgjiaeddjaaOrderI
import Derived.Test.YtpiapgjiaeddjaaMerged19
import Derived.Test.YtpiapgjiaeddjaaWinS
set_option linter.unusedVariables false
namespace Go.Proofs.Ytpiapgjiaeddjaa
open Go.RowKit Go.Maps Go.Deep

/-- has the second one each mark of the first one, with at least its version? -/
def belowB (xa xb : List MarkV) : Bool := xa.all fun x => !decide (getV xb x.a0 < x.a1)
theorem below_more {xa xb : List MarkV} (ha : mstampB xa = true) (hb : mstampB xb = true) : belowB xa xb = !moreP (sideL xa xb) := by
  have aa := asc_of_stamp ha
  have ab := asc_of_stamp hb
  have pb := pos_of_stamp hb
  rw [Bool.eq_iff_iff]
  unfold belowB moreP
  rw [List.all_eq_true, Bool.not_eq_true', List.any_eq_false]
  constructor
  · intro h p hp
    obtain ⟨s, hs, rfl⟩ := (side_mem xa xb aa ab p).1 hp
    show ¬ decide (getV xb s < getV xa s) = true
    simp only [decide_eq_true_eq]
    by_cases e : srcIn s xa
    · obtain ⟨x, hx, rfl⟩ := e
      have := h x hx
      rw [getV_mem aa hx]
      simpa using this
    · rw [getV_not e]
      by_cases e2 : srcIn s xb
      · obtain ⟨y, hy, rfl⟩ := e2
        rw [getV_mem ab hy]
        have := pb y hy
        omega
      · rw [getV_not e2]; omega
  · intro h x hx
    have hp := h _ ((side_mem xa xb aa ab (pairOf xa xb x.a0)).2 ⟨x.a0, .inl ⟨x, hx, rfl⟩, rfl⟩)
    have hp2 : ¬ decide (getV xb x.a0 < getV xa x.a0) = true := hp
    rw [getV_mem aa hx] at hp2
    simpa using hp2
theorem below_less {xa xb : List MarkV} (ha : mstampB xa = true) (hb : mstampB xb = true) : belowB xb xa = !lessP (sideL xa xb) := by
  have aa := asc_of_stamp ha
  have ab := asc_of_stamp hb
  have pa := pos_of_stamp ha
  rw [Bool.eq_iff_iff]
  unfold belowB lessP
  rw [List.all_eq_true, Bool.not_eq_true', List.any_eq_false]
  constructor
  · intro h p hp
    obtain ⟨s, hs, rfl⟩ := (side_mem xa xb aa ab p).1 hp
    show ¬ decide (getV xa s < getV xb s) = true
    simp only [decide_eq_true_eq]
    by_cases e : srcIn s xb
    · obtain ⟨x, hx, rfl⟩ := e
      have := h x hx
      rw [getV_mem ab hx]
      simpa using this
    · rw [getV_not e]
      by_cases e2 : srcIn s xa
      · obtain ⟨y, hy, rfl⟩ := e2
        rw [getV_mem aa hy]
        have := pa y hy
        omega
      · rw [getV_not e2]; omega
  · intro h x hx
    have hp := h _ ((side_mem xa xb aa ab (pairOf xa xb x.a0)).2 ⟨x.a0, .inr ⟨x, hx, rfl⟩, rfl⟩)
    have hp2 : ¬ decide (getV xa x.a0 < getV xb x.a0) = true := hp
    rw [getV_mem ab hx] at hp2
    simpa using hp2
theorem bel_no {xa xb : List MarkV} {k : Nat} (hk : k < xa.length) (h : getV xb xa[k].a0 < xa[k].a1) : belowB xa xb = false := by
  unfold belowB
  rw [List.all_eq_false]
  exact ⟨_, List.getElem_mem hk, by simpa using h⟩
theorem bel_yes {xa xb : List MarkV} (h : ∀ j (hj : j < xa.length), xa[j].a1 ≤ getV xb xa[j].a0) : belowB xa xb = true := by
  unfold belowB
  rw [List.all_eq_true]
  intro x hx
  obtain ⟨j, hj, rfl⟩ := List.getElem_of_mem hx
  simpa using h j hj
set_option maxHeartbeats 1600000 in
theorem l13Below_row (w : World) (b off ca : Nat) (vb : Value) (xa xb : List MarkV) (hl : (xa.length : Int) ≤ 12) (hsb : SmallMarkS xb) (hc : MarkAt w b off xa) (hb : b < w.heap.size) (hB : MarkSRd w vb xb) :
    Calls Try.prog 66 #[.slice (some ⟨b, off, none⟩) xa.length ca, vb] w fun e w' => e = .returned (.bool (belowB xa xb)) ∧ Below w.heap.size w w' := by
  have HG := hide (fun (s : ByteArray) W (bb : Below w.heap.size w W) => (l13Get_any xb vb s W hsb (hB.up bb)).mono (R' := fun e w' => e = .returned (.int .i64 (getV xb s)) ∧ Below W.heap.size W w') (fun e w' ⟨h1, h2⟩ => ⟨h1, by rw [h2]; exact Below.refl _ _⟩))
  have HC := hide hc
  obtain ⟨a2, n2, c2, rfl⟩ := hB.form
  clear hc hB hsb
  go_enter Try.func66, Try.ntmps66
  go_wp2_with fail
  go_loopw [5] (fun i wr => ∃ k : Nat, k ≤ xa.length ∧ i = .int .i64 k ∧ Hid (∀ j (hj : j < xa.length), j < k → xa[j].a1 ≤ getV xb xa[j].a0) ∧ Hid (Below w.heap.size w wr)) (fun i _ => xa.length - (intOf i).toNat)
  case atStart => exact ⟨0, Nat.zero_le _, rfl, fun j _ hj => absurd hj (Nat.not_lt_zero _), Below.refl _ _⟩
  case round =>
    obtain ⟨k, hk, rfl, HN, HB⟩ := hrel
    by_cases hlt : k < xa.length
    · obtain ⟨c0, c1⟩ := (unhide HC).below (unhide HB) hb k hlt
      have HNO := hide (fun h => bel_no (xb := xb) hlt h)
      have HYES := hide (show xa[k].a1 ≤ getV xb xa[k].a0 → ∀ j (hj : j < xa.length), j < k + 1 → xa[j].a1 ≤ getV xb xa[j].a0 from fun h j hj hjk => by
        by_cases e : j = k
        · subst e; exact h
        · exact unhide HN j hj (by omega))
      have HG1 := hide (fun (x : LaterW wr) => unhide HG xa[k].a0 x.to ((unhide HB).trans (x.bel.mono (unhide HB).size)))
      obtain ⟨g, HGE⟩ : ∃ g, Hid (getV xb xa[k].a0 = g) := ⟨_, hide rfl⟩
      rw [unhide HGE] at HG1
      simp only [unhide HGE] at HNO HYES
      clear HG HN
      generalize xa[k].a0 = nm at *
      generalize xa[k].a1 = vl at *
      clear HGE
      have r0 : ∀ x : LaterW wr, x.to.cell? ⟨b, off + k * 2, none⟩ = some (.string nm) := fun x => x.cell c0
      have r1 : ∀ x : LaterW wr, x.to.cell? ⟨b, off + k * 2 + 1, none⟩ = some (.int .i64 vl) := fun x => x.cell c1
      by_cases h1 : g < vl
      · have HE := hide (unhide HNO h1)
        clear HYES HNO
        go_wp2_with fail
        refine wp_region_later (by kernel_rfl) (by kernel_rfl) ?_
        repeat (go_big_quiet_step ((go_at_call 57; exact quiet_ret (unhide HG1 _))))
        refine wpQuiet_nil ?_
        rintro _ ⟨x, rfl⟩
        have B2 := hide ((unhide HB).trans (x.bel.mono (unhide HB).size))
        go_wp2_with fail
        go_ret
        exact ⟨ret_bool (unhide HE).symm, unhide B2⟩
      · have HY := hide (unhide HYES (Int.not_lt.1 h1))
        clear HYES HNO
        go_wp2_with fail
        refine wp_region_later (by kernel_rfl) (by kernel_rfl) ?_
        repeat (go_big_quiet_step ((go_at_call 57; exact quiet_ret (unhide HG1 _))))
        refine wpQuiet_nil ?_
        rintro _ ⟨x, rfl⟩
        have B2 := hide ((unhide HB).trans (x.bel.mono (unhide HB).size))
        go_wp2_with fail
        go_roundw
        case rel => exact ⟨k + 1, by omega, by go_num, HY, B2⟩
        case measure => simp [intOf]; omega
    · have HE := hide (bel_yes (xb := xb) (fun j hj => unhide HN j hj (by omega)))
      go_wp2_with fail
      go_ret
      exact ⟨ret_bool (unhide HE).symm, unhide HB⟩
theorem l13Below_none (w : World) (a : Option Addr) (ca : Nat) (vb : Value) (xb : List MarkV) (hB : MarkSRd w vb xb) :
    Calls Try.prog 66 #[.slice a 0 ca, vb] w fun e w' => e = .returned (.bool (belowB [] xb)) ∧ Below w.heap.size w w' := by
  obtain ⟨a2, n2, c2, rfl⟩ := hB.form
  clear hB
  go_enter Try.func66, Try.ntmps66
  go_wp2_with fail
  refine wp_loop_rounds 1 ?_
  rw [rounds_succ]
  go_wp2_with fail
  go_ret
  exact ⟨rfl, Below.refl _ _⟩
theorem l13Below_any (xa : List MarkV) (va : Value) (xb : List MarkV) (vb : Value) (w : World) (hl : (xa.length : Int) ≤ 12) (hsb : SmallMarkS xb) (hA : MarkSRd w va xa) (hB : MarkSRd w vb xb) :
    Calls Try.prog 66 #[va, vb] w fun e w' => e = .returned (.bool (belowB xa xb)) ∧ Below w.heap.size w w' := by
  obtain ⟨a, ca, rfl, hA⟩ := hA
  rcases hA with rfl | ⟨b, off, rfl, hb, hc⟩
  · exact l13Below_none w a ca vb xb hB
  · exact l13Below_row w b off ca vb xa xb hl hsb hc hb hB
set_option maxHeartbeats 1600000 in
theorem specOrder_any (xa : List MarkV) (va : Value) (xb : List MarkV) (vb : Value) (w : World) (hsa : SmallMarkS xa) (hsb : SmallMarkS xb) (hA : MarkSRd w va xa) (hB : MarkSRd w vb xb) :
    Calls Try.prog 56 #[va, vb] w fun e w' => e = .returned (.int .i64 (orderOut xa xb)) ∧ Below w.heap.size w w' := by
  have HO1 := hide (fun W (bb : Below w.heap.size w W) => specStampOk_any xa va W hsa (hA.up bb))
  have HO2 := hide (fun W (bb : Below w.heap.size w W) => specStampOk_any xb vb W hsb (hB.up bb))
  have HB1 := hide (fun (h : (xa.length : Int) ≤ 12) W (bb : Below w.heap.size w W) => l13Below_any xa va xb vb W h hsb (hA.up bb) (hB.up bb))
  have HB2 := hide (fun (h : (xb.length : Int) ≤ 12) W (bb : Below w.heap.size w W) => l13Below_any xb vb xa va W h hsa (hB.up bb) (hA.up bb))
  obtain ⟨a, n, c, rfl⟩ := hA.form
  obtain ⟨a2, n2, c2, rfl⟩ := hB.form
  clear hA hB hsa hsb
  unfold orderOut
  cases oa : mstampB xa
  · rw [oa] at HO1
    clear HB1 HB2
    go_enter Try.func56, Try.ntmps56
    go_wp2_with fail
    refine (unhide HO1 _ (Below.refl _ _)).mono ?_
    rintro e w1 ⟨rfl, b1⟩
    have B1 := hide b1
    clear b1
    go_wp2_with fail
    go_ret
    exact ⟨rfl, unhide B1⟩
  · cases ob : mstampB xb
    · rw [oa] at HO1
      rw [ob] at HO2
      clear HB1 HB2
      go_enter Try.func56, Try.ntmps56
      go_wp2_with fail
      refine (unhide HO1 _ (Below.refl _ _)).mono ?_
      rintro e w1 ⟨rfl, b1⟩
      have B1 := hide b1
      clear b1
      go_wp2_with fail
      refine (unhide HO2 _ (unhide B1)).mono ?_
      rintro e w2 ⟨rfl, b2⟩
      have B2 := hide ((unhide B1).trans (b2.mono (unhide B1).size))
      clear b2
      go_wp2_with fail
      go_ret
      exact ⟨rfl, unhide B2⟩
    · have K1 := hide (unhide HB1 (by have := mstamp_len oa; omega))
      have K2 := hide (unhide HB2 (by have := mstamp_len ob; omega))
      rw [below_more oa ob] at K1
      rw [below_less oa ob] at K2
      rw [oa] at HO1
      rw [ob] at HO2
      have HE := hide (show orderS xa xb = orderB (lessP (sideL xa xb)) (moreP (sideL xa xb)) from rfl)
      generalize lessP (sideL xa xb) = L at *
      generalize moreP (sideL xa xb) = M at *
      clear HB1 HB2 oa ob
      cases L <;> cases M
      all_goals
        go_enter Try.func56, Try.ntmps56
        go_wp2_with fail
        refine (unhide HO1 _ (Below.refl _ _)).mono ?_
        rintro e w1 ⟨rfl, b1⟩
        have B1 := hide b1
        clear b1
        go_wp2_with fail
        refine (unhide HO2 _ (unhide B1)).mono ?_
        rintro e w2 ⟨rfl, b2⟩
        have B2 := hide ((unhide B1).trans (b2.mono (unhide B1).size))
        clear b2
        go_wp2_with fail
        refine (unhide K1 _ (unhide B2)).mono ?_
        rintro e w3 ⟨rfl, b3⟩
        have B3 := hide ((unhide B2).trans (b3.mono (unhide B2).size))
        clear b3
        go_wp2_with fail
        refine (unhide K2 _ (unhide B3)).mono ?_
        rintro e w4 ⟨rfl, b4⟩
        have B4 := hide ((unhide B3).trans (b4.mono (unhide B3).size))
        clear b4
        go_wp2_with fail
        go_ret
        exact ⟨by rw [unhide HE]; rfl, unhide B4⟩
end Go.Proofs.Ytpiapgjiaeddjaa

set_option linter.unusedVariables false
namespace Go.Proofs.Ytpiapgjiaeddjaa
open Go.RowKit Go.Maps Go.Deep

theorem ordSaid : OrdSaid orderOut := fun xa va xb vb w hsa hsb hA hB => specOrder_any xa va xb vb w hsa hsb hA hB
set_option maxHeartbeats 3200000 in
theorem comesBehind_any (xa : List MarkV) (va : Value) (xb : List MarkV) (vb : Value) (w : World) (hsa : SmallMarkS xa) (hsb : SmallMarkS xb) (hA : MarkSRd w va xa) (hB : MarkSRd w vb xb) :
    Calls Try.prog 69 #[va, vb] w fun e w' => e = .returned (.bool (aboveB orderOut xa xb)) ∧ Below w.heap.size w w' := by
  have HS := hide (fun W (bb : Below w.heap.size w W) => equalFunc_any xa va xb vb W hsa hsb (hA.up bb) (hB.up bb))
  have HO := hide (fun W (bb : Below w.heap.size w W) => implOrder_any xa va xb vb W hsa hsb (hA.up bb) (hB.up bb))
  obtain ⟨a, n, c, rfl⟩ := hA.form
  obtain ⟨a2, n2, c2, rfl⟩ := hB.form
  clear hA hB hsa hsb
  unfold aboveB
  generalize srcB xa xb = s at *
  generalize orderOut xa xb = o at *
  go_enter Try.func69, Try.ntmps69
  go_wp2_with fail
  refine (unhide HS _ (by go_grown)).mono ?_
  rintro e w1 ⟨rfl, b1⟩
  have B1 := hide (show Below w.heap.size w w1 from Below.trans (by go_grown) (b1.mono (by simp)))
  clear b1 HS
  cases s
  · go_wp2_with fail
    go_ret
    exact ⟨rfl, unhide B1⟩
  · go_wp2_with fail
    refine (unhide HO _ (unhide B1)).mono ?_
    rintro e w2 ⟨rfl, b2⟩
    have B2 := hide ((unhide B1).trans (b2.mono (unhide B1).size))
    clear b2
    go_wp2_with fail
    go_ret
    exact ⟨by simp, unhide B2⟩
end Go.Proofs.Ytpiapgjiaeddjaa
