/-
  The program's ChoiceAgrees.
-/
import Derived.Test.YtnijccmhajjdoaaMerged6
import Derived.Test.YtnijccmhajjdoaaChoiceI3
set_option linter.unusedVariables false
namespace Go.Proofs.Ytnijccmhajjdoaa
open Go.RowKit Go.Maps Go.Deep

def stsL (ws : List (List ItemV)) (ps : List Int) (n : Nat) : List (List MarkV) := (List.range n).map (stampAt ws ps)
theorem stsL_len (ws : List (List ItemV)) (ps : List Int) (n : Nat) : (stsL ws ps n).length = n := by simp [stsL]
theorem stsL_get (ws : List (List ItemV)) (ps : List Int) (n : Nat) {i : Nat} (h : i < (stsL ws ps n).length) : (stsL ws ps n)[i] = stampAt ws ps i := by simp [stsL]
theorem ag_stsL (ws : List (List ItemV)) (ps : List Int) (i : Nat) : agAll (stampAt ws ps i) (stsL ws ps i) = (List.range i).all (pairB ws ps i) := by
  unfold agAll stsL pairB
  rw [List.all_map]
  rfl
theorem ag_no {ws : List (List ItemV)} {ps : List Int} {i : Nat} (hi : i < ps.length) (h : agAll (stampAt ws ps i) (stsL ws ps i) = false) : agB ws ps = false := by
  rw [ag_stsL] at h
  unfold agB
  rw [List.all_eq_false]
  exact ⟨i, List.mem_range.2 hi, by rw [h]; simp⟩
theorem ag_yes {ws : List (List ItemV)} {ps : List Int} (h : ∀ i, i < ps.length → agAll (stampAt ws ps i) (stsL ws ps i) = true) : agB ws ps = true := by
  unfold agB
  rw [List.all_eq_true]
  intro i hi
  rw [← ag_stsL]
  exact h i (List.mem_range.1 hi)
theorem choice_pick_no {ws : List (List ItemV)} {ps : List Int} (h : pickB ws ps = false) : choiceB ws ps = false := by
  unfold pickB at h
  unfold choiceB
  cases h1 : winsB ws
  · simp
  · cases h2 : decide (ps.length = ws.length)
    · simp
    · rw [h1, h2] at h
      simp at h
      simp [h]
theorem choice_pick_yes {ws : List (List ItemV)} {ps : List Int} (h : pickB ws ps = true) : choiceB ws ps = agB ws ps := by
  unfold pickB at h
  unfold choiceB
  simp only [Bool.and_eq_true] at h
  rw [h.1, h.2.1, h.2.2]
  rfl
set_option maxHeartbeats 6400000 in
theorem implChoice_any (ws : List (List ItemV)) (v : Value) (ps : List Int) (u : Value) (w : World) (hs : SmallItemSS ws) (hsp : SmallIntS ps) (h : ItemSSRd w v ws) (hp : IntSRd w u ps) :
    Calls Try.prog 28 #[v, u] w fun e w' => e = .returned (.bool (choiceB ws ps)) ∧ Below w.heap.size w w' := by
  have HK := hide (chosen_any ws v ps u w hs hsp h hp)
  obtain ⟨a, n0, c, rfl⟩ := h.form
  obtain ⟨a2, n2, c2, rfl⟩ := hp.form
  have hpl := hsp.1
  clear h hp hs hsp
  go_enter Try.func28, Try.ntmps28
  go_wp2_with fail
  refine (unhide HK).mono ?_
  rintro e w1 (⟨hno, rfl, b1⟩ | ⟨hyes, xa, xn, xc, vs, rfl, rfl, HR, HVL, HT, b1⟩)
  · have HE := hide (choice_pick_no hno)
    clear hno
    go_wp2_with fail
    go_ret
    exact ⟨ret_bool (unhide HE).symm, b1⟩
  · have HE := hide (choice_pick_yes hyes)
    have B1 := hide b1
    clear b1 hyes HK
    rcases (unhide HR).slice with ⟨hv0, hv1⟩ | ⟨g, gc, hv0, hgc, hg, hcells⟩
    · have hz : ps.length = 0 := by have := unhide HVL; rw [hv1] at this; simpa using this.symm
      have HE2 := hide (show choiceB ws ps = true by rw [unhide HE]; exact ag_yes (fun i hi => absurd hi (by omega)))
      simp only [Value.slice.injEq] at hv0
      obtain ⟨rfl, hxn, rfl⟩ := hv0
      rw [hz]
      clear hz hxn HR HVL HT hv1 hpl
      go_wp2_with fail
      refine wp_loop_rounds 1 ?_
      rw [rounds_succ]
      go_wp2_with fail
      go_ret
      exact ⟨ret_bool (unhide HE2).symm, unhide B1⟩
    · simp only [Value.slice.injEq] at hv0
      obtain ⟨rfl, -, rfl⟩ := hv0
      have HCE := hide hcells
      have HST := hide (show ∀ (i : Nat) (W : World), i ≤ ps.length → Below w1.heap.size w1 W → StsAt W g (stsL ws ps i) from fun i W hi bW j hj => by
        have hjv : j < vs.length := by rw [stsL_len] at hj; have := unhide HVL; omega
        obtain ⟨a', n', c', h1, h2, h3⟩ := unhide HT j hjv
        refine ⟨a', n', c', (bW.cell (by exact hg)).trans ((hcells j hjv).trans (by rw [h1])), ?_⟩
        rw [stsL_get]
        exact (h2.up (unhide B1)).up bW)
      have HSM := hide (show ∀ (i : Nat), i ≤ ps.length → ∀ x ∈ stsL ws ps i, SmallMarkS x from fun i hi x hx => by
        obtain ⟨j, hj, rfl⟩ := List.getElem_of_mem hx
        rw [stsL_get]
        obtain ⟨a', n', c', h1, h2, h3⟩ := unhide HT j (by rw [stsL_len] at hj; have := unhide HVL; omega)
        exact h3)
      have hgc' : ps.length ≤ xc := by have := unhide HVL; omega
      clear hcells hgc
      go_wp2_with fail
      go_loopw [19] (fun i wr => ∃ (k : Nat), k ≤ ps.length ∧ i = .int .i64 k ∧ Hid (∀ j, j < k → agAll (stampAt ws ps j) (stsL ws ps j) = true) ∧ Hid (Below w1.heap.size w1 wr)) (fun i _ => ps.length - (intOf i).toNat)
      case atStart => exact ⟨0, Nat.zero_le _, rfl, hide (fun j hj => absurd hj (Nat.not_lt_zero _)), Below.refl _ _⟩
      case round =>
        obtain ⟨k, hk, rfl, HN, HB⟩ := hrel
        by_cases hlt : k < ps.length
        · have hkv : k < vs.length := by have := unhide HVL; omega
          obtain ⟨xa, xn, xc', h1, h2, h3⟩ := unhide HT k hkv
          have c0 := ((unhide HB).cell (show g < w1.heap.size from hg)).trans (unhide HCE k hkv)
          rw [h1] at c0
          have HA := hide (agreesWithAll_row (stampAt ws ps k) (stsL ws ps k) (.slice xa xn xc') g xc wr h3 (unhide HSM k hk) (by rw [stsL_len]; omega) ((h2.up (unhide B1)).up (unhide HB)) (Nat.lt_of_lt_of_le hg (unhide HB).size) (unhide HST k wr hk (unhide HB)))
          rw [stsL_len] at HA
          have HNO := hide (fun h => ag_no (ws := ws) hlt h)
          have HYES := hide (show agAll (stampAt ws ps k) (stsL ws ps k) = true → ∀ j, j < k + 1 → agAll (stampAt ws ps j) (stsL ws ps j) = true from fun h j hjk => by
            by_cases e : j = k
            · subst e; exact h
            · exact unhide HN j (by omega))
          clear h1 h2 h3
          have hkc : k ≤ xc := by omega
          cases hag : agAll (stampAt ws ps k) (stsL ws ps k)
          · rw [hag] at HA
            have HE2 := hide (show choiceB ws ps = false by rw [unhide HE]; exact unhide HNO hag)
            clear HNO HYES hag
            go_wp2_with fail
            refine (unhide HA).mono ?_
            rintro e w2 ⟨rfl, b2⟩
            have B2 := hide ((unhide B1).trans (((unhide HB).trans (b2.mono (unhide HB).size)).mono (unhide B1).size))
            clear b2 c0
            go_wp2_with fail
            go_ret
            exact ⟨ret_bool (unhide HE2).symm, unhide B2⟩
          · rw [hag] at HA
            have HY := hide (unhide HYES hag)
            clear HNO HYES hag
            go_wp2_with fail
            refine (unhide HA).mono ?_
            rintro e w2 ⟨rfl, b2⟩
            have B2 := hide ((unhide HB).trans (b2.mono (unhide HB).size))
            clear b2 c0
            go_wp2_with fail
            go_roundw
            case rel => exact ⟨k + 1, by omega, by go_num, HY, B2⟩
            case measure => simp [intOf]; omega
        · have HE2 := hide (show choiceB ws ps = true by rw [unhide HE]; exact ag_yes (fun j hj => unhide HN j (by omega)))
          have B2 := hide ((unhide B1).trans ((unhide HB).mono (unhide B1).size))
          go_wp2_with fail
          go_ret
          exact ⟨ret_bool (unhide HE2).symm, unhide B2⟩
end Go.Proofs.Ytnijccmhajjdoaa
