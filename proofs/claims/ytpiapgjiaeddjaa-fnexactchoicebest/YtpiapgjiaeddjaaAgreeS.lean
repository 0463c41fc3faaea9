/-
  StampAgree of the specification, and that both sides answer the same.
-/
import Derived.Test.YtpiapgjiaeddjaaSideSet
import Derived.Test.YtpiapgjiaeddjaaMerged10
set_option linter.unusedVariables false
namespace Go.Proofs.Ytpiapgjiaeddjaa
open Go.RowKit Go.Maps Go.Deep

/-- a mark that does not agree with a stamp -/
def offB (xb : List MarkV) (x : MarkV) : Bool := !(getV xb x.a0 == 0) && !(getV xb x.a0 == x.a1)
def agreeG (xa xb : List MarkV) : Bool := xa.all fun x => !offB xb x
theorem badP_pair (xa xb : List MarkV) (s : ByteArray) : badP (pairOf xa xb s) = (decide (0 < getV xa s) && decide (0 < getV xb s) && !(getV xa s == getV xb s)) := by
  show (decide (0 < getV xa s) && decide (0 < getV xb s) && !((s.toList == s.toList) && (getV xa s == getV xb s))) = _
  rw [BEq.rfl, Bool.true_and]
theorem agree_same {xa xb : List MarkV} (ha : mstampB xa = true) (hb : mstampB xb = true) : agreeG xa xb = agreeS xa xb := by
  have aa := asc_of_stamp ha
  have ab := asc_of_stamp hb
  have pa := pos_of_stamp ha
  have pb := pos_of_stamp hb
  rw [Bool.eq_iff_iff]
  unfold agreeG agreeS
  rw [List.all_eq_true, List.all_eq_true]
  constructor
  · intro h p hp
    obtain ⟨s, hs, rfl⟩ := (side_mem xa xb aa ab p).1 hp
    rw [badP_pair]
    by_cases h1 : 0 < getV xa s
    · by_cases h2 : 0 < getV xb s
      · have hin : srcIn s xa := by
          by_cases e : srcIn s xa
          · exact e
          · rw [getV_not e] at h1; omega
        obtain ⟨x, hx, rfl⟩ := hin
        have := h x hx
        simp only [offB, Bool.not_and, Bool.not_not, Bool.or_eq_true, beq_iff_eq] at this
        have e : x.a1 = getV xb x.a0 := by
          rcases this with h | h
          · omega
          · exact h.symm
        have e' := (getV_mem aa hx).trans e
        simp [e']
      · simp [h2]
    · simp [h1]
  · intro h x hx
    have hp := h _ ((side_mem xa xb aa ab (pairOf xa xb x.a0)).2 ⟨x.a0, .inl ⟨x, hx, rfl⟩, rfl⟩)
    have h1 := pa x hx
    rw [badP_pair] at hp
    simp only [getV_mem aa hx] at hp
    simp only [offB]
    by_cases h0 : srcIn x.a0 xb
    · obtain ⟨y, hy, e⟩ := h0
      have h2 := pb y hy
      have hv : getV xb x.a0 = y.a1 := by rw [← e]; exact getV_mem ab hy
      simp only [hv] at hp ⊢
      have h3 : (0 : Int) < x.a1 := by omega
      have h4 : (0 : Int) < y.a1 := by omega
      simp only [h3, h4, decide_true, Bool.true_and, Bool.not_not, beq_iff_eq] at hp
      simp [hp]
    · simp [getV_not h0]
theorem off_no {xa xb : List MarkV} {k : Nat} (hk : k < xa.length) (h : offB xb xa[k] = true) : agreeG xa xb = false := by
  unfold agreeG
  rw [List.all_eq_false]
  exact ⟨_, List.getElem_mem hk, by simp [h]⟩
theorem off_yes {xa xb : List MarkV} (h : ∀ j (hj : j < xa.length), offB xb xa[j] = false) : agreeG xa xb = true := by
  unfold agreeG
  rw [List.all_eq_true]
  intro x hx
  obtain ⟨j, hj, rfl⟩ := List.getElem_of_mem hx
  simp [h j hj]
set_option maxHeartbeats 1600000 in
theorem specAgree_row (w : World) (b off ca : Nat) (vb : Value) (xa xb : List MarkV) (hsa : SmallMarkS xa) (hsb : SmallMarkS xb) (oa : mstampB xa = true) (ob : mstampB xb = true) (hc : MarkAt w b off xa) (hb : b < w.heap.size) (hB : MarkSRd w vb xb) :
    Calls Try.prog 40 #[.slice (some ⟨b, off, none⟩) xa.length ca, vb] w fun e w' => e = .returned (.bool (agreeG xa xb)) ∧ Below w.heap.size w w' := by
  have HO1 := hide (fun W (bb : Below w.heap.size w W) => specStampOk_any xa (.slice (some ⟨b, off, none⟩) xa.length ca) W hsa ⟨_, ca, rfl, .inr ⟨b, off, rfl, Nat.lt_of_lt_of_le hb bb.size, hc.below bb hb⟩⟩)
  have HO2 := hide (fun W (bb : Below w.heap.size w W) => specStampOk_any xb vb W hsb (hB.up bb))
  have HG := hide (fun (s : ByteArray) W (bb : Below w.heap.size w W) => l13Get_any xb vb s W hsb (hB.up bb))
  have HC := hide hc
  have hl := mstamp_len oa
  obtain ⟨a2, n2, c2, rfl⟩ := hB.form
  rw [oa] at HO1
  rw [ob] at HO2
  clear hc hB hsa hsb oa ob
  go_enter Try.func40, Try.ntmps40
  go_wp2_with fail
  refine (unhide HO1 _ (Below.refl _ _)).mono ?_
  rintro e w1 ⟨rfl, b1⟩
  have B1 := hide b1
  clear b1
  go_wp2_with fail
  refine (unhide HO2 _ (unhide B1)).mono ?_
  rintro e w2 ⟨rfl, b2⟩
  have B2 := hide ((unhide B1).trans (b2.mono (unhide B1).size))
  clear b2
  go_wp2_with fail
  go_loopw [5] (fun i wr => ∃ k : Nat, k ≤ xa.length ∧ i = .int .i64 k ∧ Hid (∀ j (hj : j < xa.length), j < k → offB xb xa[j] = false) ∧ Hid (Below w.heap.size w wr)) (fun i _ => xa.length - (intOf i).toNat)
  case atStart => exact ⟨0, Nat.zero_le _, rfl, fun j _ hj => absurd hj (Nat.not_lt_zero _), B2⟩
  case round =>
    obtain ⟨k, hk, rfl, HN, HB⟩ := hrel
    by_cases hlt : k < xa.length
    · obtain ⟨c0, c1⟩ := (unhide HC).below (unhide HB) hb k hlt
      have HNO := hide (fun h => off_no (xb := xb) hlt h)
      have HYES := hide (show offB xb xa[k] = false → ∀ j (hj : j < xa.length), j < k + 1 → offB xb xa[j] = false from fun h j hj hjk => by
        by_cases e : j = k
        · subst e; exact h
        · exact unhide HN j hj (by omega))
      have HG1 := hide (fun W bb => unhide HG xa[k].a0 W bb)
      obtain ⟨g, HGE⟩ : ∃ g, Hid (getV xb xa[k].a0 = g) := ⟨_, hide rfl⟩
      rw [unhide HGE] at HG1
      simp only [offB, unhide HGE] at HNO HYES
      clear HG HN
      generalize xa[k].a0 = nm at *
      generalize xa[k].a1 = vl at *
      clear HGE
      by_cases h1 : g = 0
      · have HY := hide (unhide HYES (by simp [h1]))
        subst h1
        clear HYES HNO
        go_wp2_with fail
        refine (unhide HG1 _ (unhide HB)).mono ?_
        rintro e w3 ⟨rfl, hw⟩
        rw [hw]
        clear hw
        go_wp2_with fail
        go_roundw
        case rel => exact ⟨k + 1, by omega, by go_num, HY, HB⟩
        case measure => simp [intOf]; omega
      · have q1 : (g == 0) = false := by simpa using h1
        have q1' : (g != 0) = true := by simpa using h1
        by_cases h2 : g = vl
        · have HY := hide (unhide HYES (by simp [h2]))
          subst h2
          clear HYES HNO h1
          go_wp2_with fail
          refine (unhide HG1 _ (unhide HB)).mono ?_
          rintro e w3 ⟨rfl, hw⟩
          rw [hw]
          clear hw
          go_wp2_with fail
          go_roundw
          case rel => exact ⟨k + 1, by omega, by go_num, HY, HB⟩
          case measure => simp [intOf]; omega
        · have q2 : (g == vl) = false := by simpa using h2
          have q2' : (g != vl) = true := by simpa using h2
          have HE := hide (unhide HNO (by simp [q1, q2]))
          clear HYES HNO h1 h2
          go_wp2_with fail
          refine (unhide HG1 _ (unhide HB)).mono ?_
          rintro e w3 ⟨rfl, hw⟩
          rw [hw]
          clear hw
          go_wp2_with fail
          go_ret
          exact ⟨ret_bool (unhide HE).symm, unhide HB⟩
    · have HE := hide (off_yes (xb := xb) (fun j hj => unhide HN j hj (by omega)))
      go_wp2_with fail
      go_ret
      exact ⟨ret_bool (unhide HE).symm, unhide HB⟩
set_option maxHeartbeats 1600000 in
theorem specAgree_any (xa : List MarkV) (va : Value) (xb : List MarkV) (vb : Value) (w : World) (hsa : SmallMarkS xa) (hsb : SmallMarkS xb) (hA : MarkSRd w va xa) (hB : MarkSRd w vb xb) :
    Calls Try.prog 40 #[va, vb] w fun e w' => e = .returned (.bool (agreeOut xa xb)) ∧ Below w.heap.size w w' := by
  have HO1 := hide (fun W (bb : Below w.heap.size w W) => specStampOk_any xa va W hsa (hA.up bb))
  have HO2 := hide (fun W (bb : Below w.heap.size w W) => specStampOk_any xb vb W hsb (hB.up bb))
  obtain ⟨a2, n2, c2, e2⟩ := hB.form
  obtain ⟨a, ca, rfl, hA⟩ := hA
  unfold agreeOut
  cases oa : mstampB xa
  · rw [oa] at HO1
    subst e2
    clear hA hB hsa hsb oa
    generalize xa.length = n at *
    go_enter Try.func40, Try.ntmps40
    go_wp2_with fail
    refine (unhide HO1 _ (Below.refl _ _)).mono ?_
    rintro e w1 ⟨rfl, b1⟩
    have B1 := hide b1
    clear b1
    go_wp2_with fail
    go_ret
    exact ⟨ret_bool (by simp), unhide B1⟩
  · cases ob : mstampB xb
    · rw [oa] at HO1
      rw [ob] at HO2
      subst e2
      clear hA hB hsa hsb oa ob
      generalize xa.length = n at *
      go_enter Try.func40, Try.ntmps40
      go_wp2_with fail
      refine (unhide HO1 _ (Below.refl _ _)).mono ?_
      rintro e w1 ⟨rfl, b1⟩
      have B1 := hide b1
      clear b1
      go_wp2_with fail
      refine (unhide HO2 _ (unhide B1)).mono ?_
      rintro e w2 ⟨rfl, b2⟩
      have B2 := hide ((unhide B1).trans (b2.mono (unhide B1).size))
      clear b2
      go_wp2_with fail
      go_ret
      exact ⟨ret_bool (by simp), unhide B2⟩
    · rw [← agree_same oa ob]
      rcases hA with rfl | ⟨b, off, rfl, hb, hc⟩
      · rw [oa] at HO1
        rw [ob] at HO2
        subst e2
        clear hB hsa hsb oa ob
        go_enter Try.func40, Try.ntmps40
        go_wp2_with fail
        refine (unhide HO1 _ (Below.refl _ _)).mono ?_
        rintro e w1 ⟨rfl, b1⟩
        have B1 := hide b1
        clear b1
        go_wp2_with fail
        refine (unhide HO2 _ (unhide B1)).mono ?_
        rintro e w2 ⟨rfl, b2⟩
        have B2 := hide ((unhide B1).trans (b2.mono (unhide B1).size))
        clear b2
        go_wp2_with fail
        refine wp_loop_rounds 1 ?_
        rw [rounds_succ]
        go_wp2_with fail
        go_ret
        exact ⟨ret_bool (by simp [agreeG]), unhide B2⟩
      · refine (specAgree_row w b off ca vb xa xb hsa hsb oa ob hc hb hB).mono ?_
        rintro e w' ⟨rfl, hb⟩
        exact ⟨by simp, hb⟩
end Go.Proofs.Ytpiapgjiaeddjaa
