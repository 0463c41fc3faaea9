/-
  The specification's ChoiceAgrees.
-/
import Derived.Test.YtnijccmhajjdoaaChoiceS
set_option linter.unusedVariables false
namespace Go.Proofs.Ytnijccmhajjdoaa
open Go.RowKit Go.Maps Go.Deep

set_option maxHeartbeats 6400000 in
theorem specChoice_any (ws : List (List ItemV)) (v : Value) (ps : List Int) (u : Value) (w : World) (hs : SmallItemSS ws) (hsp : SmallIntS ps) (h : ItemSSRd w v ws) (hp : IntSRd w u ps) :
    Calls Try.prog 26 #[v, u] w fun e w' => e = .returned (.bool (choiceB ws ps)) ∧ Below w.heap.size w w' := by
  have HK := hide (l15Ok_any ws v w hs h)
  have HV := hide h
  have HU := hide hp
  have hsl := hs.1
  have hpl := hsp.1
  obtain ⟨a, c, rfl, h⟩ := h
  obtain ⟨a2, c2, rfl, hp⟩ := hp
  cases hw : winsB ws
  · rw [hw] at HK
    have HE := hide (choice_no1 (ps := ps) hw)
    rw [unhide HE]
    clear h hp hw HE
    go_enter Try.func26, Try.ntmps26
    go_wp2_with fail
    refine (unhide HK).mono ?_
    rintro e w1 ⟨rfl, b1⟩
    go_wp2_with fail
    go_ret
    exact ⟨rfl, b1⟩
  rw [hw] at HK
  by_cases hlen : ps.length = ws.length
  · have HL := hide hlen
    obtain ⟨h1, h6⟩ := winsB_len hw
    rcases h with rfl | ⟨b, off, rfl, hb, hc⟩
    · simp at h1
    rcases hp with rfl | ⟨b2, off2, rfl, hb2, hpc⟩
    · simp at hlen; omega
    have HC := hide hc
    have HP := hide hpc
    have HS := hide hs
    have HAG := hide (fun (W : World) (bW : Below w.heap.size w W) (hin : inB ws ps = true) => l15Agrees_row W b off c b2 off2 c2 ws ps hs (by omega) h6 hin (hc.up hb bW) (hpc.up hb2 bW) (Nat.lt_of_lt_of_le hb bW.size) (Nat.lt_of_lt_of_le hb2 bW.size))
    have HCA := hide (fun h3 => choice_ag hw hlen h3)
    rw [← hlen] at HAG HK ⊢
    have hl6 : ps.length ≤ 6 := by omega
    clear hc hpc hs hw hlen h1 h6 hsl hpl
    go_enter Try.func26, Try.ntmps26
    go_wp2_with fail
    refine (unhide HK).mono ?_
    rintro e w1 ⟨rfl, b1⟩
    have B1 := hide b1
    clear b1
    go_wp2_with fail
    go_loopw [5] (fun i wr => ∃ (k : Nat), k ≤ ps.length ∧ i = .int .i64 k ∧ Hid (∀ j, j < k → placeB ws ps j = true) ∧ Hid (Below w.heap.size w wr)) (fun i _ => ps.length - (intOf i).toNat)
    case atStart => exact ⟨0, Nat.zero_le _, rfl, hide (fun j hj => absurd hj (Nat.not_lt_zero _)), B1⟩
    case round =>
      obtain ⟨k, hk, rfl, HN, HB⟩ := hrel
      by_cases hlt : k < ps.length
      · have hkw : k < ws.length := by have := unhide HL; omega
        have p1 := (unhide HP).up hb2 (unhide HB) k hlt
        obtain ⟨v, c1, hv⟩ := (unhide HC).up hb (unhide HB) k hkw
        have hwl := ((unhide HS).2 _ (List.getElem_mem hkw)).1
        have HPB := hide (show placeB ws ps k = (decide (0 ≤ ps[k]) && decide (ps[k] < (ws[k].length : Int))) by
          unfold placeB
          simp only [List.getD_eq_getElem?_getD, List.getElem?_eq_getElem hlt, List.getElem?_eq_getElem hkw, Option.getD_some])
        have HNO := hide (fun h => choice_no3 (place_no (ws := ws) hlt h))
        have HYES := hide (show placeB ws ps k = true → ∀ j, j < k + 1 → placeB ws ps j = true from fun h j hjk => by
          by_cases e : j = k
          · subst e; exact h
          · exact unhide HN j (by omega))
        obtain ⟨va, vc, rfl, _⟩ := hv
        rw [unhide HPB] at HNO HYES
        clear HPB HN
        generalize ps[k] = p at *
        generalize ws[k].length = n at *
        by_cases h0 : p < 0
        · have HE := hide (unhide HNO (by rw [decide_eq_false (by omega : ¬ 0 ≤ p)]; rfl))
          clear HYES HNO
          go_wp2_with fail
          go_quiet (fail)
          have HBD := hide ((unhide HB).trans ((belowN wr nq).mono (unhide HB).size))
          clear p1 c1
          go_wp2_with fail
          go_ret
          exact ⟨ret_bool (unhide HE).symm, unhide HBD⟩
        by_cases h2 : p < (n : Int)
        · have HY := hide (unhide HYES (by rw [decide_eq_true (by omega : 0 ≤ p), decide_eq_true h2]; rfl))
          clear HYES HNO
          have h2' : ¬ (n : Int) ≤ p := by omega
          go_wp2_with fail
          go_quiet (fail)
          have HBD := hide ((unhide HB).trans ((belowN wr nq).mono (unhide HB).size))
          clear p1 c1
          go_wp2_with fail
          go_roundw
          case rel => exact ⟨k + 1, by omega, by go_num, HY, HBD⟩
          case measure => simp [intOf]; omega
        · have HE := hide (unhide HNO (by rw [decide_eq_false h2]; simp))
          have h2' : (n : Int) ≤ p := by omega
          clear HYES HNO
          go_wp2_with fail
          go_quiet (fail)
          have HBD := hide ((unhide HB).trans ((belowN wr nq).mono (unhide HB).size))
          clear p1 c1
          go_wp2_with fail
          go_ret
          exact ⟨ret_bool (unhide HE).symm, unhide HBD⟩
      · have hin : inB ws ps = true := place_yes (fun j hj => unhide HN j (by omega))
        have HE := hide (unhide HCA hin)
        have HA1 := hide (unhide HAG wr (unhide HB) hin)
        clear hin HAG HCA
        go_wp2_with fail
        refine (unhide HA1).mono ?_
        rintro e w2 ⟨rfl, b2⟩
        have B2 := hide ((unhide HB).trans (b2.mono (unhide HB).size))
        go_wp2_with fail
        go_ret
        exact ⟨ret_bool (unhide HE).symm, unhide B2⟩
  · have HE := hide (choice_no2 hlen)
    rw [unhide HE]
    have q1 : ((ps.length : Int) == (ws.length : Int)) = false := by simp; omega
    have q2 : ((ps.length : Int) != (ws.length : Int)) = true := by simp; omega
    generalize ps.length = n at *
    generalize ws.length = m at *
    clear h hp hw HE hlen
    go_enter Try.func26, Try.ntmps26
    go_wp2_with fail
    refine (unhide HK).mono ?_
    rintro e w1 ⟨rfl, b1⟩
    go_wp2_with fail
    go_ret
    exact ⟨rfl, b1⟩
end Go.Proofs.Ytnijccmhajjdoaa
