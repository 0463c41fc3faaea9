/-
  The specification's side of choices: which windows may be chosen from, and whether the items at some places agree.
-/
import Derived.Test.YtnijccmhajjdoaaMerged7
import Derived.Test.YtnijccmhajjdoaaMerged3
import Derived.Handy
set_option linter.unusedVariables false
namespace Go.Proofs.Ytnijccmhajjdoaa
open Go.RowKit Go.Maps Go.Deep

set_option maxHeartbeats 3200000 in
theorem l15Ok_any (ws : List (List ItemV)) (v : Value) (w : World) (hs : SmallItemSS ws) (h : ItemSSRd w v ws) :
    Calls Try.prog 20 #[v] w fun e w' => e = .returned (.bool (winsB ws)) ∧ Below w.heap.size w w' := by
  obtain ⟨a, c, rfl, h⟩ := h
  have hn := hs.1
  by_cases h1 : ws.length < 1
  · have HE := hide (winsB_no_len (.inl h1))
    rw [unhide HE]
    generalize ws.length = n at *
    clear h hs HE
    have h1' : (n : Int) < 1 := by omega
    go_enter Try.func20, Try.ntmps20
    go_wp2_with fail
    go_ret
    exact ⟨rfl, Below.refl _ _⟩
  by_cases h6 : 6 < ws.length
  · have HE := hide (winsB_no_len (.inr h6))
    rw [unhide HE]
    generalize ws.length = n at *
    clear h hs HE
    have h1' : ¬ (n : Int) < 1 := by omega
    have h6' : 6 < (n : Int) := by omega
    go_enter Try.func20, Try.ntmps20
    go_wp2_with fail
    go_ret
    exact ⟨rfl, Below.refl _ _⟩
  rcases h with rfl | ⟨b, off, rfl, hb, hc⟩
  · simp at h1
  have HC := hide hc
  have HS := hide hs.2
  have h1' : ¬ (ws.length : Int) < 1 := by omega
  have h6' : ¬ 6 < (ws.length : Int) := by omega
  clear hc hs
  go_enter Try.func20, Try.ntmps20
  go_wp2_with fail
  go_loopw [3] (fun i wr => ∃ (k : Nat), k ≤ ws.length ∧ i = .int .i64 k ∧ Hid (∀ j (hj : j < ws.length), j < k → windowB orderOut ws[j] = true) ∧ Hid (Below w.heap.size w wr)) (fun i _ => ws.length - (intOf i).toNat)
  case atStart => exact ⟨0, Nat.zero_le _, rfl, hide (fun j _ hj => absurd hj (Nat.not_lt_zero _)), Below.refl _ _⟩
  case round =>
    obtain ⟨k, hk, rfl, HN, HB⟩ := hrel
    by_cases hlt : k < ws.length
    · obtain ⟨v, c0, hv⟩ := (unhide HC).up hb (unhide HB) k hlt
      have HV := hide (specWindow_ok ws[k] v wr (unhide HS _ (List.getElem_mem hlt)) hv)
      have HNO := hide (fun h => winsB_no hlt h)
      have HYES := hide (show windowB orderOut ws[k] = true → ∀ j (hj : j < ws.length), j < k + 1 → windowB orderOut ws[j] = true from fun h j hj hjk => by
        by_cases e : j = k
        · subst e; exact h
        · exact unhide HN j hj (by omega))
      obtain ⟨va, vn, vc, rfl⟩ := hv.form
      clear hv
      cases hw : windowB orderOut ws[k]
      · rw [hw] at HV
        have HE := hide (unhide HNO hw)
        clear HYES HNO hw
        go_wp2_with fail
        refine (unhide HV).mono ?_
        rintro e w1 ⟨rfl, b1⟩
        have B1 := hide ((unhide HB).trans (b1.mono (unhide HB).size))
        clear b1 c0
        go_wp2_with fail
        go_ret
        exact ⟨ret_bool (unhide HE).symm, unhide B1⟩
      · rw [hw] at HV
        have HY := hide (unhide HYES hw)
        clear HYES HNO hw
        go_wp2_with fail
        refine (unhide HV).mono ?_
        rintro e w1 ⟨rfl, b1⟩
        have B1 := hide ((unhide HB).trans (b1.mono (unhide HB).size))
        clear b1 c0
        go_wp2_with fail
        go_roundw
        case rel => exact ⟨k + 1, by omega, by go_num, HY, B1⟩
        case measure => simp [intOf]; omega
    · have HE := hide (winsB_yes (by omega) (by omega) (fun j hj => unhide HN j hj (by omega)))
      go_wp2_with fail
      go_ret
      exact ⟨ret_bool (unhide HE).symm, unhide HB⟩
set_option maxHeartbeats 6400000 in
theorem l15Agrees_row (w : World) (b off cap b2 off2 cap2 : Nat) (ws : List (List ItemV)) (ps : List Int) (hs : SmallItemSS ws) (hl : ps.length ≤ ws.length) (h6 : ws.length ≤ 6) (hin : inB ws ps = true) (hc : WinsAt w b off ws) (hp : IntsAt w b2 off2 ps) (hb : b < w.heap.size) (hb2 : b2 < w.heap.size) :
    Calls Try.prog 35 #[.slice (some ⟨b, off, none⟩) ws.length cap, .slice (some ⟨b2, off2, none⟩) ps.length cap2] w fun e w' => e = .returned (.bool (agB ws ps)) ∧ Below w.heap.size w w' := by
  have HC := hide hc
  have HP := hide hp
  have HS := hide hs
  have HIN := hide hin
  clear hs hc hp hin
  go_enter Try.func35, Try.ntmps35
  go_wp2_with fail
  go_loopw [5] (fun i wr => ∃ (k : Nat), k ≤ ps.length ∧ i = .int .i64 k ∧ Hid (PairsTo ws ps k 0) ∧ Hid (Below w.heap.size w wr)) (fun i _ => ps.length - (intOf i).toNat)
  case atStart => exact ⟨0, Nat.zero_le _, rfl, hide (pairs_zero ws ps), Below.refl _ _⟩
  case round =>
    obtain ⟨i, hi, rfl, HN, HB⟩ := hrel
    by_cases hlt : i < ps.length
    · go_wp2_with fail
      go_loopw [6] (fun kk w2 => ∃ (k : Nat), k ≤ i ∧ kk = .int .i64 k ∧ Hid (PairsTo ws ps i k) ∧ Hid (Below w.heap.size w w2)) (fun kk _ => i - (intOf kk).toNat)
      case atStart => exact ⟨0, Nat.zero_le _, rfl, HN, HB⟩
      case round =>
        obtain ⟨k, hk, rfl, HN2, HB2⟩ := hrel
        by_cases hki : k < i
        · obtain ⟨q1, bi, oi, ni, ci, ma, mn, mc, e1, hq1, hni, c1, d1, hm1, hsm1, -⟩ := choice_reach (unhide HS) ((unhide HC).up hb (unhide HB2)) hlt hl (unhide HIN)
          obtain ⟨q2, bk, ok, nk, ck, ma2, mn2, mc2, e2, hq2, hnk, c2, d2, hm2, hsm2, -⟩ := choice_reach (unhide HS) ((unhide HC).up hb (unhide HB2)) (show k < ps.length by omega) hl (unhide HIN)
          have p1 := (unhide HP).up hb2 (unhide HB2) i hlt
          have p2 := (unhide HP).up hb2 (unhide HB2) k (by omega)
          rw [e1] at p1
          rw [e2] at p2
          have HA := hide (fun (x : LaterW wr) => specAgree_any (stampAt ws ps i) (.slice ma mn mc) (stampAt ws ps k) (.slice ma2 mn2 mc2) x.to hsm1 hsm2 (hm1.up x.bel) (hm2.up x.bel))
          have r0 : ∀ x : LaterW wr, x.to.cell? ⟨b2, off2 + i, none⟩ = some (.int .i64 (q1 : Int)) := fun x => x.cell p1
          have r1 : ∀ x : LaterW wr, x.to.cell? ⟨b2, off2 + k, none⟩ = some (.int .i64 (q2 : Int)) := fun x => x.cell p2
          have r2 : ∀ x : LaterW wr, x.to.cell? ⟨b, off + i, none⟩ = some (.slice (some ⟨bi, oi, none⟩) ni ci) := fun x => x.cell c1
          have r3 : ∀ x : LaterW wr, x.to.cell? ⟨b, off + k, none⟩ = some (.slice (some ⟨bk, ok, none⟩) nk ck) := fun x => x.cell c2
          have r4 : ∀ x : LaterW wr, x.to.cell? ⟨bi, oi + q1 * 2 + 1, none⟩ = some (.slice ma mn mc) := fun x => x.cell d1
          have r5 : ∀ x : LaterW wr, x.to.cell? ⟨bk, ok + q2 * 2 + 1, none⟩ = some (.slice ma2 mn2 mc2) := fun x => x.cell d2
          have HNO := hide (fun h => pair_no (ws := ws) hlt hki h)
          have HYES := hide (fun h => pairs_step (unhide HN2) h)
          unfold pairB at HNO HYES
          generalize agreeOut (stampAt ws ps i) (stampAt ws ps k) = r at *
          clear hm1 hm2 hsm1 hsm2 c1 c2 d1 d2 p1 p2 e1 e2
          have g1 : i < ws.length := by omega
          have g2 : k < ws.length := by omega
          have g3 : k < ps.length := by omega
          cases r
          · have HE := hide (unhide HNO rfl)
            clear HYES HNO
            go_wp2_with fail
            refine wp_region_later (by kernel_rfl) (by kernel_rfl) ?_
            repeat (go_big_quiet_step ((go_at_call 49; exact quiet_ret (unhide HA _))))
            refine wpQuiet_nil ?_
            rintro _ ⟨x, rfl⟩
            have B3 := hide ((unhide HB2).trans (x.bel.mono (unhide HB2).size))
            go_wp2_with fail
            go_ret
            exact ⟨ret_bool (unhide HE).symm, unhide B3⟩
          · have HY := hide (unhide HYES rfl)
            clear HYES HNO
            go_wp2_with fail
            refine wp_region_later (by kernel_rfl) (by kernel_rfl) ?_
            repeat (go_big_quiet_step ((go_at_call 49; exact quiet_ret (unhide HA _))))
            refine wpQuiet_nil ?_
            rintro _ ⟨x, rfl⟩
            have B3 := hide ((unhide HB2).trans (x.bel.mono (unhide HB2).size))
            go_wp2_with fail
            go_roundw
            case rel => exact ⟨k + 1, by omega, by go_num, HY, B3⟩
            case measure => simp [intOf]; omega
        · obtain rfl : k = i := by omega
          have HY := hide (pairs_next (unhide HN2))
          go_wp2_with fail
          go_roundw
          case rel => exact ⟨k + 1, by omega, by go_num, HY, HB2⟩
          case measure => simp [intOf]; omega
    · have HE := hide (pairs_all (by omega) (unhide HN))
      go_wp2_with fail
      go_ret
      exact ⟨ret_bool (unhide HE).symm, unhide HB⟩
end Go.Proofs.Ytnijccmhajjdoaa
