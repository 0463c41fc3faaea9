/-
  The program's ChoiceJoin.
-/
import Derived.Test.YtnijccmhajjdoaaMerged17
import Derived.Test.YtnijccmhajjdoaaChoiceI4
set_option linter.unusedVariables false
namespace Go.Proofs.Ytnijccmhajjdoaa
open Go.RowKit Go.Maps Go.Deep

set_option maxHeartbeats 6400000 in
theorem implChJoin_any (ws : List (List ItemV)) (v : Value) (ps : List Int) (u : Value) (w : World) (hs : SmallItemSS ws) (hsp : SmallIntS ps) (h : ItemSSRd w v ws) (hp : IntSRd w u ps) :
    Calls Try.prog 12 #[v, u] w fun e w' => ∃ v S, e = .returned (.tuple #[v, .bool (chB ws ps)]) ∧ Hid (MarkSOwn S w' v (chV ws ps)) ∧ Hid (∀ k ∈ S, w.heap.size ≤ k) ∧ Below w.heap.size w w' := by
  have HK := hide (implChoice_any ws v ps u w hs hsp h hp)
  have hsl := hs.1
  have hpl := hsp.1
  cases hch : choiceB ws ps
  · rw [hch] at HK
    obtain ⟨hE1, hE2⟩ := ch_no hch
    rw [hE1, hE2]
    obtain ⟨a, n, c, rfl⟩ := h.form
    obtain ⟨a2, n2, c2, rfl⟩ := hp.form
    clear h hp hch hE1 hE2
    go_enter Try.func12, Try.ntmps12
    go_wp2_with fail
    refine (unhide HK).mono ?_
    rintro e w1 ⟨rfl, b1⟩
    go_wp2_with fail
    refine bodyPost_ret (v := .tuple #[.slice none 0 0, .bool false]) ?_ rfl ?_
    · simp [results, Try.results12, go_sem]
    exact ⟨_, [], rfl, hide (.inl ⟨rfl, rfl, none, 0, rfl⟩), hide (by simp), b1⟩
  rw [hch] at HK
  obtain ⟨hwin, hlen, hin⟩ := choice_parts hch
  obtain ⟨h1, h6⟩ := winsB_len hwin
  obtain ⟨a, c, rfl, h⟩ := h
  obtain ⟨a2, c2, rfl, hp⟩ := hp
  rcases h with rfl | ⟨b, off, rfl, hb, hc⟩
  · simp at h1
  rcases hp with rfl | ⟨b2, off2, rfl, hb2, hpc⟩
  · simp at hlen; omega
  have HL := hide hlen
  have HIN := hide hin
  have HC := hide hc
  have HP := hide hpc
  have HS := hide hs
  have HCH := hide hch
  rw [← hlen] at HK ⊢
  have hl6 : ps.length ≤ 6 := by omega
  clear hc hpc hs hch hlen h1 h6 hsl hpl hin hwin
  go_enter Try.func12, Try.ntmps12
  go_wp2_with fail
  refine (unhide HK).mono ?_
  rintro e w1 ⟨rfl, b1⟩
  have B1 := hide b1
  clear b1
  go_wp2_with fail
  go_loopw [6, 17] (fun o i wr => ∃ (k : Nat) (x : List MarkV) (a : Option Addr) (n cc : Nat) (So : List Nat), k ≤ ps.length ∧ i = .int .i64 k ∧ o = .slice a n cc ∧ Hid (MarkSOwn So wr (.slice a n cc) x) ∧ Hid (∀ k ∈ So, w.heap.size ≤ k) ∧ Hid (jnTo ws ps k = some x) ∧ Hid (Below w.heap.size w wr)) (fun _ i _ => ps.length - (intOf i).toNat)
  case atStart => exact ⟨0, [], none, 0, 0, [], Nat.zero_le _, rfl, rfl, hide (.inl ⟨rfl, rfl, none, 0, rfl⟩), hide (by simp), hide rfl, B1⟩
  case round =>
    obtain ⟨k, x, oa, on, oc, So, hk, rfl, rfl, HX, HXL, HJ, HB⟩ := hrel
    by_cases hlt : k < ps.length
    · have hkw : k < ws.length := by have := unhide HL; omega
      obtain ⟨q1, bi, oi, ni, ci, ma, mn, mc, e1, hq1, hni, c1, d1, hm1, hsm1, -⟩ := choice_reach (unhide HS) ((unhide HC).up hb (unhide HB)) hlt (Nat.le_of_eq (unhide HL)) (unhide HIN)
      have p1 := (unhide HP).up hb2 (unhide HB) k hlt
      rw [e1] at p1
      have HA := hide (fun W (bW : Below wr.heap.size wr W) => implJoin_kit x (.slice oa on oc) (stampAt ws ps k) (.slice ma mn mc) W (jn_small (unhide HS) k x (unhide HJ)) hsm1 ((unhide HX).rd.up bW) (hm1.up bW))
      have HNO := hide (fun h => jn_stop (ws := ws) hlt (unhide HJ) h)
      have HYES := hide (fun h => jn_step (unhide HJ) h)
      clear hm1 hsm1 e1
      generalize joinV x (stampAt ws ps k) = y at *
      generalize joinOkB x (stampAt ws ps k) = r at *
      cases r
      · have HE1 := hide (unhide HNO rfl).1
        have HE2 := hide (unhide HNO rfl).2
        clear HNO HYES
        go_wp2_with fail
        refine (unhide HA _ (Below.refl _ _)).mono ?_
        rintro e w2 ⟨jv, Sj, rfl, HM, HML, hb2'⟩
        all_goals
          have hb3 := hide ((unhide HB).trans (Below.mono hb2' (unhide HB).size))
          obtain ⟨ja, jn, jc, rfl⟩ := (unhide HM).rd.form
          clear c1 d1 p1 hb2'
          go_wp2_with fail
          refine bodyPost_ret (v := .tuple #[.slice none 0 0, .bool false]) ?_ rfl ?_
          · simp [results, Try.results12, go_sem]
          rw [unhide HE1, unhide HE2]
          exact ⟨_, [], rfl, hide (.inl ⟨rfl, rfl, none, 0, rfl⟩), hide (by simp), unhide hb3⟩
      · have HJ2 := hide (unhide HYES rfl)
        clear HNO HYES
        go_wp2_with fail
        refine (unhide HA _ (Below.refl _ _)).mono ?_
        rintro e w2 ⟨jv, Sj, rfl, HM, HML, hb2'⟩
        all_goals
          have hb3 := hide ((unhide HB).trans (Below.mono hb2' (unhide HB).size))
          obtain ⟨ja, jn, jc, rfl⟩ := (unhide HM).rd.form
          have HML2 := hide (show ∀ k ∈ Sj, w.heap.size ≤ k from fun k hk => Nat.le_trans (unhide HB).size (unhide HML k hk))
          clear c1 d1 p1 hb2'
          go_wp2_with fail
          go_roundw
          case rel => exact ⟨k + 1, y, ja, jn, jc, Sj, by omega, by go_num, rfl, HM, HML2, HJ2, hb3⟩
          case measure => simp [intOf]; omega
    · obtain rfl : k = ps.length := by omega
      obtain ⟨hE1, hE2⟩ := ch_yes (unhide HCH) (unhide HJ)
      have HE1 := hide hE1
      have HE2 := hide hE2
      clear hE1 hE2
      go_wp2_with fail
      refine bodyPost_ret (v := .tuple #[.slice oa on oc, .bool true]) ?_ rfl ?_
      · simp [results, Try.results12, go_sem]
      rw [unhide HE1, unhide HE2]
      exact ⟨_, So, rfl, HX, HXL, unhide HB⟩
end Go.Proofs.Ytnijccmhajjdoaa
