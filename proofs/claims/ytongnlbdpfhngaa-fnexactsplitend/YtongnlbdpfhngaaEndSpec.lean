/-
  The specification's SplitEnd.
-/
import Derived.Test.YtongnlbdpfhngaaEndK
set_option linter.unusedVariables false
namespace Go.Proofs.Ytongnlbdpfhngaa
open Go.RowKit Go.Maps Go.Deep

set_option maxRecDepth 20000 in
set_option maxHeartbeats 12800000 in
theorem specEnd_any (d : SplitV) (v : Value) (w : World) (hs : SmallSplit d) (h : SplitRd w v d) :
    Calls Try.prog 5 #[v] w fun e w' => RetEndS d w e w' := by
  obtain ⟨v0, rfl, h0⟩ := h
  obtain ⟨buf, lost⟩ := d
  obtain ⟨a, c, hv⟩ := h0.len
  subst hv
  have hsb : buf.length ≤ 1048576 := hs
  simp only at h0 ⊢
  have x0 := boxF_new w [.slice a buf.length c, .int .i64 lost] 29
  have bA := (Below.refl w.heap.size w).alloc (Nat.le_refl _) (.cells #[.slice a buf.length c, .int .i64 lost] 29)
  simp only [List.toArray] at x0 bA
  have HOK := hide (specSplitOk_any ⟨buf, lost⟩ (.agg #[.slice a buf.length c, .int .i64 lost]) _ hs ⟨_, rfl, h0.up bA⟩)
  have H0 := hide h0
  obtain ⟨n, hn⟩ : ∃ n, n = buf.length := ⟨_, rfl⟩
  have HN := hide hn
  rw [← hn] at x0 bA HOK hsb H0 ⊢
  have X0 := hide x0
  have BA := hide bA
  clear x0 bA h0 hs hn
  go_enter Try.func5, Try.ntmps5
  go_wp2_with fail
  generalize w.alloc (.cells #[.slice a n c, .int .i64 lost] 29) = W2 at *
  refine (unhide HOK).mono ?_
  rintro e w3 ⟨rfl, b3⟩
  have B3 := hide ((unhide BA).trans (b3.mono (unhide BA).size))
  have XS3 := hide ((unhide X0).up b3)
  obtain ⟨⟨s0, s1⟩, -⟩ := two33 (unhide XS3)
  clear b3 BA X0 HOK
  cases hok : splitOkB ⟨buf, lost⟩
  · have HNO := hide (show endB ⟨buf, lost⟩ = false by unfold endB; rw [hok]; rfl)
    clear hok
    go_wp2_with fail
    go_ret2
    exact retEnd_no (unhide HNO) (unhide B3)
  · obtain ⟨hb270, hlost⟩ := ok_len hok
    simp only at hb270 hlost
    rw [← unhide HN] at hb270
    by_cases g3 : 9223372036854775807 - (n : Int) < lost
    · have HNO := hide (show endB ⟨buf, lost⟩ = false by unfold endB; rw [decide_eq_false (show ¬ lost ≤ 9223372036854775807 - (buf.length : Int) by rw [← unhide HN]; omega)]; simp)
      clear hok
      go_wp2_with fail
      go_ret2
      exact retEnd_no (unhide HNO) (unhide B3)
    · have HYES := hide (show endB ⟨buf, lost⟩ = true by unfold endB; rw [hok, decide_eq_true (show lost ≤ 9223372036854775807 - (buf.length : Int) by rw [← unhide HN]; omega)]; rfl)
      clear hok
      go_wp2_with fail
      go_loopw [4, 5, 6] (fun o l b wr => ∃ (q : Nat) (oa : Option Addr) (on oc : Nat) (ba : Option Addr) (bn bc : Nat) (vs : List Value) (ns : List (List UInt8)) (cur : List UInt8), o = .slice oa on oc ∧ l = .int .i64 (lost + (q : Int)) ∧ b = .slice ba bn bc ∧ Hid (ByRd wr (.slice ba bn bc) cur) ∧ Hid (ETo buf cur ns q) ∧ Hid (BvRow w3.heap.size wr (.slice oa on oc) vs) ∧ Hid (BsIs w3.heap.size wr vs ns) ∧ Hid (Below w3.heap.size w3 wr)) (fun _ _ b _ => match b with | .slice _ n _ => n | _ => 0)
      case atStart => exact ⟨0, none, 0, 0, a, n, c, [], [], buf, rfl, by simp, rfl, hide ((unhide H0).up (unhide B3)), hide (ETo.zero buf), hide (BvRow.nil _ _), hide (BsIs.nil _ _), hide (Below.refl _ _)⟩
      case round =>
        obtain ⟨q, oa, on, oc, ba, bn, bc, vs, ns, cur, rfl, rfl, rfl, RB, HE, RV, RI, HB⟩ := hrel
        obtain ⟨hn, hnc⟩ := by_len (unhide RB)
        have HNC := hide hn
        have he := (unhide HE).1
        rw [← hn, ← unhide HN] at he
        have hvl := (unhide RI).len
        have HVL := hide hvl
        clear hn hvl
        by_cases h0 : bn = 0
        · have HD := hide ((unhide HE).done (by rw [← unhide HNC]; exact h0))
          subst h0
          have HR := hide (show RetEndS ⟨buf, lost⟩ w (.returned (.tuple #[.slice oa on oc, .int .i64 (lost + (q : Int))])) wr from by
            obtain ⟨Q, OW, _⟩ := bss_own (unhide RV) (unhide RI)
            exact ⟨_, by unfold endI; rw [unhide HYES]; simp only [if_true]; rw [unhide HD], hide (by unfold endH; rw [unhide HYES]; simp only [if_true]; rw [unhide HD]; exact OW.rd), (unhide B3).trans ((unhide HB).mono (unhide B3).size)⟩)
          clear HE RV RI HD HB
          go_wp2_with fail
          go_ret2
          exact unhide HR
        · have hb0 : (0 : Int) < (bn : Int) := by omega
          have q1 : (1 : Int) ≤ (bc : Int) := by omega
          have q2 : (1 : Int) ≤ (bn : Int) := by omega
          have h1 : 1 ≤ cur.length := by rw [← unhide HNC]; omega
          have HS := hide ((unhide HE).step h1)
          have HBD := hide (by_drop (unhide RB) 1 h1)
          have HWL := hide (walk_len (cur.drop 1)).1
          have HDL := hide (show (cur.drop 1).length ≤ bn - 1 by rw [List.length_drop, ← unhide HNC]; omega)
          clear h1
          go_wp2_with fail
          all_goals
            refine (specWalk_any (cur.drop 1) _ wr (by have := unhide HDL; omega) (by first | exact unhide HBD | simpa [*, Addr.add] using unhide HBD)).mono ?_
            rintro e w6 ⟨ra, rn, rc, xa, xn, xc, us, rfl, RU, RM, RX, b6⟩
            have hws : ((walkW (cur.drop 1)).2.2 : Int) ≤ (bn : Int) - 1 := by have h1 := unhide HWL; have h2 := unhide HDL; omega
            have hws0 : (0 : Int) ≤ ((walkW (cur.drop 1)).2.2 : Int) := by omega
            have RV6 := hide ((unhide RV).up b6)
            have HUL := hide (unhide RM).len
            have HTL := hide (show vs.length + us.length ≤ 1000000 by have h1 := unhide HVL; have h2 := unhide HUL; have h3 := unhide HWL; have h4 := unhide HDL; omega)
            have HB6 := hide ((unhide HB).trans (b6.mono (unhide HB).size))
            have B6 := hide b6
            have HXL := hide (show xn = (walkW (cur.drop 1)).2.1.length from (by_len (unhide RX).rd).1)
            have hxl : xn < bn := by have h1 := unhide HXL; have h2 := unhide HWL; have h3 := unhide HDL; omega
            clear b6
            generalize hq : (walkW (cur.drop 1)).2.2 = q2 at *
            have HQ := hide hq
            clear hq
            go_wp2_with (first
              | (at_builtin; refine wpList_bvSpread rfl _ _ rfl w3.heap.size wr.heap.size _ _ vs us (walkW (cur.drop 1)).1 rfl rfl (unhide RV6) (unhide RU) (unhide RM) (unhide HTL) (unhide HB6).size ?_; intro a7 n7 c7 w7 r7 g7; have RV7 := hide r7; have KU := hide (KeepU.grown g7 (unhide RV6).typed); have HB7 := hide ((unhide HB6).grown g7 (unhide HB6).size (fun y hy => (unhide RV6).ge y hy)); clear r7 g7)
              | fail)
            all_goals
              exact ⟨⟨q + 1 + q2, _, _, _, _, _, _, _, _, _, rfl, by first | rfl | (congr 1; omega), rfl, hide ((unhide RX).keepU (unhide KU)).rd, HS, RV7, hide ((unhide RI).append ((KeepU.below (unhide B6)).trans (unhide KU)) (unhide HB).size ((unhide RM).keepU (unhide KU))), HB7⟩, by dsimp only; omega⟩
end Go.Proofs.Ytongnlbdpfhngaa
