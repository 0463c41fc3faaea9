/-
  The specification's SplitFeed. (Made by wip/mkfeeds.py.)
-/
/-
  The specification's SplitEnd.
-/
import Derived.Test.YtlgmmibncoedgaaMerged5
import Derived.Test.YtlgmmibncoedgaaMerged9
set_option linter.unusedVariables false
namespace Go.Proofs.Ytlgmmibncoedgaa
open Go.RowKit Go.Maps Go.Deep

set_option maxRecDepth 20000 in
set_option maxHeartbeats 12800000 in
theorem specFeed_rows (d : SplitV) (v : Value) (bs : List UInt8) (vb : Value) (w : World) (hs : SmallSplit d) (hb : SmallByteS bs) (h : SplitRd w v d) (h2 : ByRd w vb bs) :
    Calls Try.prog 17 #[v, vb] w fun e w' => RetFeedQ d bs w e w' := by
  obtain ⟨v0, rfl, h0⟩ := h
  obtain ⟨buf, lost⟩ := d
  obtain ⟨a, c, hv⟩ := h0.len
  subst hv
  obtain ⟨a1, c1, hv1⟩ := h2.len
  subst hv1
  have hsb : buf.length ≤ 1048576 := hs
  have hbb : bs.length ≤ 1048576 := hb
  simp only at h0 ⊢
  obtain ⟨x0, x1, bA⟩ := box2pair w [.slice a buf.length c, .int .i64 lost] [.slice none 0 0, .int .i64 0] 35 35
  simp only [List.toArray] at x0 x1 bA
  have HOK := hide (specSplitOk_any ⟨buf, lost⟩ (.agg #[.slice a buf.length c, .int .i64 lost]) _ hs ⟨_, rfl, h0.up bA⟩)
  have H0 := hide h0
  have H2 := hide h2
  obtain ⟨n, hn⟩ : ∃ n, n = buf.length := ⟨_, rfl⟩
  obtain ⟨m, hm⟩ : ∃ m, m = bs.length := ⟨_, rfl⟩
  have HN := hide hn
  have HM := hide hm
  rw [← hn] at x0 x1 bA HOK hsb H0 ⊢
  rw [← hm] at H2 hbb ⊢
  have X0 := hide x0
  have X1 := hide x1
  have BA := hide bA
  clear x0 x1 bA h0 h2 hs hb hn hm
  go_enter Try.func17, Try.ntmps17
  go_wp2_with fail
  generalize (w.alloc (.cells #[.slice a n c, .int .i64 lost] 35)).alloc (.cells #[.slice none 0 0, .int .i64 0] 35) = W2 at *
  refine (unhide HOK).mono ?_
  rintro e w3 ⟨rfl, b3⟩
  have B3 := hide ((unhide BA).trans (b3.mono (unhide BA).size))
  have XS3 := hide ((unhide X0).up b3)
  have XR3 := hide ((unhide X1).up b3)
  obtain ⟨⟨s0, s1⟩, -⟩ := two33 (unhide XS3)
  clear b3 BA X0 X1 HOK
  cases hok : splitOkB ⟨buf, lost⟩
  · have HNO := hide (show feedB ⟨buf, lost⟩ bs = false by unfold feedB; rw [hok]; rfl)
    obtain ⟨⟨y0, y1⟩, z0, z1⟩ := two33 (unhide XR3)
    have HE := hide (fun (W : World) (t : Turn [w.heap.size + 1] w3 W) => retFeedQ_no (unhide HNO) ((unhide B3).trans (t.below (unhide B3).size (by simp))))
    clear hok
    go_wp2_with fail
    refine bodyPost_ret (v := .tuple #[.agg #[.slice none 0 0, .int .i64 0], .slice none 0 0, .bool false]) (by simp [results, Try.results17, go_sem, y0, y1]) rfl ?_
    exact unhide HE _ (((Turn.refl [w.heap.size + 1] w3).setCell (g := w.heap.size + 1) (by simp) _ _).setCell (g := w.heap.size + 1) (by simp) _ _)
  · by_cases g2 : 4000 < (m : Int)
    · have HNO := hide (show feedB ⟨buf, lost⟩ bs = false by unfold feedB; rw [hok, decide_eq_false (show ¬ bs.length ≤ 4000 by rw [← unhide HM]; omega)]; rfl)
      obtain ⟨⟨y0, y1⟩, z0, z1⟩ := two33 (unhide XR3)
      have HE := hide (fun (W : World) (t : Turn [w.heap.size + 1] w3 W) => retFeedQ_no (unhide HNO) ((unhide B3).trans (t.below (unhide B3).size (by simp))))
      clear hok
      go_wp2_with fail
      refine bodyPost_ret (v := .tuple #[.agg #[.slice none 0 0, .int .i64 0], .slice none 0 0, .bool false]) (by simp [results, Try.results17, go_sem, y0, y1]) rfl ?_
      exact unhide HE _ (((Turn.refl [w.heap.size + 1] w3).setCell (g := w.heap.size + 1) (by simp) _ _).setCell (g := w.heap.size + 1) (by simp) _ _)
    · obtain ⟨hb270, hlost⟩ := ok_len hok
      simp only at hb270 hlost
      rw [← unhide HN] at hb270
      have hw1 : (9223372036854775807 : Int) - (m : Int) - (n : Int) ≤ 9223372036854775807 := by omega
      by_cases g3 : 9223372036854775807 - (m : Int) - (n : Int) < lost
      · have HNO := hide (show feedB ⟨buf, lost⟩ bs = false by unfold feedB; rw [decide_eq_false (show ¬ lost ≤ 9223372036854775807 - (bs.length : Int) - (buf.length : Int) by rw [← unhide HM, ← unhide HN]; omega)]; simp)
        obtain ⟨⟨y0, y1⟩, z0, z1⟩ := two33 (unhide XR3)
        have HE := hide (fun (W : World) (t : Turn [w.heap.size + 1] w3 W) => retFeedQ_no (unhide HNO) ((unhide B3).trans (t.below (unhide B3).size (by simp))))
        clear hok
        go_wp2_with fail
        refine bodyPost_ret (v := .tuple #[.agg #[.slice none 0 0, .int .i64 0], .slice none 0 0, .bool false]) (by simp [results, Try.results17, go_sem, y0, y1]) rfl ?_
        exact unhide HE _ (((Turn.refl [w.heap.size + 1] w3).setCell (g := w.heap.size + 1) (by simp) _ _).setCell (g := w.heap.size + 1) (by simp) _ _)
      · have HYES := hide (show feedB ⟨buf, lost⟩ bs = true by unfold feedB; rw [hok, decide_eq_true (show bs.length ≤ 4000 by rw [← unhide HM]; omega), decide_eq_true (show lost ≤ 9223372036854775807 - (bs.length : Int) - (buf.length : Int) by rw [← unhide HM, ← unhide HN]; omega)]; rfl)
        have R0 := hide (byLit w3 w3.heap.size (Nat.le_refl _))
        have BL := hide ((Below.refl w3.heap.size w3).alloc (Nat.le_refl _) (.cells #[] 5))
        have U0 := hide (((unhide H0).up (unhide B3)).up (unhide BL))
        have HQ1 := hide (show ([] : List UInt8).length + buf.length ≤ 140737488355328 by simp; rw [← unhide HN]; omega)
        have HQ2 := hide (show buf.length + bs.length ≤ 140737488355328 by rw [← unhide HN, ← unhide HM]; omega)
        have hz3 : w.heap.size < w3.heap.size := (unhide XS3).1.1
        clear hok
        go_wp2_with (first
          | (at_builtin; have _t := R4; refine wpList_byAppend rfl _ _ rfl w3.heap.size _ _ buf bs rfl rfl (unhide R4) (unhide U4) (unhide HQ2) (unhide B4).size ?_; intro a5 c5 w5 r5 g5 _; have R5 := hide r5; have B5 := hide ((unhide B4).grown g5 (unhide B4).size (fun y hy => (unhide R4).ge y hy)); obtain ⟨n5, HN5⟩ : ∃ n5, Hid (buf.length + bs.length = n5) := ⟨_, hide rfl⟩; rw [unhide HN5] at R5; rw [unhide HN5]; clear r5 g5 R4 B4)
          | (at_builtin; refine wpList_byAppend rfl _ _ rfl w3.heap.size _ _ [] buf rfl rfl (unhide R0) (unhide U0) (unhide HQ1) (unhide BL).size ?_; intro a4 c4 w4 r4 g4 _; simp only [List.nil_append] at r4; have B4 := hide ((unhide BL).grown g4 (unhide BL).size (fun y hy => (unhide R0).ge y hy)); obtain ⟨n4, HN4⟩ : ∃ n4, Hid (([] : List UInt8).length + buf.length = n4) := ⟨_, hide rfl⟩; rw [unhide HN4] at r4; rw [unhide HN4]; have R4 := hide r4; have U4 := hide (((unhide H2).up (unhide B3)).up (unhide B4)); clear r4 g4)
          | fail)
        have HWK := hide (specWalk_any (buf ++ bs) _ w5 (by rw [List.length_append, ← unhide HN, ← unhide HM]; omega) (unhide R5).rd)
        have XS5 := hide ((unhide XS3).up (unhide B5))
        have XR5 := hide ((unhide XR3).up (unhide B5))
        clear R5 s0 s1 XS3 XR3
        refine (unhide HWK).mono ?_
        rintro e w6 ⟨ra, rn, rc, xa, xn, xc, vs, rfl, RV, RI, RX, b6⟩
        have XS6 := hide ((unhide XS5).up b6)
        have XR6 := hide ((unhide XR5).up b6)
        have B6 := hide (((unhide B3).trans ((unhide B5).mono (unhide B3).size)).trans (b6.mono ((unhide B3).trans ((unhide B5).mono (unhide B3).size)).size))
        have Z5 := hide (show w.heap.size + 2 ≤ w5.heap.size from by have h1 := (unhide XR5).1.1; omega)
        have HE := hide (fun (W : World) (t : Turn [w.heap.size + 1] w6 W) => show RetFeedQ ⟨buf, lost⟩ bs w (.returned (.tuple #[.agg #[.slice xa xn xc, .int .i64 (lost + ((walkW (buf ++ bs)).2.2 : Int))], .slice ra rn rc, .bool true])) W from
          ⟨_, _, vs, by unfold feedS; rw [unhide HYES]; rfl, hide (by unfold feedS; rw [unhide HYES]; exact ((unhide RX).turn t (fun g hg => by have := (unhide RX).ge g hg; have := unhide Z5; simp; omega)).mono (by have := unhide Z5; omega)), hide (((unhide RV).turn t (by have := unhide Z5; simp; omega)).mono (by have := unhide Z5; omega)), hide (by unfold feedH; rw [unhide HYES]; exact ((unhide RI).turn t (by have := unhide Z5; simp; omega)).mono (by have := unhide Z5; omega)), (unhide B6).trans (t.below (unhide B6).size (by simp))⟩)
        have hq : 0 ≤ ((walkW (buf ++ bs)).2.2 : Int) ∧ ((walkW (buf ++ bs)).2.2 : Int) ≤ (n : Int) + (m : Int) := by have := (walk_len (buf ++ bs)).1; rw [List.length_append, ← unhide HN, ← unhide HM] at this; omega
        clear b6 RV RI RX HWK XS5 XR5 B5
        generalize (walkW (buf ++ bs)).2.2 = q at *
        obtain ⟨⟨s0, s1⟩, -⟩ := two33 (unhide XS6)
        obtain ⟨⟨y0, y1⟩, z0, z1⟩ := two33 (unhide XR6)
        go_wp2_with fail
        refine bodyPost_ret (v := .tuple #[.agg #[.slice xa xn xc, .int .i64 (lost + (q : Int))], .slice ra rn rc, .bool true]) (by simp [results, Try.results17, go_sem, y0, y1]) rfl ?_
        exact unhide HE _ (((Turn.refl [w.heap.size + 1] w6).setCell (g := w.heap.size + 1) (by simp) _ _).setCell (g := w.heap.size + 1) (by simp) _ _)
theorem specFeed_row (d : SplitV) (v : Value) (bs : List UInt8) (vb : Value) (w : World) (hs : SmallSplit d) (hb : SmallByteS bs) (h : SplitRd w v d) (h2 : ByRd w vb bs) :
    Calls Try.prog 17 #[v, vb] w fun e w' => RetFeedR d bs w e w' := (specFeed_rows d v bs vb w hs hb h h2).mono fun _ _ h => h.r
theorem specFeed_any (d : SplitV) (v : Value) (bs : List UInt8) (vb : Value) (w : World) (hs : SmallSplit d) (hb : SmallByteS bs) (h : SplitRd w v d) (h2 : ByRd w vb bs) :
    Calls Try.prog 17 #[v, vb] w fun e w' => RetFeedS d bs w e w' := (specFeed_row d v bs vb w hs hb h h2).mono fun _ _ h => h.s
end Go.Proofs.Ytlgmmibncoedgaa

set_option linter.unusedVariables false
namespace Go.Proofs.Ytlgmmibncoedgaa
open Go.RowKit Go.Maps Go.Deep

set_option maxRecDepth 20000 in
set_option maxHeartbeats 12800000 in
theorem specEnd_own (d : SplitV) (v : Value) (w : World) (hs : SmallSplit d) (h : SplitRd w v d) :
    Calls Try.prog 54 #[v] w fun e w' => RetEndI d w e w' := by
  obtain ⟨v0, rfl, h0⟩ := h
  obtain ⟨buf, lost⟩ := d
  obtain ⟨a, c, hv⟩ := h0.len
  subst hv
  have hsb : buf.length ≤ 1048576 := hs
  simp only at h0 ⊢
  have x0 := boxF_new w [.slice a buf.length c, .int .i64 lost] 35
  have bA := (Below.refl w.heap.size w).alloc (Nat.le_refl _) (.cells #[.slice a buf.length c, .int .i64 lost] 35)
  simp only [List.toArray] at x0 bA
  have HOK := hide (specSplitOk_any ⟨buf, lost⟩ (.agg #[.slice a buf.length c, .int .i64 lost]) _ hs ⟨_, rfl, h0.up bA⟩)
  have H0 := hide h0
  obtain ⟨n, hn⟩ : ∃ n, n = buf.length := ⟨_, rfl⟩
  have HN := hide hn
  rw [← hn] at x0 bA HOK hsb H0 ⊢
  have X0 := hide x0
  have BA := hide bA
  clear x0 bA h0 hs hn
  go_enter Try.func54, Try.ntmps54
  go_wp2_with fail
  generalize w.alloc (.cells #[.slice a n c, .int .i64 lost] 35) = W2 at *
  refine (unhide HOK).mono ?_
  rintro e w3 ⟨rfl, b3⟩
  have B3 := hide ((unhide BA).trans (b3.mono (unhide BA).size))
  have XS3 := hide ((unhide X0).up b3)
  obtain ⟨⟨s0, s1⟩, -⟩ := two33 (unhide XS3)
  clear b3 BA X0 HOK
  cases hok : splitOkB ⟨buf, lost⟩
  · have HNO := hide (show endB ⟨buf, lost⟩ = false by unfold endB; rw [hok]; rfl)
    clear hok
    go_wp2_with fail
    go_ret2
    exact retEndI_no (unhide HNO) (unhide B3)
  · obtain ⟨hb270, hlost⟩ := ok_len hok
    simp only at hb270 hlost
    rw [← unhide HN] at hb270
    by_cases g3 : 9223372036854775807 - (n : Int) < lost
    · have HNO := hide (show endB ⟨buf, lost⟩ = false by unfold endB; rw [decide_eq_false (show ¬ lost ≤ 9223372036854775807 - (buf.length : Int) by rw [← unhide HN]; omega)]; simp)
      clear hok
      go_wp2_with fail
      go_ret2
      exact retEndI_no (unhide HNO) (unhide B3)
    · have HYES := hide (show endB ⟨buf, lost⟩ = true by unfold endB; rw [hok, decide_eq_true (show lost ≤ 9223372036854775807 - (buf.length : Int) by rw [← unhide HN]; omega)]; rfl)
      clear hok
      go_wp2_with fail
      go_loopw [4, 5, 6] (fun o l b wr => ∃ (q : Nat) (oa : Option Addr) (on oc : Nat) (ba : Option Addr) (bn bc : Nat) (vs : List Value) (ns : List (List UInt8)) (cur : List UInt8), o = .slice oa on oc ∧ l = .int .i64 (lost + (q : Int)) ∧ b = .slice ba bn bc ∧ Hid (ByRd wr (.slice ba bn bc) cur) ∧ Hid (ETo buf cur ns q) ∧ Hid (BvRow w3.heap.size wr (.slice oa on oc) vs) ∧ Hid (BsIs w3.heap.size wr vs ns) ∧ Hid (Below w3.heap.size w3 wr)) (fun _ _ b _ => match b with | .slice _ n _ => n | _ => 0)
      case atStart => exact ⟨0, none, 0, 0, a, n, c, [], [], buf, rfl, by simp, rfl, hide ((unhide H0).up (unhide B3)), hide (ETo.zero buf), hide (BvRow.nil _ _), hide (BsIs.nil _ _), hide (Below.refl _ _)⟩
      case round =>
        obtain ⟨q, oa, on, oc, ba, bn, bc, vs, ns, cur, rfl, rfl, rfl, RB, HE, RV, RI, HB⟩ := hrel
        obtain ⟨hn, hnc⟩ := by_len (unhide RB)
        have HNC := hide hn
        have he := (unhide HE).1
        rw [← hn, ← unhide HN] at he
        have hvl := (unhide RI).len
        have HVL := hide hvl
        clear hn hvl
        by_cases h0 : bn = 0
        · have HD := hide ((unhide HE).done (by rw [← unhide HNC]; exact h0))
          subst h0
          have HR := hide (show RetEndI ⟨buf, lost⟩ w (.returned (.tuple #[.slice oa on oc, .int .i64 (lost + (q : Int))])) wr from by
            obtain ⟨Q, OW, QG⟩ := bss_own (unhide RV) (unhide RI)
            exact ⟨_, Q, by unfold endI; rw [unhide HYES]; simp only [if_true]; rw [unhide HD], hide (by unfold endH; rw [unhide HYES]; simp only [if_true]; rw [unhide HD]; exact OW), hide (fun k hk => by have := QG k hk; have := (unhide B3).size; omega), (unhide B3).trans ((unhide HB).mono (unhide B3).size)⟩)
          clear HE RV RI HD HB
          go_wp2_with fail
          go_ret2
          exact unhide HR
        · have hb0 : (0 : Int) < (bn : Int) := by omega
          have q1 : (1 : Int) ≤ (bc : Int) := by omega
          have q2 : (1 : Int) ≤ (bn : Int) := by omega
          have h1 : 1 ≤ cur.length := by rw [← unhide HNC]; omega
          have HS := hide ((unhide HE).step h1)
          have HBD := hide (by_drop (unhide RB) 1 h1)
          have HWL := hide (walk_len (cur.drop 1)).1
          have HDL := hide (show (cur.drop 1).length ≤ bn - 1 by rw [List.length_drop, ← unhide HNC]; omega)
          clear h1
          go_wp2_with fail
          all_goals
            refine (specWalk_any (cur.drop 1) _ wr (by have := unhide HDL; omega) (by first | exact unhide HBD | simpa [*, Addr.add] using unhide HBD)).mono ?_
            rintro e w6 ⟨ra, rn, rc, xa, xn, xc, us, rfl, RU, RM, RX, b6⟩
            have hws : ((walkW (cur.drop 1)).2.2 : Int) ≤ (bn : Int) - 1 := by have h1 := unhide HWL; have h2 := unhide HDL; omega
            have hws0 : (0 : Int) ≤ ((walkW (cur.drop 1)).2.2 : Int) := by omega
            have RV6 := hide ((unhide RV).up b6)
            have HUL := hide (unhide RM).len
            have HTL := hide (show vs.length + us.length ≤ 1000000 by have h1 := unhide HVL; have h2 := unhide HUL; have h3 := unhide HWL; have h4 := unhide HDL; omega)
            have HB6 := hide ((unhide HB).trans (b6.mono (unhide HB).size))
            have B6 := hide b6
            have HXL := hide (show xn = (walkW (cur.drop 1)).2.1.length from (by_len (unhide RX).rd).1)
            have hxl : xn < bn := by have h1 := unhide HXL; have h2 := unhide HWL; have h3 := unhide HDL; omega
            clear b6
            generalize hq : (walkW (cur.drop 1)).2.2 = q2 at *
            have HQ := hide hq
            clear hq
            go_wp2_with (first
              | (at_builtin; refine wpList_bvSpread rfl _ _ rfl w3.heap.size wr.heap.size _ _ vs us (walkW (cur.drop 1)).1 rfl rfl (unhide RV6) (unhide RU) (unhide RM) (unhide HTL) (unhide HB6).size ?_; intro a7 n7 c7 w7 r7 g7; have RV7 := hide r7; have KU := hide (KeepU.grown g7 (unhide RV6).typed); have HB7 := hide ((unhide HB6).grown g7 (unhide HB6).size (fun y hy => (unhide RV6).ge y hy)); clear r7 g7)
              | fail)
            all_goals
              exact ⟨⟨q + 1 + q2, _, _, _, _, _, _, _, _, _, rfl, by first | rfl | (congr 1; omega), rfl, hide ((unhide RX).keepU (unhide KU)).rd, HS, RV7, hide ((unhide RI).append ((KeepU.below (unhide B6)).trans (unhide KU)) (unhide HB).size ((unhide RM).keepU (unhide KU))), HB7⟩, by dsimp only; omega⟩
theorem specEnd_any (d : SplitV) (v : Value) (w : World) (hs : SmallSplit d) (h : SplitRd w v d) :
    Calls Try.prog 54 #[v] w fun e w' => RetEndS d w e w' := (specEnd_own d v w hs h).mono fun _ _ h => by
  obtain ⟨vr, Q, h0, h1, _, h3⟩ := h
  exact ⟨vr, h0, hide (unhide h1).rd, h3⟩
end Go.Proofs.Ytlgmmibncoedgaa
