/-
  The specification's SplitFeed. (Made by wip/mkfeeds.py.)
-/
import Derived.Test.YtlgmmibncoedgaaMerged11
set_option linter.unusedVariables false
namespace Go.Proofs.Ytlgmmibncoedgaa
open Go.RowKit Go.Maps Go.Deep

set_option maxRecDepth 20000 in
set_option maxHeartbeats 12800000 in
theorem specFeed_rows (d : SplitV) (v : Value) (bs : List UInt8) (vb : Value) (w : World) (hs : SmallSplit d) (hb : SmallByteS bs) (h : SplitRd w v d) (h2 : ByRd w vb bs) :
    Calls Try.prog 17 #[v, vb] w fun e w' => RetFeedQ d bs w e w' := by
  obtain ⟨v0, rfl, h0⟩ := h
  obtain ⟨buf, lost⟩ := d
  obtain ⟨a, c, hv⟩ := h0.len
  subst hv
  obtain ⟨a1, c1, hv1⟩ := h2.len
  subst hv1
  have hsb : buf.length ≤ 1048576 := hs
  have hbb : bs.length ≤ 1048576 := hb
  simp only at h0 ⊢
  obtain ⟨x0, x1, bA⟩ := box2pair w [.slice a buf.length c, .int .i64 lost] [.slice none 0 0, .int .i64 0] 35 35
  simp only [List.toArray] at x0 x1 bA
  have HOK := hide (specSplitOk_any ⟨buf, lost⟩ (.agg #[.slice a buf.length c, .int .i64 lost]) _ hs ⟨_, rfl, h0.up bA⟩)
  have H0 := hide h0
  have H2 := hide h2
  obtain ⟨n, hn⟩ : ∃ n, n = buf.length := ⟨_, rfl⟩
  obtain ⟨m, hm⟩ : ∃ m, m = bs.length := ⟨_, rfl⟩
  have HN := hide hn
  have HM := hide hm
  rw [← hn] at x0 x1 bA HOK hsb H0 ⊢
  rw [← hm] at H2 hbb ⊢
  have X0 := hide x0
  have X1 := hide x1
  have BA := hide bA
  clear x0 x1 bA h0 h2 hs hb hn hm
  go_enter Try.func17, Try.ntmps17
  go_wp2_with fail
  generalize (w.alloc (.cells #[.slice a n c, .int .i64 lost] 35)).alloc (.cells #[.slice none 0 0, .int .i64 0] 35) = W2 at *
  refine (unhide HOK).mono ?_
  rintro e w3 ⟨rfl, b3⟩
  have B3 := hide ((unhide BA).trans (b3.mono (unhide BA).size))
  have XS3 := hide ((unhide X0).up b3)
  have XR3 := hide ((unhide X1).up b3)
  obtain ⟨⟨s0, s1⟩, -⟩ := two33 (unhide XS3)
  clear b3 BA X0 X1 HOK
  cases hok : splitOkB ⟨buf, lost⟩
  · have HNO := hide (show feedB ⟨buf, lost⟩ bs = false by unfold feedB; rw [hok]; rfl)
    obtain ⟨⟨y0, y1⟩, z0, z1⟩ := two33 (unhide XR3)
    have HE := hide (fun (W : World) (t : Turn [w.heap.size + 1] w3 W) => retFeedQ_no (unhide HNO) ((unhide B3).trans (t.below (unhide B3).size (by simp))))
    clear hok
    go_wp2_with fail
    refine bodyPost_ret (v := .tuple #[.agg #[.slice none 0 0, .int .i64 0], .slice none 0 0, .bool false]) (by simp [results, Try.results17, go_sem, y0, y1]) rfl ?_
    exact unhide HE _ (((Turn.refl [w.heap.size + 1] w3).setCell (g := w.heap.size + 1) (by simp) _ _).setCell (g := w.heap.size + 1) (by simp) _ _)
  · by_cases g2 : 4000 < (m : Int)
    · have HNO := hide (show feedB ⟨buf, lost⟩ bs = false by unfold feedB; rw [hok, decide_eq_false (show ¬ bs.length ≤ 4000 by rw [← unhide HM]; omega)]; rfl)
      obtain ⟨⟨y0, y1⟩, z0, z1⟩ := two33 (unhide XR3)
      have HE := hide (fun (W : World) (t : Turn [w.heap.size + 1] w3 W) => retFeedQ_no (unhide HNO) ((unhide B3).trans (t.below (unhide B3).size (by simp))))
      clear hok
      go_wp2_with fail
      refine bodyPost_ret (v := .tuple #[.agg #[.slice none 0 0, .int .i64 0], .slice none 0 0, .bool false]) (by simp [results, Try.results17, go_sem, y0, y1]) rfl ?_
      exact unhide HE _ (((Turn.refl [w.heap.size + 1] w3).setCell (g := w.heap.size + 1) (by simp) _ _).setCell (g := w.heap.size + 1) (by simp) _ _)
    · obtain ⟨hb270, hlost⟩ := ok_len hok
      simp only at hb270 hlost
      rw [← unhide HN] at hb270
      have hw1 : (9223372036854775807 : Int) - (m : Int) - (n : Int) ≤ 9223372036854775807 := by omega
      by_cases g3 : 9223372036854775807 - (m : Int) - (n : Int) < lost
      · have HNO := hide (show feedB ⟨buf, lost⟩ bs = false by unfold feedB; rw [decide_eq_false (show ¬ lost ≤ 9223372036854775807 - (bs.length : Int) - (buf.length : Int) by rw [← unhide HM, ← unhide HN]; omega)]; simp)
        obtain ⟨⟨y0, y1⟩, z0, z1⟩ := two33 (unhide XR3)
        have HE := hide (fun (W : World) (t : Turn [w.heap.size + 1] w3 W) => retFeedQ_no (unhide HNO) ((unhide B3).trans (t.below (unhide B3).size (by simp))))
        clear hok
        go_wp2_with fail
        refine bodyPost_ret (v := .tuple #[.agg #[.slice none 0 0, .int .i64 0], .slice none 0 0, .bool false]) (by simp [results, Try.results17, go_sem, y0, y1]) rfl ?_
        exact unhide HE _ (((Turn.refl [w.heap.size + 1] w3).setCell (g := w.heap.size + 1) (by simp) _ _).setCell (g := w.heap.size + 1) (by simp) _ _)
      · have HYES := hide (show feedB ⟨buf, lost⟩ bs = true by unfold feedB; rw [hok, decide_eq_true (show bs.length ≤ 4000 by rw [← unhide HM]; omega), decide_eq_true (show lost ≤ 9223372036854775807 - (bs.length : Int) - (buf.length : Int) by rw [← unhide HM, ← unhide HN]; omega)]; rfl)
        have R0 := hide (byLit w3 w3.heap.size (Nat.le_refl _))
        have BL := hide ((Below.refl w3.heap.size w3).alloc (Nat.le_refl _) (.cells #[] 5))
        have U0 := hide (((unhide H0).up (unhide B3)).up (unhide BL))
        have HQ1 := hide (show ([] : List UInt8).length + buf.length ≤ 140737488355328 by simp; rw [← unhide HN]; omega)
        have HQ2 := hide (show buf.length + bs.length ≤ 140737488355328 by rw [← unhide HN, ← unhide HM]; omega)
        have hz3 : w.heap.size < w3.heap.size := (unhide XS3).1.1
        clear hok
        go_wp2_with (first
          | (at_builtin; have _t := R4; refine wpList_byAppend rfl _ _ rfl w3.heap.size _ _ buf bs rfl rfl (unhide R4) (unhide U4) (unhide HQ2) (unhide B4).size ?_; intro a5 c5 w5 r5 g5 _; have R5 := hide r5; have B5 := hide ((unhide B4).grown g5 (unhide B4).size (fun y hy => (unhide R4).ge y hy)); obtain ⟨n5, HN5⟩ : ∃ n5, Hid (buf.length + bs.length = n5) := ⟨_, hide rfl⟩; rw [unhide HN5] at R5; rw [unhide HN5]; clear r5 g5 R4 B4)
          | (at_builtin; refine wpList_byAppend rfl _ _ rfl w3.heap.size _ _ [] buf rfl rfl (unhide R0) (unhide U0) (unhide HQ1) (unhide BL).size ?_; intro a4 c4 w4 r4 g4 _; simp only [List.nil_append] at r4; have B4 := hide ((unhide BL).grown g4 (unhide BL).size (fun y hy => (unhide R0).ge y hy)); obtain ⟨n4, HN4⟩ : ∃ n4, Hid (([] : List UInt8).length + buf.length = n4) := ⟨_, hide rfl⟩; rw [unhide HN4] at r4; rw [unhide HN4]; have R4 := hide r4; have U4 := hide (((unhide H2).up (unhide B3)).up (unhide B4)); clear r4 g4)
          | fail)
        have HWK := hide (specWalk_any (buf ++ bs) _ w5 (by rw [List.length_append, ← unhide HN, ← unhide HM]; omega) (unhide R5).rd)
        have XS5 := hide ((unhide XS3).up (unhide B5))
        have XR5 := hide ((unhide XR3).up (unhide B5))
        clear R5 s0 s1 XS3 XR3
        refine (unhide HWK).mono ?_
        rintro e w6 ⟨ra, rn, rc, xa, xn, xc, vs, rfl, RV, RI, RX, b6⟩
        have XS6 := hide ((unhide XS5).up b6)
        have XR6 := hide ((unhide XR5).up b6)
        have B6 := hide (((unhide B3).trans ((unhide B5).mono (unhide B3).size)).trans (b6.mono ((unhide B3).trans ((unhide B5).mono (unhide B3).size)).size))
        have Z5 := hide (show w.heap.size + 2 ≤ w5.heap.size from by have h1 := (unhide XR5).1.1; omega)
        have HE := hide (fun (W : World) (t : Turn [w.heap.size + 1] w6 W) => show RetFeedQ ⟨buf, lost⟩ bs w (.returned (.tuple #[.agg #[.slice xa xn xc, .int .i64 (lost + ((walkW (buf ++ bs)).2.2 : Int))], .slice ra rn rc, .bool true])) W from
          ⟨_, _, vs, by unfold feedS; rw [unhide HYES]; rfl, hide (by unfold feedS; rw [unhide HYES]; exact ((unhide RX).turn t (fun g hg => by have := (unhide RX).ge g hg; have := unhide Z5; simp; omega)).mono (by have := unhide Z5; omega)), hide (((unhide RV).turn t (by have := unhide Z5; simp; omega)).mono (by have := unhide Z5; omega)), hide (by unfold feedH; rw [unhide HYES]; exact ((unhide RI).turn t (by have := unhide Z5; simp; omega)).mono (by have := unhide Z5; omega)), (unhide B6).trans (t.below (unhide B6).size (by simp))⟩)
        have hq : 0 ≤ ((walkW (buf ++ bs)).2.2 : Int) ∧ ((walkW (buf ++ bs)).2.2 : Int) ≤ (n : Int) + (m : Int) := by have := (walk_len (buf ++ bs)).1; rw [List.length_append, ← unhide HN, ← unhide HM] at this; omega
        clear b6 RV RI RX HWK XS5 XR5 B5
        generalize (walkW (buf ++ bs)).2.2 = q at *
        obtain ⟨⟨s0, s1⟩, -⟩ := two33 (unhide XS6)
        obtain ⟨⟨y0, y1⟩, z0, z1⟩ := two33 (unhide XR6)
        go_wp2_with fail
        refine bodyPost_ret (v := .tuple #[.agg #[.slice xa xn xc, .int .i64 (lost + (q : Int))], .slice ra rn rc, .bool true]) (by simp [results, Try.results17, go_sem, y0, y1]) rfl ?_
        exact unhide HE _ (((Turn.refl [w.heap.size + 1] w6).setCell (g := w.heap.size + 1) (by simp) _ _).setCell (g := w.heap.size + 1) (by simp) _ _)
theorem specFeed_row (d : SplitV) (v : Value) (bs : List UInt8) (vb : Value) (w : World) (hs : SmallSplit d) (hb : SmallByteS bs) (h : SplitRd w v d) (h2 : ByRd w vb bs) :
    Calls Try.prog 17 #[v, vb] w fun e w' => RetFeedR d bs w e w' := (specFeed_rows d v bs vb w hs hb h h2).mono fun _ _ h => h.r
theorem specFeed_any (d : SplitV) (v : Value) (bs : List UInt8) (vb : Value) (w : World) (hs : SmallSplit d) (hb : SmallByteS bs) (h : SplitRd w v d) (h2 : ByRd w vb bs) :
    Calls Try.prog 17 #[v, vb] w fun e w' => RetFeedS d bs w e w' := (specFeed_row d v bs vb w hs hb h h2).mono fun _ _ h => h.s
end Go.Proofs.Ytlgmmibncoedgaa
