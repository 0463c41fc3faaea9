/-
  The program's SplitEnd.
-/
/-
  The program's SplitSays.
-/
import Derived.Test.YtlgmmibncoedgaaEndIter
import Derived.Deep.RegionHeld
import Derived.Deep.DeepCutAuto
import Derived.Deep.CutBlock
import Derived.Test.YtlgmmibncoedgaaMerged29
import Derived.Test.YtlgmmibncoedgaaSplitFeedI
set_option linter.unusedVariables false
namespace Go.Proofs.Ytlgmmibncoedgaa
open Go.RowKit Go.Maps Go.Deep Go.Shelf

set_option maxHeartbeats 1600000 in
theorem countableE_any (a : Option Addr) (n c : Nat) (lost more : Int) (w : World) (h0 : 0 ≤ more) (h1 : more ≤ 100000000) :
    Calls Try.prog 42 #[.agg #[.slice a n c, .int .i64 lost], .int .i64 more] w fun e w' => e = .returned (.bool (decide (lost ≤ 9223372036854775807 - more))) ∧ Below w.heap.size w w' := by
  go_enter Try.func42, Try.ntmps42
  go_wp2_with fail
  go_ret
  exact ⟨rfl, by go_grown⟩
set_option maxRecDepth 20000 in
set_option maxHeartbeats 25600000 in
theorem implEnd_any (d : SplitV) (v : Value) (w : World) (hs : SmallSplit d) (h : SplitRd w v d) :
    Calls Try.prog 41 #[v] w fun e w' => RetEndI d w e w' := by
  obtain ⟨v0, rfl, h0⟩ := h
  obtain ⟨buf, lost⟩ := d
  obtain ⟨a, c, hv⟩ := h0.len
  subst hv
  have hsb : buf.length ≤ 1048576 := hs
  simp only at h0 ⊢
  have x0 := boxF_new w [.slice a buf.length c, .int .i64 lost] 35
  have bA := (Below.refl w.heap.size w).alloc (Nat.le_refl _) (.cells #[.slice a buf.length c, .int .i64 lost] 35)
  simp only [List.toArray] at x0 bA
  have HOK := hide (implSplitOk_any ⟨buf, lost⟩ (.agg #[.slice a buf.length c, .int .i64 lost]) _ hs ⟨_, rfl, h0.up bA⟩)
  have H0 := hide h0
  obtain ⟨n, hn⟩ : ∃ n, n = buf.length := ⟨_, rfl⟩
  have HN := hide hn
  rw [← hn] at x0 bA HOK hsb H0 ⊢
  have X0 := hide x0
  have BA := hide bA
  clear x0 bA h0 hs hn
  go_enter Try.func41, Try.ntmps41
  go_wp2_with fail
  generalize w.alloc (.cells #[.slice a n c, .int .i64 lost] 35) = W2 at *
  refine (unhide HOK).mono ?_
  rintro e w3 ⟨rfl, b3⟩
  have B3 := hide ((unhide BA).trans (b3.mono (unhide BA).size))
  have XS3 := hide ((unhide X0).up b3)
  obtain ⟨⟨s0, s1⟩, -⟩ := two33 (unhide XS3)
  clear b3 BA X0 HOK
  cases hok : splitOkB ⟨buf, lost⟩
  · have HNO := hide (show endB ⟨buf, lost⟩ = false by unfold endB; rw [hok]; rfl)
    clear hok
    go_wp2_with fail
    go_ret2
    exact retEndI_no (unhide HNO) (unhide B3)
  · obtain ⟨hb270, hlost⟩ := ok_len hok
    simp only at hb270 hlost
    rw [← unhide HN] at hb270
    have HCN := hide (countableE_any a n c lost (n : Int) w3 (by omega) (by omega))
    go_wp2_with fail
    refine (unhide HCN).mono ?_
    rintro e w4 ⟨rfl, b4⟩
    have B4 := hide ((unhide B3).trans (b4.mono (unhide B3).size))
    have XS4 := hide ((unhide XS3).up b4)
    clear b4 B3 XS3 s0 s1 HCN
    obtain ⟨⟨s0, s1⟩, -⟩ := two33 (unhide XS4)
    by_cases g3 : 9223372036854775807 - (n : Int) < lost
    · have HNO := hide (show endB ⟨buf, lost⟩ = false by unfold endB; rw [decide_eq_false (show ¬ lost ≤ 9223372036854775807 - (buf.length : Int) by rw [← unhide HN]; omega)]; simp)
      rw [decide_eq_false (show ¬ lost ≤ 9223372036854775807 - (n : Int) by omega)]
      clear hok
      go_wp2_with fail
      go_ret2
      exact retEndI_no (unhide HNO) (unhide B4)
    · have HYES := hide (show endB ⟨buf, lost⟩ = true by unfold endB; rw [hok, decide_eq_true (show lost ≤ 9223372036854775807 - (buf.length : Int) by rw [← unhide HN]; omega)]; rfl)
      rw [decide_eq_true (show lost ≤ 9223372036854775807 - (n : Int) by omega)]
      clear hok
      have HL5 := hide (show Lis (w4.alloc (.cells #[.slice a n c, .int .i64 lost] 76)) w4.heap.size a n c lost from World.alloc_heap_new _ _)
      have HB5 := hide ((Below.refl w4.heap.size w4).alloc (Nat.le_refl _) (.cells #[.slice a n c, .int .i64 lost] 76))
      have HZ5 := hide (show (w4.alloc (.cells #[.slice a n c, .int .i64 lost] 76)).heap.size = w4.heap.size + 1 by simp)
      go_wp2_with fail
      generalize w4.alloc (.cells #[.slice a n c, .int .i64 lost] 76) = W5 at *
      refine (lastBodies_any W5 w4.heap.size).mono ?_
      rintro e w6 ⟨rfl, hw6⟩
      have b6 : Below W5.heap.size W5 w6 := by rw [hw6]; exact (Below.refl _ _).alloc (Nat.le_refl _) _
      have P6 : Boxed w6 W5.heap.size 109 (.pointer (some ⟨w4.heap.size, 0, none⟩)) := by rw [hw6]; exact Boxed.new _ _ _
      have HBW := hide (((unhide B4).trans ((unhide HB5).mono (unhide B4).size)).trans (b6.mono ((unhide B4).trans ((unhide HB5).mono (unhide B4).size)).size))
      have HC := hide (collectEnd_any w.heap.size W5.heap.size w4.heap.size w6.heap.size (unhide B4).size buf (by rw [← unhide HN]; omega) lost hlost (by rw [← unhide HN]; omega) (by have := unhide HZ5; omega) w6 a c (Nat.le_refl _) (by rw [← unhide HN]; exact (unhide HL5).up b6) P6 (by rw [← unhide HN]; exact (ByU.of_rd (unhide H0)).keepG (KeepG.below (unhide HBW) (Nat.le_refl _))))
      have HZ6 := hide (show w.heap.size ≤ w4.heap.size ∧ w4.heap.size < w6.heap.size from ⟨(unhide B4).size, by have := b6.size; have := unhide HZ5; omega⟩)
      clear hw6 b6 P6 s0 s1 XS4 HL5 HB5 B4
      go_wp2_with fail
      refine (unhide HC).mono ?_
      rintro e w7 ⟨ra, rn, rc, pre, rfl, RV, HS, HT⟩
      obtain ⟨RI, la, lc, hL⟩ := unhide HS
      obtain ⟨c0, c1⟩ := hL.cells
      have HR := hide (fun (W : World) (b : Below w7.heap.size w7 W) => show RetEndI ⟨buf, lost⟩ w (.returned (.tuple #[.slice ra rn rc, .int .i64 (lost + ((endW buf).2 : Int))])) W from by
        obtain ⟨Q, OW, QG⟩ := bss_own (unhide RV) RI
        have hz := unhide HZ6
        exact ⟨_, Q, by unfold endI; rw [unhide HYES]; rfl, hide (by unfold endH; rw [unhide HYES]; exact OW.turn (Turn.of_below (S := []) b) (by simp)), hide (fun k hk => by have := QG k hk; omega), ((unhide HBW).trans ((unhide HT).below (unhide HBW).size (by simp; omega))).trans (b.mono ((unhide HBW).trans ((unhide HT).below (unhide HBW).size (by simp; omega))).size)⟩)
      clear RV HS HT RI hL HC HBW
      generalize (endW buf).2 = q at *
      go_wp2_with fail
      have hS : w7.drew.cell? ⟨w4.heap.size, 1, none⟩ = some (.int .i64 (lost + (q : Int))) := c1
      have HR7 := hide (unhide HR w7.drew (Below.refl _ _).drew)
      clear c0 c1 HR
      refine wp_region_held_drew (S := fun X : World => X.cell? ⟨w4.heap.size, 1, none⟩ = some (.int .i64 (lost + (q : Int)))) (by kernel_rfl) hS ?_
      intro hS
      generalize w7.drew = VD at *
      refine wpAnyH_take (i := 0) (v := .slice ra rn rc) rfl (by kernel_rfl) (by kernel_rfl) (by kernel_rfl) (fun _ _ _ h => h) (Or.inl ⟨by rfl, ?_⟩) hS ?_
      · intro X hX
        clear hS
        go_simp
        try with_reducible rfl
      try simp [Act.put]
      refine wpAnyH_take (i := 1) (v := .pointer (some ⟨w4.heap.size, 1, none⟩)) rfl (by kernel_rfl) (by kernel_rfl) (by kernel_rfl) (fun _ _ _ h => h) (Or.inl ⟨by rfl, ?_⟩) hS ?_
      · intro X hX
        clear hS
        go_simp
        try with_reducible rfl
      try simp [Act.put]
      refine wpAnyH_take (i := 2) (v := .int .i64 (lost + (q : Int))) rfl (by kernel_rfl) (by kernel_rfl) (by kernel_rfl) (fun _ _ _ h => h) (Or.inl ⟨by rfl, ?_⟩) hS ?_
      · intro X hX
        clear hS
        go_simp
        try with_reducible rfl
      try simp [Act.put]
      refine wpAnyH_take (i := 3) (v := .slice ra rn rc) rfl (by kernel_rfl) (by kernel_rfl) (by kernel_rfl) (fun _ _ _ h => h) (Or.inl ⟨by rfl, ?_⟩) hS ?_
      · intro X hX
        clear hS
        go_simp
        try with_reducible rfl
      try simp [Act.put]
      refine wpAnyH_take (i := 4) (v := .int .i64 (lost + (q : Int))) rfl (by kernel_rfl) (by kernel_rfl) (by kernel_rfl) (fun _ _ _ h => h) (Or.inl ⟨by rfl, ?_⟩) hS ?_
      · intro X hX
        clear hS
        go_simp
        try with_reducible rfl
      try simp [Act.put]
      refine wpAnyH_done (by kernel_rfl) ?_ _
      clear hS
      go_wp2_with fail
      go_ret2
      exact unhide HR7
end Go.Proofs.Ytlgmmibncoedgaa

set_option linter.unusedVariables false
namespace Go.Proofs.Ytlgmmibncoedgaa
open Go.RowKit Go.Maps Go.Deep

set_option maxRecDepth 20000 in
set_option maxHeartbeats 12800000 in
theorem implSays_any (bs : List UInt8) (vb : Value) (w : World) (hs : SmallByteS bs) (h : ByRd w vb bs) :
    Calls Try.prog 11 #[vb] w fun e w' => RetSays bs w e w' := by
  obtain ⟨a, c, hv⟩ := h.len
  subst hv
  have HF := hide (implFeed_rows ⟨[], 0⟩ (.agg #[.slice none 0 0, .int .i64 0]) bs _ w (by unfold SmallSplit; simp) hs ⟨_, rfl, ByRd.nil _ _ _⟩ h)
  have HB := hide (show bs.length ≤ 1048576 from hs)
  clear h hs
  obtain ⟨n, hn⟩ : ∃ n, n = bs.length := ⟨_, rfl⟩
  rw [← hn] at HF HB ⊢
  have HN := hide hn
  have hnb : n ≤ 1048576 := unhide HB
  clear hn
  go_enter Try.func11, Try.ntmps11
  go_wp2_with fail
  refine (unhide HF).mono ?_
  rintro e w1 ⟨v1, S1, vr, Q1, vs, rfl, OS1, _, _, _, _, RV1, RI1, b1⟩
  have B1 := hide b1
  obtain ⟨v0, hv0, RB1⟩ := (unhide OS1).rd
  subst hv0
  obtain ⟨xa, xc, hx⟩ := RB1.len
  subst hx
  obtain ⟨ra, rc, hr⟩ := (unhide RV1).form
  subst hr
  have A2 := hide ((Below.refl w1.heap.size w1).alloc (Nat.le_refl _) (.cells #[.slice xa (feedS ⟨[], 0⟩ bs).buf.length xc, .int .i64 (feedS ⟨[], 0⟩ bs).lost] 35))
  have XS2 := hide (boxF_new w1 [.slice xa (feedS ⟨[], 0⟩ bs).buf.length xc, .int .i64 (feedS ⟨[], 0⟩ bs).lost] 35)
  simp only [List.toArray] at XS2
  have HEN := hide (implEnd_any (feedS ⟨[], 0⟩ bs) (.agg #[.slice xa (feedS ⟨[], 0⟩ bs).buf.length xc, .int .i64 (feedS ⟨[], 0⟩ bs).lost]) _ (small_feedS _ _) ⟨_, rfl, RB1.up (unhide A2)⟩)
  have RV2 := hide ((unhide RV1).up (unhide A2))
  have RI2 := hide ((unhide RI1).keepU (KeepU.below (unhide A2)))
  have B2 := hide ((unhide B1).trans ((unhide A2).mono (unhide B1).size))
  clear b1 RB1 OS1 RV1 RI1 HF A2 B1
  generalize hlo : (feedS ⟨[], 0⟩ bs).lost = lo at *
  generalize hbl : (feedS ⟨[], 0⟩ bs).buf.length = bl at *
  clear hlo hbl
  cases hfb : feedB ⟨[], 0⟩ bs
  · have HNO := hide hfb
    clear hfb
    go_wp2_with fail
    go_ret2
    exact retSays_no (unhide HNO) (unhide B2)
  · have HYES := hide hfb
    have HLEN := hide (all_len hfb)
    have HBD := hide (all_bound bs)
    have hei := endI_pos bs
    clear hfb
    go_wp2_with fail
    generalize w1.alloc (.cells #[.slice xa bl xc, .int .i64 lo] 35) = W2 at *
    refine (unhide HEN).mono ?_
    rintro e w3 ⟨vm, Q, rfl, OM, QG, b3⟩
    obtain ⟨ma, mc, hm, _⟩ := unhide OM
    subst hm
    have RV3 := hide ((unhide RV2).up b3)
    have HQ3 := hide (((unhide RI2).q (unhide RV2)).turn (Turn.of_below (S := []) b3) (by simp))
    have B3 := hide ((unhide B2).trans (b3.mono (unhide B2).size))
    have HQD := hide (show ∀ k ∈ Q, (Value.slice ra vs.length rc).ownBlock ≠ some k from fun k hk e => by have h1 := (unhide RV2).lt k e; have h2 := unhide QG k hk; omega)
    have HVL := hide (show LenOk vs (endH (feedS ⟨[], 0⟩ bs)) by unfold LenOk; have h1 := (unhide HQ3).1; have h2 := (small_feedH ⟨[], 0⟩ bs).1; have h3 := (small_endH (feedS ⟨[], 0⟩ bs)).1; omega)
    clear b3 B2 RV2 RI2 QG HEN XS2
    generalize vs.length = nv at *
    generalize (endH (feedS ⟨[], 0⟩ bs)).length = ne at *
    go_wp2_with (first
      | (at_builtin; refine wpList_bssSpread rfl _ _ rfl w.heap.size Q _ _ vs (endH (feedS ⟨[], 0⟩ bs)) rfl rfl (unhide RV3) (unhide OM) (unhide HVL) (unhide B3).size ?_; intro us a4 n4 c4 w4 hn4 r4 g4 q4; have RD4 := hide (show ByteSSRd w4 (.slice a4 n4 c4) (allH bs) from spread_all (unhide HQ3) q4 (unhide HQD) g4 r4); have B4 := hide ((unhide B3).grown g4 (unhide B3).size (fun y hy => (unhide RV3).ge y hy)); clear hn4 r4 g4 q4)
      | fail)
    clear RV3 OM HQ3 HQD HVL B3
    have HN4 := hide (rdLenB (unhide RD4))
    have hal : (allH bs).length ≤ 4000 := (unhide HBD).1
    have HSI := hide (show saysI bs = (n : Int) - (wordB (allH bs) : Int) by unfold saysI; rw [unhide HYES, ← unhide HN]; rfl)
    clear hei
    generalize endI (feedS ⟨[], 0⟩ bs) = ei at *
    have hn4 : n4 = (allH bs).length := unhide HN4
    subst hn4
    go_loopw [9, 10, 35] (fun ov lv iv wr => ∃ (k : Nat) (xs : List (SayV × Value)) (oa : Option Addr) (on oc q : Nat), k ≤ (allH bs).length ∧ iv = .int .i64 (k : Int) ∧ lv = .int .i64 ((n : Int) - (q : Int)) ∧ ov = .slice oa on oc ∧ Hid (q = wordB ((allH bs).take k)) ∧ Hid (SyRow w4.heap.size wr (.slice oa on oc) xs) ∧ Hid (SysO w4.heap.size wr (.slice oa on oc) xs) ∧ Hid (xs.map (·.1) = saysL ((allH bs).take k)) ∧ Hid (Below w4.heap.size w4 wr)) (fun _ _ i _ => (allH bs).length - (intOf i).toNat)
    case atStart => exact ⟨0, [], none, 0, 0, 0, Nat.zero_le _, rfl, by simp, rfl, hide (by simp [wordB, sumB]), hide (SyRow.nil _ _), hide (SysO.nil _ _ _), hide (by simp [saysL]), hide (Below.refl _ _)⟩
    case round =>
      obtain ⟨k, xs, oa, on, oc, q, hk, rfl, rfl, rfl, HQ, HR, HO, HX, HB4⟩ := hrel
      have hq : q ≤ 4000 := by have h1 := unhide HQ; have h2 := (sumB_take_le (allH bs) k).1; have h3 := (unhide HBD).2.1; omega
      by_cases hlt : k < (allH bs).length
      · obtain ⟨b, off, va, vc, ha4, _, hcell, hv⟩ := rdAtB ((unhide RD4).up (unhide HB4)) k hlt
        subst ha4
        have HRD := hide (fun (W : World) (bW : Below wr.heap.size wr W) => (rdAtB (((unhide RD4).up (unhide HB4)).up bW) k hlt))
        have hxl : (allH bs)[k].length ≤ 260 := (unhide HBD).2.2 _ (List.getElem_mem hlt)
        have HSR := hide (implSayRead_kit (allH bs)[k] _ wr (by unfold SmallByteS; omega) hv)
        have HTS := hide (take_snocB (allH bs) k hlt)
        clear hv
        generalize hxk : (allH bs)[k] = xk at *
        clear hxk
        go_wp2_with fail
        refine (unhide HSR).mono ?_
        rintro e w5 ⟨v5, S5, rfl, O5, G5, b5⟩
        obtain ⟨u5, hv5, OV5⟩ := unhide O5
        subst hv5
        obtain ⟨ua, uc, hu⟩ := OV5.rd.len
        subst hu
        have OVS := hide OV5
        have B5 := hide b5
        have hbl : b < wr.heap.size := lt_of_cell0 hcell
        clear O5 OV5 b5 HSR
        have HRW := hide ((unhide HR).up (unhide B5))
        have hzr := (unhide HB4).size
        have hz5 := (unhide B5).size
        cases hsi : sayIs xk
        · have HS2 := hide (saysL_snoc_no (ls := (allH bs).take k) hsi)
          generalize sayV xk = y at *
          generalize xk.length = xl at *
          have B6 := hide ((unhide B5).trans (((Below.refl w5.heap.size w5).alloc (Nat.le_refl _) (.cells #[.int .i64 y.kind, .int .i64 y.src, .int .i64 y.dst, .string y.name, .int .i64 y.val, .slice ua y.stamp.length uc] 26)).mono hz5))
          go_wp2_with fail
          go_roundw
          case rel => exact ⟨k + 1, xs, oa, on, oc, q, by omega, by go_num, rfl, rfl, hide (by rw [unhide HTS, (unhide HS2).2.1, unhide HQ]), hide ((unhide HR).up (unhide B6)), hide ((unhide HO).up (unhide B6)), hide (by rw [unhide HTS, (unhide HS2).1]; exact unhide HX), hide ((unhide HB4).trans ((unhide B6).mono hzr))⟩
          case measure => simp [intOf]; omega
        · have HS2 := hide (saysL_snoc_yes (ls := (allH bs).take k) hsi)
          generalize sayV xk = y at *
          generalize xk.length = xl at *
          have A6 := hide ((Below.refl w5.heap.size w5).alloc (Nat.le_refl _) (.cells #[.int .i64 y.kind, .int .i64 y.src, .int .i64 y.dst, .string y.name, .int .i64 y.val, .slice ua y.stamp.length uc] 26))
          have A7 := hide ((unhide A6).alloc (by simp) (.cells #[.int .i64 y.kind, .int .i64 y.src, .int .i64 y.dst, .string y.name, .int .i64 y.val, .slice ua y.stamp.length uc] 26))
          have R7 := hide (((unhide HR).up (unhide B5)).up (unhide A7))
          have C7 := hide (sayCellsNew (w5.alloc (.cells #[.int .i64 y.kind, .int .i64 y.src, .int .i64 y.dst, .string y.name, .int .i64 y.val, .slice ua y.stamp.length uc] 26)) y.kind y.src y.dst y.name y.val (.slice ua y.stamp.length uc) y.stamp 26)
          have HXL := hide (show xs.length ≤ 1000000 by have h1 := congrArg List.length (unhide HX); have h2 := saysL_len ((allH bs).take k); rw [List.length_map] at h1; rw [List.length_take] at h2; omega)
          have HZ7 := hide (show w4.heap.size ≤ ((w5.alloc (.cells #[.int .i64 y.kind, .int .i64 y.src, .int .i64 y.dst, .string y.name, .int .i64 y.val, .slice ua y.stamp.length uc] 26)).alloc (.cells #[.int .i64 y.kind, .int .i64 y.src, .int .i64 y.dst, .string y.name, .int .i64 y.val, .slice ua y.stamp.length uc] 26)).heap.size by simp; omega)
          rw [World.size_alloc] at C7
          go_wp2_with (first
            | (at_builtin; refine wpList_syAppend rfl _ _ rfl w4.heap.size _ xs y ua y.stamp.length uc (w5.heap.size + 1) rfl rfl (unhide R7) (unhide C7) (unhide HXL) (unhide HZ7) ?_; intro g8 n8 c8 w8 r8 gr8 hg8; have R8 := hide r8; have O8 := hide ((unhide HO).snoc (n := n8) (c := c8) (fun k hk => (unhide HR).lt k hk) hzr (unhide B5) (unhide OVS) (unhide G5) (unhide A7) gr8 hg8); have B8 := hide ((((unhide HB4).trans ((unhide B5).mono hzr)).trans ((unhide A7).mono (by omega))).grown gr8 (unhide HZ7) (fun y hy => (unhide R7).ge y hy)); clear r8 gr8 hg8)
            | fail)
          go_roundw
          case rel => exact ⟨k + 1, _, _, n8, c8, q + xl + 5, by omega, by go_num, by congr 1; omega, rfl, hide (by rw [unhide HTS, (unhide HS2).2.1, unhide HQ]), R8, O8, hide (by rw [unhide HTS, (unhide HS2).1, List.map_append, unhide HX]; rfl), B8⟩
          case measure => simp [intOf]; omega
      · have ek : (allH bs).take k = allH bs := List.take_of_length_le (by omega)
        rw [ek] at HQ HX
        have HE := hide (show RetSays bs w (.returned (.tuple #[.slice oa on oc, .int .i64 ((n : Int) - (q : Int))])) wr from by
          obtain ⟨S, OW, SG⟩ := (unhide HR).own (unhide HO)
          rw [unhide HX] at OW
          exact ⟨_, S, by rw [unhide HSI, ← unhide HQ], hide OW, hide (fun k hk => by have h1 := SG k hk; have h2 := (unhide B4).size; omega), (unhide B4).trans ((unhide HB4).mono (unhide B4).size)⟩)
        clear HR HO HX HQ ek
        go_wp2_with fail
        go_ret2
        exact unhide HE
end Go.Proofs.Ytlgmmibncoedgaa
