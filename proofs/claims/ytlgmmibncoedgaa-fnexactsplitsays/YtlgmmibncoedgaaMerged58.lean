/-
  The specification's SplitEnd.
-/
/-
  The specification's SplitSays.
-/
import Derived.Test.YtlgmmibncoedgaaMerged11
import Derived.Test.YtlgmmibncoedgaaMerged29
import Derived.Test.YtlgmmibncoedgaaSplitFeedS
set_option linter.unusedVariables false
namespace Go.Proofs.Ytlgmmibncoedgaa
open Go.RowKit Go.Maps Go.Deep

set_option maxRecDepth 20000 in
set_option maxHeartbeats 12800000 in
theorem specEnd_own (d : SplitV) (v : Value) (w : World) (hs : SmallSplit d) (h : SplitRd w v d) :
    Calls Try.prog 54 #[v] w fun e w' => RetEndI d w e w' := by
  obtain ⟨v0, rfl, h0⟩ := h
  obtain ⟨buf, lost⟩ := d
  obtain ⟨a, c, hv⟩ := h0.len
  subst hv
  have hsb : buf.length ≤ 1048576 := hs
  simp only at h0 ⊢
  have x0 := boxF_new w [.slice a buf.length c, .int .i64 lost] 35
  have bA := (Below.refl w.heap.size w).alloc (Nat.le_refl _) (.cells #[.slice a buf.length c, .int .i64 lost] 35)
  simp only [List.toArray] at x0 bA
  have HOK := hide (specSplitOk_any ⟨buf, lost⟩ (.agg #[.slice a buf.length c, .int .i64 lost]) _ hs ⟨_, rfl, h0.up bA⟩)
  have H0 := hide h0
  obtain ⟨n, hn⟩ : ∃ n, n = buf.length := ⟨_, rfl⟩
  have HN := hide hn
  rw [← hn] at x0 bA HOK hsb H0 ⊢
  have X0 := hide x0
  have BA := hide bA
  clear x0 bA h0 hs hn
  go_enter Try.func54, Try.ntmps54
  go_wp2_with fail
  generalize w.alloc (.cells #[.slice a n c, .int .i64 lost] 35) = W2 at *
  refine (unhide HOK).mono ?_
  rintro e w3 ⟨rfl, b3⟩
  have B3 := hide ((unhide BA).trans (b3.mono (unhide BA).size))
  have XS3 := hide ((unhide X0).up b3)
  obtain ⟨⟨s0, s1⟩, -⟩ := two33 (unhide XS3)
  clear b3 BA X0 HOK
  cases hok : splitOkB ⟨buf, lost⟩
  · have HNO := hide (show endB ⟨buf, lost⟩ = false by unfold endB; rw [hok]; rfl)
    clear hok
    go_wp2_with fail
    go_ret2
    exact retEndI_no (unhide HNO) (unhide B3)
  · obtain ⟨hb270, hlost⟩ := ok_len hok
    simp only at hb270 hlost
    rw [← unhide HN] at hb270
    by_cases g3 : 9223372036854775807 - (n : Int) < lost
    · have HNO := hide (show endB ⟨buf, lost⟩ = false by unfold endB; rw [decide_eq_false (show ¬ lost ≤ 9223372036854775807 - (buf.length : Int) by rw [← unhide HN]; omega)]; simp)
      clear hok
      go_wp2_with fail
      go_ret2
      exact retEndI_no (unhide HNO) (unhide B3)
    · have HYES := hide (show endB ⟨buf, lost⟩ = true by unfold endB; rw [hok, decide_eq_true (show lost ≤ 9223372036854775807 - (buf.length : Int) by rw [← unhide HN]; omega)]; rfl)
      clear hok
      go_wp2_with fail
      go_loopw [4, 5, 6] (fun o l b wr => ∃ (q : Nat) (oa : Option Addr) (on oc : Nat) (ba : Option Addr) (bn bc : Nat) (vs : List Value) (ns : List (List UInt8)) (cur : List UInt8), o = .slice oa on oc ∧ l = .int .i64 (lost + (q : Int)) ∧ b = .slice ba bn bc ∧ Hid (ByRd wr (.slice ba bn bc) cur) ∧ Hid (ETo buf cur ns q) ∧ Hid (BvRow w3.heap.size wr (.slice oa on oc) vs) ∧ Hid (BsIs w3.heap.size wr vs ns) ∧ Hid (Below w3.heap.size w3 wr)) (fun _ _ b _ => match b with | .slice _ n _ => n | _ => 0)
      case atStart => exact ⟨0, none, 0, 0, a, n, c, [], [], buf, rfl, by simp, rfl, hide ((unhide H0).up (unhide B3)), hide (ETo.zero buf), hide (BvRow.nil _ _), hide (BsIs.nil _ _), hide (Below.refl _ _)⟩
      case round =>
        obtain ⟨q, oa, on, oc, ba, bn, bc, vs, ns, cur, rfl, rfl, rfl, RB, HE, RV, RI, HB⟩ := hrel
        obtain ⟨hn, hnc⟩ := by_len (unhide RB)
        have HNC := hide hn
        have he := (unhide HE).1
        rw [← hn, ← unhide HN] at he
        have hvl := (unhide RI).len
        have HVL := hide hvl
        clear hn hvl
        by_cases h0 : bn = 0
        · have HD := hide ((unhide HE).done (by rw [← unhide HNC]; exact h0))
          subst h0
          have HR := hide (show RetEndI ⟨buf, lost⟩ w (.returned (.tuple #[.slice oa on oc, .int .i64 (lost + (q : Int))])) wr from by
            obtain ⟨Q, OW, QG⟩ := bss_own (unhide RV) (unhide RI)
            exact ⟨_, Q, by unfold endI; rw [unhide HYES]; simp only [if_true]; rw [unhide HD], hide (by unfold endH; rw [unhide HYES]; simp only [if_true]; rw [unhide HD]; exact OW), hide (fun k hk => by have := QG k hk; have := (unhide B3).size; omega), (unhide B3).trans ((unhide HB).mono (unhide B3).size)⟩)
          clear HE RV RI HD HB
          go_wp2_with fail
          go_ret2
          exact unhide HR
        · have hb0 : (0 : Int) < (bn : Int) := by omega
          have q1 : (1 : Int) ≤ (bc : Int) := by omega
          have q2 : (1 : Int) ≤ (bn : Int) := by omega
          have h1 : 1 ≤ cur.length := by rw [← unhide HNC]; omega
          have HS := hide ((unhide HE).step h1)
          have HBD := hide (by_drop (unhide RB) 1 h1)
          have HWL := hide (walk_len (cur.drop 1)).1
          have HDL := hide (show (cur.drop 1).length ≤ bn - 1 by rw [List.length_drop, ← unhide HNC]; omega)
          clear h1
          go_wp2_with fail
          all_goals
            refine (specWalk_any (cur.drop 1) _ wr (by have := unhide HDL; omega) (by first | exact unhide HBD | simpa [*, Addr.add] using unhide HBD)).mono ?_
            rintro e w6 ⟨ra, rn, rc, xa, xn, xc, us, rfl, RU, RM, RX, b6⟩
            have hws : ((walkW (cur.drop 1)).2.2 : Int) ≤ (bn : Int) - 1 := by have h1 := unhide HWL; have h2 := unhide HDL; omega
            have hws0 : (0 : Int) ≤ ((walkW (cur.drop 1)).2.2 : Int) := by omega
            have RV6 := hide ((unhide RV).up b6)
            have HUL := hide (unhide RM).len
            have HTL := hide (show vs.length + us.length ≤ 1000000 by have h1 := unhide HVL; have h2 := unhide HUL; have h3 := unhide HWL; have h4 := unhide HDL; omega)
            have HB6 := hide ((unhide HB).trans (b6.mono (unhide HB).size))
            have B6 := hide b6
            have HXL := hide (show xn = (walkW (cur.drop 1)).2.1.length from (by_len (unhide RX).rd).1)
            have hxl : xn < bn := by have h1 := unhide HXL; have h2 := unhide HWL; have h3 := unhide HDL; omega
            clear b6
            generalize hq : (walkW (cur.drop 1)).2.2 = q2 at *
            have HQ := hide hq
            clear hq
            go_wp2_with (first
              | (at_builtin; refine wpList_bvSpread rfl _ _ rfl w3.heap.size wr.heap.size _ _ vs us (walkW (cur.drop 1)).1 rfl rfl (unhide RV6) (unhide RU) (unhide RM) (unhide HTL) (unhide HB6).size ?_; intro a7 n7 c7 w7 r7 g7; have RV7 := hide r7; have KU := hide (KeepU.grown g7 (unhide RV6).typed); have HB7 := hide ((unhide HB6).grown g7 (unhide HB6).size (fun y hy => (unhide RV6).ge y hy)); clear r7 g7)
              | fail)
            all_goals
              exact ⟨⟨q + 1 + q2, _, _, _, _, _, _, _, _, _, rfl, by first | rfl | (congr 1; omega), rfl, hide ((unhide RX).keepU (unhide KU)).rd, HS, RV7, hide ((unhide RI).append ((KeepU.below (unhide B6)).trans (unhide KU)) (unhide HB).size ((unhide RM).keepU (unhide KU))), HB7⟩, by dsimp only; omega⟩
theorem specEnd_any (d : SplitV) (v : Value) (w : World) (hs : SmallSplit d) (h : SplitRd w v d) :
    Calls Try.prog 54 #[v] w fun e w' => RetEndS d w e w' := (specEnd_own d v w hs h).mono fun _ _ h => by
  obtain ⟨vr, Q, h0, h1, _, h3⟩ := h
  exact ⟨vr, h0, hide (unhide h1).rd, h3⟩
end Go.Proofs.Ytlgmmibncoedgaa

set_option linter.unusedVariables false
namespace Go.Proofs.Ytlgmmibncoedgaa
open Go.RowKit Go.Maps Go.Deep

set_option maxRecDepth 20000 in
set_option maxHeartbeats 12800000 in
theorem specSays_any (bs : List UInt8) (vb : Value) (w : World) (hs : SmallByteS bs) (h : ByRd w vb bs) :
    Calls Try.prog 21 #[vb] w fun e w' => RetSays bs w e w' := by
  obtain ⟨a, c, hv⟩ := h.len
  subst hv
  have HF := hide (specFeed_rows ⟨[], 0⟩ (.agg #[.slice none 0 0, .int .i64 0]) bs _ w (by unfold SmallSplit; simp) hs ⟨_, rfl, ByRd.nil _ _ _⟩ h)
  have HB := hide (show bs.length ≤ 1048576 from hs)
  clear h hs
  generalize bs.length = n at *
  go_enter Try.func21, Try.ntmps21
  go_wp2_with fail
  refine (unhide HF).mono ?_
  rintro e w1 ⟨v0, vr, vs, rfl, RB1, RV1, RI1, b1⟩
  have B1 := hide b1
  obtain ⟨xa, xc, hx⟩ := (unhide RB1).slice
  subst hx
  obtain ⟨ra, rc, hr⟩ := (unhide RV1).form
  subst hr
  have A2 := hide ((Below.refl w1.heap.size w1).alloc (Nat.le_refl _) (.cells #[.slice xa (feedS ⟨[], 0⟩ bs).buf.length xc, .int .i64 (feedS ⟨[], 0⟩ bs).lost] 35))
  have XS2 := hide (boxF_new w1 [.slice xa (feedS ⟨[], 0⟩ bs).buf.length xc, .int .i64 (feedS ⟨[], 0⟩ bs).lost] 35)
  simp only [List.toArray] at XS2
  have HEN := hide (specEnd_own (feedS ⟨[], 0⟩ bs) (.agg #[.slice xa (feedS ⟨[], 0⟩ bs).buf.length xc, .int .i64 (feedS ⟨[], 0⟩ bs).lost]) _ (small_feedS _ _) ⟨_, rfl, (unhide RB1).rd.up (unhide A2)⟩)
  have RV2 := hide ((unhide RV1).up (unhide A2))
  have RI2 := hide ((unhide RI1).keepU (KeepU.below (unhide A2)))
  have B2 := hide ((unhide B1).trans ((unhide A2).mono (unhide B1).size))
  clear b1 RB1 RV1 RI1 HF A2 B1
  generalize hlo : (feedS ⟨[], 0⟩ bs).lost = lo at *
  generalize hbl : (feedS ⟨[], 0⟩ bs).buf.length = bl at *
  clear hlo hbl
  cases hfb : feedB ⟨[], 0⟩ bs
  · have HNO := hide hfb
    clear hfb
    go_wp2_with fail
    go_ret2
    exact retSays_no (unhide HNO) (unhide B2)
  · have HYES := hide hfb
    have HLEN := hide (all_len hfb)
    have HSP := hide (says_spec hfb)
    have HBD := hide (all_bound bs)
    have hei := endI_pos bs
    clear hfb
    go_wp2_with fail
    generalize w1.alloc (.cells #[.slice xa bl xc, .int .i64 lo] 35) = W2 at *
    refine (unhide HEN).mono ?_
    rintro e w3 ⟨vm, Q, rfl, OM, QG, b3⟩
    obtain ⟨ma, mc, hm, _⟩ := unhide OM
    subst hm
    have RV3 := hide ((unhide RV2).up b3)
    have HQ3 := hide (((unhide RI2).q (unhide RV2)).turn (Turn.of_below (S := []) b3) (by simp))
    have B3 := hide ((unhide B2).trans (b3.mono (unhide B2).size))
    have HQD := hide (show ∀ k ∈ Q, (Value.slice ra vs.length rc).ownBlock ≠ some k from fun k hk e => by have h1 := (unhide RV2).lt k e; have h2 := unhide QG k hk; omega)
    have HVL := hide (show LenOk vs (endH (feedS ⟨[], 0⟩ bs)) by unfold LenOk; have h1 := (unhide HQ3).1; have h2 := (small_feedH ⟨[], 0⟩ bs).1; have h3 := (small_endH (feedS ⟨[], 0⟩ bs)).1; omega)
    clear b3 B2 RV2 RI2 QG HEN XS2
    generalize vs.length = nv at *
    generalize (endH (feedS ⟨[], 0⟩ bs)).length = ne at *
    go_wp2_with (first
      | (at_builtin; refine wpList_bssSpread rfl _ _ rfl w.heap.size Q _ _ vs (endH (feedS ⟨[], 0⟩ bs)) rfl rfl (unhide RV3) (unhide OM) (unhide HVL) (unhide B3).size ?_; intro us a4 n4 c4 w4 hn4 r4 g4 q4; have RD4 := hide (show ByteSSRd w4 (.slice a4 n4 c4) (allH bs) from spread_all (unhide HQ3) q4 (unhide HQD) g4 r4); have B4 := hide ((unhide B3).grown g4 (unhide B3).size (fun y hy => (unhide RV3).ge y hy)); clear hn4 r4 g4 q4)
      | fail)
    clear RV3 OM HQ3 HQD HVL B3
    have HN4 := hide (rdLenB (unhide RD4))
    have hal : (allH bs).length ≤ 4000 := (unhide HBD).1
    have hel : endI (feedS ⟨[], 0⟩ bs) ≤ 4000 := by have h1 := unhide HLEN; have h2 := (feed_yes (unhide HYES)).2.2.2.1; omega
    generalize endI (feedS ⟨[], 0⟩ bs) = ei at *
    have hn4 : n4 = (allH bs).length := unhide HN4
    subst hn4
    go_loopw [8, 9, 10] (fun lv ov iv wr => ∃ (k : Nat) (xs : List (SayV × Value)) (oa : Option Addr) (on oc q : Nat), k ≤ (allH bs).length ∧ iv = .int .i64 (k : Int) ∧ lv = .int .i64 (ei + (q : Int)) ∧ ov = .slice oa on oc ∧ Hid (q = looseB ((allH bs).take k)) ∧ Hid (SyRow w4.heap.size wr (.slice oa on oc) xs) ∧ Hid (SysO w4.heap.size wr (.slice oa on oc) xs) ∧ Hid (xs.map (·.1) = saysL ((allH bs).take k)) ∧ Hid (Below w4.heap.size w4 wr)) (fun _ _ i _ => (allH bs).length - (intOf i).toNat)
    case atStart => exact ⟨0, [], none, 0, 0, 0, Nat.zero_le _, rfl, by simp, rfl, hide (by simp [looseB, sumB]), hide (SyRow.nil _ _), hide (SysO.nil _ _ _), hide (by simp [saysL]), hide (Below.refl _ _)⟩
    case round =>
      obtain ⟨k, xs, oa, on, oc, q, hk, rfl, rfl, rfl, HQ, HR, HO, HX, HB4⟩ := hrel
      have hq : q ≤ 4000 := by have h1 := unhide HQ; have h2 := (sumB_take_le (allH bs) k).2; have h3 := (unhide HBD).2.1; omega
      by_cases hlt : k < (allH bs).length
      · obtain ⟨b, off, va, vc, ha4, _, hcell, hv⟩ := rdAtB ((unhide RD4).up (unhide HB4)) k hlt
        subst ha4
        have HRD := hide (fun (W : World) (bW : Below wr.heap.size wr W) => (rdAtB (((unhide RD4).up (unhide HB4)).up bW) k hlt))
        have hxl : (allH bs)[k].length ≤ 260 := (unhide HBD).2.2 _ (List.getElem_mem hlt)
        have HSR := hide (specSayRead_own (allH bs)[k] _ wr (by unfold SmallByteS; omega) hv)
        have HTS := hide (take_snocB (allH bs) k hlt)
        clear hv
        generalize hxk : (allH bs)[k] = xk at *
        clear hxk
        go_wp2_with fail
        refine (unhide HSR).mono ?_
        rintro e w5 ⟨v5, S5, rfl, O5, G5, b5⟩
        obtain ⟨u5, hv5, OV5⟩ := unhide O5
        subst hv5
        obtain ⟨ua, uc, hu⟩ := OV5.rd.len
        subst hu
        have OVS := hide OV5
        have B5 := hide b5
        have hbl : b < wr.heap.size := lt_of_cell0 hcell
        clear O5 OV5 b5 HSR
        have HRW := hide ((unhide HR).up (unhide B5))
        have hzr := (unhide HB4).size
        have hz5 := (unhide B5).size
        cases hsi : sayIs xk
        · have HS2 := hide (saysL_snoc_no (ls := (allH bs).take k) hsi)
          generalize sayV xk = y at *
          generalize xk.length = xl at *
          have h6 : (w5.alloc (.cells #[.int .i64 y.kind, .int .i64 y.src, .int .i64 y.dst, .string y.name, .int .i64 y.val, .slice ua y.stamp.length uc] 26)).cell? ⟨b, off + k, none⟩ = some (.slice va xl vc) := by
            have bb := (unhide B5).trans (((Below.refl w5.heap.size w5).alloc (Nat.le_refl _) (.cells #[.int .i64 y.kind, .int .i64 y.src, .int .i64 y.dst, .string y.name, .int .i64 y.val, .slice ua y.stamp.length uc] 26)).mono hz5)
            exact (bb.cell (by exact hbl)).trans hcell
          have B6 := hide ((unhide B5).trans (((Below.refl w5.heap.size w5).alloc (Nat.le_refl _) (.cells #[.int .i64 y.kind, .int .i64 y.src, .int .i64 y.dst, .string y.name, .int .i64 y.val, .slice ua y.stamp.length uc] 26)).mono hz5))
          go_wp2_with fail
          go_roundw
          case rel => exact ⟨k + 1, xs, oa, on, oc, q + xl + 5, by omega, by go_num, by congr 1; omega, rfl, hide (by rw [unhide HTS, (unhide HS2).2.2, unhide HQ]), hide ((unhide HR).up (unhide B6)), hide ((unhide HO).up (unhide B6)), hide (by rw [unhide HTS, (unhide HS2).1]; exact unhide HX), hide ((unhide HB4).trans ((unhide B6).mono hzr))⟩
          case measure => simp [intOf]; omega
        · have HS2 := hide (saysL_snoc_yes (ls := (allH bs).take k) hsi)
          generalize sayV xk = y at *
          generalize xk.length = xl at *
          have A6 := hide ((Below.refl w5.heap.size w5).alloc (Nat.le_refl _) (.cells #[.int .i64 y.kind, .int .i64 y.src, .int .i64 y.dst, .string y.name, .int .i64 y.val, .slice ua y.stamp.length uc] 26))
          have A7 := hide ((unhide A6).alloc (by simp) (.cells #[.int .i64 y.kind, .int .i64 y.src, .int .i64 y.dst, .string y.name, .int .i64 y.val, .slice ua y.stamp.length uc] 26))
          have R7 := hide (((unhide HR).up (unhide B5)).up (unhide A7))
          have C7 := hide (sayCellsNew (w5.alloc (.cells #[.int .i64 y.kind, .int .i64 y.src, .int .i64 y.dst, .string y.name, .int .i64 y.val, .slice ua y.stamp.length uc] 26)) y.kind y.src y.dst y.name y.val (.slice ua y.stamp.length uc) y.stamp 26)
          have HXL := hide (show xs.length ≤ 1000000 by have h1 := congrArg List.length (unhide HX); have h2 := saysL_len ((allH bs).take k); rw [List.length_map] at h1; rw [List.length_take] at h2; omega)
          have HZ7 := hide (show w4.heap.size ≤ ((w5.alloc (.cells #[.int .i64 y.kind, .int .i64 y.src, .int .i64 y.dst, .string y.name, .int .i64 y.val, .slice ua y.stamp.length uc] 26)).alloc (.cells #[.int .i64 y.kind, .int .i64 y.src, .int .i64 y.dst, .string y.name, .int .i64 y.val, .slice ua y.stamp.length uc] 26)).heap.size by simp; omega)
          rw [World.size_alloc] at C7
          go_wp2_with (first
            | (at_builtin; refine wpList_syAppend rfl _ _ rfl w4.heap.size _ xs y ua y.stamp.length uc (w5.heap.size + 1) rfl rfl (unhide R7) (unhide C7) (unhide HXL) (unhide HZ7) ?_; intro g8 n8 c8 w8 r8 gr8 hg8; have R8 := hide r8; have O8 := hide ((unhide HO).snoc (n := n8) (c := c8) (fun k hk => (unhide HR).lt k hk) hzr (unhide B5) (unhide OVS) (unhide G5) (unhide A7) gr8 hg8); have B8 := hide ((((unhide HB4).trans ((unhide B5).mono hzr)).trans ((unhide A7).mono (by omega))).grown gr8 (unhide HZ7) (fun y hy => (unhide R7).ge y hy)); clear r8 gr8 hg8)
            | fail)
          go_roundw
          case rel => exact ⟨k + 1, _, _, n8, c8, q, by omega, by go_num, rfl, rfl, hide (by rw [unhide HTS, (unhide HS2).2.2, unhide HQ]), R8, O8, hide (by rw [unhide HTS, (unhide HS2).1, List.map_append, unhide HX]; rfl), B8⟩
          case measure => simp [intOf]; omega
      · have ek : (allH bs).take k = allH bs := List.take_of_length_le (by omega)
        rw [ek] at HQ HX
        have HE := hide (show RetSays bs w (.returned (.tuple #[.slice oa on oc, .int .i64 (ei + (q : Int))])) wr from by
          obtain ⟨S, OW, SG⟩ := (unhide HR).own (unhide HO)
          rw [unhide HX] at OW
          exact ⟨_, S, by rw [← unhide HSP, ← unhide HQ], hide OW, hide (fun k hk => by have h1 := SG k hk; have h2 := (unhide B4).size; omega), (unhide B4).trans ((unhide HB4).mono (unhide B4).size)⟩)
        clear HR HO HX HQ ek
        go_wp2_with fail
        go_ret2
        exact unhide HE
end Go.Proofs.Ytlgmmibncoedgaa
