/-
  The specification's GatherPut, where a feed may be. (Made by wip/mkputgs.py.)
-/
import Derived.Test.YtknkdbfgfcgkiaaGreatDoorMerged47
import Derived.Deep.RegionWith
set_option linter.unusedVariables false
namespace Go.Proofs.YtknkdbfgfcgkiaaGreatDoor
open Go.RowKit Go.Maps Go.Deep

set_option maxRecDepth 20000 in
set_option maxHeartbeats 25600000 in
theorem specGPut_in (g : GatherV) (f : FeedV) (v u : Value) (w : World) (hs : SmallGather g) (hf : SmallFeed f) (h : GatherOwn [] w v g) (hu : FeedRd w u f) (hyes : feedB g f = true) :
  Calls Tryz.prog 6 #[v, u] w fun e w' => RetSR (gpG g f) (gpS g f) (gpC g f) w e w' := by
 have MB := hide (fun h => gp_bad (g := g) (f := f) (.inr h))
 have MO := hide (fun h => gp_old hyes h)
 have MK := hide (fun p h => gp_kept hyes p h)
 have MF := hide (fun p h h2 => gp_full hyes p h h2)
 have MS := hide (fun p h h2 h3 => gp_shows hyes p h h2 h3)
 obtain ⟨hgb, -, hwl, hwb, -, k, hk, hkl, hwa⟩ := feedB_parts hyes
 obtain ⟨h1, h6⟩ := winsB_len hwb
 have KG := hide (fun (W : World) (bW : Below w.heap.size w W) => specGatherOk_any g v W hs (h.up bW))
 rw [hgb] at KG
 have KC := hide (fun (W : World) (bW : Below w.heap.size w W) => l16Copy_any g v W hgb (h.rd.up bW))
 have hrd := h.rd
 obtain ⟨a0, n0, c0, a1, n1, c1, a2, n2, c2, rfl⟩ := hrd.form
 obtain ⟨hn0, hn1, hparts⟩ := gather_parts hrd
 obtain ⟨-, hW, -⟩ := hparts w (Below.refl _ _)
 obtain ⟨sv, rfl, hsv⟩ := hu
 obtain ⟨sa, sn, sc, rfl⟩ := hsv.form
 obtain ⟨inn, it⟩ := f
 simp only at hk
 subst hk
 have hfi : SmallItem it := hf.2
 have hws := small_winAt hs.2.1 ⟨(k : Int), it⟩
 have HWS := hide (small_gpW (f := ⟨(k : Int), it⟩) hs.2.1 hfi hws)
 have HMS := hide hs.2.2
 obtain ⟨a', c', e, hwi⟩ := hW
 simp only [Value.slice.injEq] at e
 obtain ⟨rfl, rfl, rfl⟩ := e
 rcases hwi with h0 | ⟨b, off, rfl, hb, hc⟩
 ·rw [h0] at h1; simp at h1
 obtain ⟨wv, d0, hwv⟩ := hc k hkl
 have hwv2 : ItemSRd w wv (winAt g ⟨(k : Int), it⟩) := by rw [winAt_get hkl]; exact hwv
 obtain ⟨ia, im, ic, rfl⟩ := hwv.form
 have KP := hide (fun (W : World) (bW : Below w.heap.size w W) => specPut_own (winAt g ⟨(k : Int), it⟩) (.slice ia im ic) it (.agg #[.int .i64 it.a0, .slice sa sn sc]) W hws hfi (hwv2.up bW) ⟨_, rfl, hsv.up bW⟩)
 have HTN := hide (show gpW g ⟨(k : Int), it⟩ = g.wins.set k (putV (winAt g ⟨(k : Int), it⟩) it) from by unfold gpW; simp)
 have HP3 := hide (putI_three (winAt g ⟨(k : Int), it⟩) it)
 have HWL := hide (show g.wins.length = g.ins.length from hwl)
 have hkn : k < n0 := by omega
 have hn06 : n0 ≤ 6 := by omega
 have hd : ¬ ((k : Int) < 0) := by omega
 have hd2 : decide ((k : Int) ≥ (n0 : Int)) = false := by simp; omega
 unfold RetPutQ at KP
 unfold RetSP at KC
 have HKL := hide hkl
 have HL6 := hide h6
 clear hsv h hs hf hyes hn0 hn1 hrd hparts hc hwv hwv2 hgb hwb hwa hws hwl h6 h1 hkl
 obtain ⟨X0, X1, X2, X3, b0, hz⟩ := boxes4 w [.slice a0 n0 c0, .slice (some ⟨b, off, none⟩) g.wins.length c1, .slice a2 n2 c2] [.int .i64 (k : Int), .int .i64 it.a0, .slice sa sn sc] [.slice none 0 0, .slice none 0 0, .slice none 0 0] [.slice none 0 0, .slice none 0 0] 36 46 36 39
 simp only [List.toArray] at X0 X1 X2 X3 b0 hz
 generalize hci : putI (winAt g ⟨(k : Int), it⟩) it = ci at *
 have MB : Hid (ci = 1 → _) := MB
 have HGI := hide (show ∀ j, g.ins = j → True from fun _ _ => trivial)
 clear hci HGI
 generalize hgW : gpW g ⟨(k : Int), it⟩ = ws at *
 generalize hgx : putV (winAt g ⟨(k : Int), it⟩) it = xw at *
 generalize hgG : gpG g ⟨(k : Int), it⟩ = GG at *
 generalize hgS : gpS g ⟨(k : Int), it⟩ = GS at *
 generalize hgC : gpC g ⟨(k : Int), it⟩ = GC at *
 clear hgW hgx hgG hgS hgC
 obtain ⟨ins, wins, shown⟩ := g
 simp only at *
 have KB := hide (fun (W : World) (q : Value) (hq : ItemSSRd W q ws) => specBest_any ws q W (unhide HWS) hq)
 have KJ := hide (fun (W : World) (q p : Value) (hq : ItemSSRd W q ws) (hp : IntSRd W p (bestV ws)) => specChJoin_any ws q (bestV ws) p W (unhide HWS) (small_best ws (unhide HWS)) hq hp)
 have KO := hide (fun (W : World) (q p : Value) (hq : MarkSRd W q shown) (hp : MarkSRd W p (chV ws (bestV ws))) => specOrder_any shown q (chV ws (bestV ws)) p W (unhide HMS) (small_ch (unhide HWS)) hq hp)
 go_enter Tryz.func6, Tryz.ntmps6
 go_wp2_with fail
 generalize (((w.alloc (.cells #[.slice a0 n0 c0, .slice (some ⟨b, off, none⟩) wins.length c1, .slice a2 n2 c2] 36)).alloc (.cells #[.int .i64 (k : Int), .int .i64 it.a0, .slice sa sn sc] 46)).alloc (.cells #[.slice none 0 0, .slice none 0 0, .slice none 0 0] 36)).alloc (.cells #[.slice none 0 0, .slice none 0 0] 39) = W at *
 obtain ⟨⟨x0, x1, x2⟩, -⟩ := BoxF.three X0
 go_wp2_with fail
 refine (unhide KG _ b0).mono ?_
 rintro e w1 ⟨rfl, b1⟩
 have B1 := hide (b0.trans (b1.mono b0.size))
 have R01 := hide (X2.up b1)
 have R11 := hide (X3.up b1)
 have XA1 := hide (X0.up b1)
 have XF1 := hide (X1.up b1)
 have hz1 : w.heap.size + 4 ≤ w1.heap.size := by rw [← hz]; exact b1.size
 clear b1 x0 x1 x2 b0 X0 X1 X2 X3 hz
 obtain ⟨⟨x0, x1, x2⟩, -⟩ := BoxF.three (unhide XA1)
 obtain ⟨⟨y0, y1, y2⟩, -⟩ := BoxF.three (unhide XF1)
 have d1 := ((unhide B1).cell (show b < w.heap.size from hb)).trans d0
 go_upto_region 3 with fail
 go_cut [7, 8] (fun s7 s8 wx => ∃ pa pn pc, s7 = .slice pa pn pc ∧ s8 = .int .i64 ci ∧ Hid (ItGood w1.heap.size wx (.slice pa pn pc) xw) ∧ Hid (Below w1.heap.size w1 wx))
 case first =>
  go_region_with (go_at_call 23; refine (unhide KP _ ((unhide B1).drew)).mono ?_; rintro e w2 ⟨pv, xs, rfl, HT, b2⟩)
  all_goals
   obtain ⟨pa, pn, pc, rfl⟩ := ((unhide HT).1.rd (unhide HT).2).form
   have HG7 := hide (show ItGood w1.heap.size w2 (.slice pa pn pc) xw from (show ItGood w1.drew.heap.size w2 (.slice pa pn pc) xw from ⟨xs, (unhide HT).1, (unhide HT).2⟩))
   have HB7 := hide (((Below.refl w1.heap.size w1).drew).trans b2)
   clear HT b2
   go_wp2_with fail
   go_meet
   exact ⟨pa, pn, pc, rfl, rfl, HG7, HB7⟩
 case rest =>
  obtain ⟨pa, pn, pc, rfl, rfl, HY, HB⟩ := hcut
  have b2 := unhide HB
  have B2 := hide ((unhide B1).trans (b2.mono (unhide B1).size))
  have R02 := hide ((unhide R01).up b2)
  have R12 := hide ((unhide R11).up b2)
  have XA2 := hide ((unhide XA1).up b2)
  have XF2 := hide ((unhide XF1).up b2)
  have hz2 : w.heap.size + 4 ≤ wc.heap.size := Nat.le_trans hz1 b2.size
  have hz12 : w1.heap.size ≤ wc.heap.size := b2.size
  clear b2 x0 x1 x2 y0 y1 y2 d1 HB R01 R11 XA1 XF1 KP KG
  have HP3' := unhide HP3
  clear HP3
  rcases HP3' with rfl | rfl | rfl
  ·skip
   obtain ⟨⟨x0, x1, x2⟩, -⟩ := BoxF.three (unhide XA2)
   go_wp2_with fail
   refine (unhide KC _ (unhide B2)).mono ?_
   rintro e w3 ⟨ua, un, uc, gb, gn, gc, ma, mn, mc, vs, rfl, SP, b3⟩
   have B3 := hide ((unhide B2).trans (b3.mono (unhide B2).size))
   have R03 := hide ((unhide R02).up b3)
   have R13 := hide ((unhide R12).up b3)
   have XF3 := hide ((unhide XF2).up b3)
   have Y3 := hide ((unhide HY).up b3).n
   have S3 := hide ((unhide SP).n.mono hz12)
   have hz3 : wc.heap.size ≤ w3.heap.size := b3.size
   clear x0 x1 x2 b3 XA2 SP
   have hgb3 : gb < w3.heap.size := (unhide S3).lrow gb rfl
   have hgb2 : w1.heap.size ≤ gb := (unhide S3).row.ge gb rfl
   have hkv : k < vs.length := by rw [(unhide S3).len]; exact unhide HKL
   obtain ⟨cv, fz⟩ := (unhide S3).row.at hkv
   have hgn : k < gn := by
    rcases (unhide S3).row.slice with ⟨e, _⟩ | ⟨g', c', e, _⟩
    ·simp at e
    ·simp only [Value.slice.injEq] at e
     rw [e.2.1]
     exact hkv
   have b0 := (Below.refl w3.heap.size w3).alloc (Nat.le_refl _) (.cells #[.slice ua un uc, .slice (some ⟨gb, 0, none⟩) gn gc, .slice ma mn mc] 36)
   have cv4 := (b0.cell (show gb < w3.heap.size from hgb3)).trans cv
   have fz4 := (b0.frozen (show gb < w3.heap.size from hgb3)).trans fz
   obtain ⟨⟨f0, f1, f2⟩, -⟩ := BoxF.three ((unhide XF3).up b0)
   have XT0 := boxF_new w3 [.slice ua un uc, .slice (some ⟨gb, 0, none⟩) gn gc, .slice ma mn mc] 36
   simp only [List.toArray] at XT0
   obtain ⟨⟨t0, t1, t2⟩, -⟩ := BoxF.three XT0
   clear b0 XT0
   have hne0 : ¬ (gb = w3.heap.size) := by omega
   have hne1 : ¬ (w3.heap.size = gb) := by omega
   have hne2 : ¬ (gb = w.heap.size + 1) := by omega
   have hne3 : ¬ (w.heap.size + 1 = gb) := by omega
   have TK : Turn [gb] w3 (w3.setCell ⟨gb, k, none⟩ (.slice pa pn pc)) := (Turn.refl _ _).setCell (by simp) k _
   have zk : (w3.setCell ⟨gb, k, none⟩ (.slice pa pn pc)).heap.size = w3.heap.size := by simp
   have S4 := (unhide S3).put (k := k) (unhide Y3)
   have B4 := (unhide B3).trans (TK.below (unhide B3).size (fun q hq => by simp at hq; omega))
   have R04 := (unhide R03).turn TK (by simp; omega)
   have R14 := (unhide R13).turn TK (by simp; omega)
   have XT5' := boxF_new (w3.setCell ⟨gb, k, none⟩ (.slice pa pn pc)) [.slice ua un uc, .slice (some ⟨gb, 0, none⟩) gn gc, .slice ma mn mc] 36
   rw [zk] at XT5'
   simp only [List.toArray] at XT5'
   have bt := (Below.refl (w3.setCell ⟨gb, k, none⟩ (.slice pa pn pc)).heap.size (w3.setCell ⟨gb, k, none⟩ (.slice pa pn pc))).alloc (Nat.le_refl _) (.cells #[.slice ua un uc, .slice (some ⟨gb, 0, none⟩) gn gc, .slice ma mn mc] 36)
   have S5 := hide (S4.up bt)
   have B5 := hide (B4.trans (bt.mono B4.size))
   have R05 := hide (R04.up bt)
   have R15 := hide (R14.up bt)
   have XT5 := hide XT5'
   rw [← unhide HTN] at S5
   obtain ⟨⟨v0, v1, v2⟩, -⟩ := BoxF.three XT5'
   have hz5 : w3.heap.size < ((w3.setCell ⟨gb, k, none⟩ (.slice pa pn pc)).alloc (.cells #[.slice ua un uc, .slice (some ⟨gb, 0, none⟩) gn gc, .slice ma mn mc] 36)).heap.size := by simp
   clear TK Y3 S3 S4 R04 R14 R03 R13 B4 B3 XF3 bt XT5' zk
   go_wp2_with fail
   clear cv fz cv4 fz4 f0 f1 f2 t0 t1 t2 v0 v1 v2
   generalize (w3.setCell ⟨gb, k, none⟩ (.slice pa pn pc)).alloc (.cells #[.slice ua un uc, .slice (some ⟨gb, 0, none⟩) gn gc, .slice ma mn mc] 36) = w5 at *
   refine (unhide KB _ _ (unhide S5).parts.wins).mono ?_
   rintro e w6 ⟨pv, rfl, HPV, b6⟩
   have B6 := hide ((unhide B5).trans (b6.mono (unhide B5).size))
   have R06 := hide ((unhide R05).up b6)
   have R16 := hide ((unhide R15).up b6)
   have XT6 := hide ((unhide XT5).up b6)
   have S6 := hide ((unhide S5).up b6)
   have hz6 : w3.heap.size < w6.heap.size := Nat.lt_of_lt_of_le hz5 b6.size
   have HPV' := unhide HPV
   obtain ⟨qa, qc, rfl, -⟩ := HPV'
   clear b6 B5 R05 R15 XT5 S5 hz5
   obtain ⟨⟨t0, t1, t2⟩, -⟩ := BoxF.three (unhide XT6)
   cases hb : bestB ws
   ·have HB0 := hide hb
    clear hb
    obtain ⟨⟨p0, p1, p2⟩, f0, f1, f2⟩ := BoxF.three (unhide R06)
    obtain ⟨⟨s0, s1⟩, h0, h1⟩ := (unhide R16).twoF
    have XB := ((((((unhide R06).set 0 (.slice ua un uc) (by simp)).set 1 (.slice (some ⟨gb, 0, none⟩) gn gc) (by simp)).set 2 (.slice ma mn mc) (by simp)).far 0 (.slice none 0 0) (show w.heap.size + 2 ≠ w.heap.size + 3 by omega)).far 1 (.slice none 0 0) (show w.heap.size + 2 ≠ w.heap.size + 3 by omega))
    have XC := ((((((unhide R16).far 0 (.slice ua un uc) (show w.heap.size + 3 ≠ w.heap.size + 2 by omega)).far 1 (.slice (some ⟨gb, 0, none⟩) gn gc) (show w.heap.size + 3 ≠ w.heap.size + 2 by omega)).far 2 (.slice ma mn mc) (show w.heap.size + 3 ≠ w.heap.size + 2 by omega)).set 0 (.slice none 0 0) (by simp)).set 1 (.slice none 0 0) (by simp))
    simp only [List.set] at XB XC
    have TT : Turn [w.heap.size + 2, w.heap.size + 3] w6 (((((w6.setCell ⟨w.heap.size + 2, 0, none⟩ (.slice ua un uc)).setCell ⟨w.heap.size + 2, 1, none⟩ (.slice (some ⟨gb, 0, none⟩) gn gc)).setCell ⟨w.heap.size + 2, 2, none⟩ (.slice ma mn mc)).setCell ⟨w.heap.size + 3, 0, none⟩ (.slice none 0 0)).setCell ⟨w.heap.size + 3, 1, none⟩ (.slice none 0 0)) := ((((((Turn.refl _ _).setCell (by simp) _ _).setCell (by simp) _ _).setCell (by simp) _ _).setCell (by simp) _ _).setCell (by simp) _ _)
    have BF := hide ((unhide B6).trans (TT.below (unhide B6).size (fun q hq => by simp at hq; omega)))
    have SF := hide ((unhide S6).turn TT (fun q hq => by simp at hq; exact .inl (by omega)))
    have HZF := hide (show w3.heap.size ≤ (((((w6.setCell ⟨w.heap.size + 2, 0, none⟩ (.slice ua un uc)).setCell ⟨w.heap.size + 2, 1, none⟩ (.slice (some ⟨gb, 0, none⟩) gn gc)).setCell ⟨w.heap.size + 2, 2, none⟩ (.slice ma mn mc)).setCell ⟨w.heap.size + 3, 0, none⟩ (.slice none 0 0)).setCell ⟨w.heap.size + 3, 1, none⟩ (.slice none 0 0)).heap.size by simp; omega)
    clear TT
    go_wp2_with fail
    clear p0 p1 p2 f0 f1 f2 s0 s1 h0 h1
    generalize ((((w6.setCell ⟨w.heap.size + 2, 0, none⟩ (.slice ua un uc)).setCell ⟨w.heap.size + 2, 1, none⟩ (.slice (some ⟨gb, 0, none⟩) gn gc)).setCell ⟨w.heap.size + 2, 2, none⟩ (.slice ma mn mc)).setCell ⟨w.heap.size + 3, 0, none⟩ (.slice none 0 0)).setCell ⟨w.heap.size + 3, 1, none⟩ (.slice none 0 0) = WF at *
    obtain ⟨⟨q0, q1, q2⟩, -⟩ := BoxF.three XB
    obtain ⟨⟨q3, q4⟩, -⟩ := XC.twoF
    refine bodyPost_ret (v := .tuple #[.agg #[.slice ua un uc, .slice (some ⟨gb, 0, none⟩) gn gc, .slice ma mn mc], .agg #[.slice none 0 0, .slice none 0 0], .int .i64 0]) ?_ rfl ?_
    ·simp [results, Tryz.results6, go_sem, q0, q1, q2, q3, q4]
    obtain ⟨e1, e2, e3⟩ := unhide MK (by first | trivial | rfl) (.inl (unhide HB0))
    rw [e1, e2, e3]
    exact ⟨_, _, rfl, hide (fun S9 W9 hS9 t9 => ⟨((unhide SF).turn t9 (fun q hq => (hS9 q hq).elim (fun h => .inl (by omega)) (fun h => .inr (by have := unhide HZF; omega)))).rd, zeroSh _⟩), unhide BF⟩
   ·have HB0 := hide hb
    clear hb
    go_wp2_with fail
    refine (unhide KJ _ _ _ (unhide S6).parts.wins (unhide HPV)).mono ?_
    rintro e w7 ⟨jv, rfl, HJV, b7⟩
    have B7 := hide ((unhide B6).trans (b7.mono (unhide B6).size))
    have R07 := hide ((unhide R06).up b7)
    have R17 := hide ((unhide R16).up b7)
    have XT7 := hide ((unhide XT6).up b7)
    have S7 := hide ((unhide S6).up b7)
    have PV7 := hide ((unhide HPV).up b7)
    have hz7 : w3.heap.size < w7.heap.size := Nat.lt_of_lt_of_le hz6 b7.size
    obtain ⟨ja, jn, jc, rfl⟩ := (unhide HJV).form
    clear b7 B6 R06 R16 XT6 S6 HPV hz6 t0 t1 t2
    obtain ⟨⟨t0, t1, t2⟩, -⟩ := BoxF.three (unhide XT7)
    cases hj : chB ws (bestV ws)
    ·have HJ0 := hide hj
     clear hj
     obtain ⟨⟨p0, p1, p2⟩, f0, f1, f2⟩ := BoxF.three (unhide R07)
     obtain ⟨⟨s0, s1⟩, h0, h1⟩ := (unhide R17).twoF
     have XB := ((((((unhide R07).set 0 (.slice ua un uc) (by simp)).set 1 (.slice (some ⟨gb, 0, none⟩) gn gc) (by simp)).set 2 (.slice ma mn mc) (by simp)).far 0 (.slice none 0 0) (show w.heap.size + 2 ≠ w.heap.size + 3 by omega)).far 1 (.slice none 0 0) (show w.heap.size + 2 ≠ w.heap.size + 3 by omega))
     have XC := ((((((unhide R17).far 0 (.slice ua un uc) (show w.heap.size + 3 ≠ w.heap.size + 2 by omega)).far 1 (.slice (some ⟨gb, 0, none⟩) gn gc) (show w.heap.size + 3 ≠ w.heap.size + 2 by omega)).far 2 (.slice ma mn mc) (show w.heap.size + 3 ≠ w.heap.size + 2 by omega)).set 0 (.slice none 0 0) (by simp)).set 1 (.slice none 0 0) (by simp))
     simp only [List.set] at XB XC
     have TT : Turn [w.heap.size + 2, w.heap.size + 3] w7 (((((w7.setCell ⟨w.heap.size + 2, 0, none⟩ (.slice ua un uc)).setCell ⟨w.heap.size + 2, 1, none⟩ (.slice (some ⟨gb, 0, none⟩) gn gc)).setCell ⟨w.heap.size + 2, 2, none⟩ (.slice ma mn mc)).setCell ⟨w.heap.size + 3, 0, none⟩ (.slice none 0 0)).setCell ⟨w.heap.size + 3, 1, none⟩ (.slice none 0 0)) := ((((((Turn.refl _ _).setCell (by simp) _ _).setCell (by simp) _ _).setCell (by simp) _ _).setCell (by simp) _ _).setCell (by simp) _ _)
     have BF := hide ((unhide B7).trans (TT.below (unhide B7).size (fun q hq => by simp at hq; omega)))
     have SF := hide ((unhide S7).turn TT (fun q hq => by simp at hq; exact .inl (by omega)))
     have HZF := hide (show w3.heap.size ≤ (((((w7.setCell ⟨w.heap.size + 2, 0, none⟩ (.slice ua un uc)).setCell ⟨w.heap.size + 2, 1, none⟩ (.slice (some ⟨gb, 0, none⟩) gn gc)).setCell ⟨w.heap.size + 2, 2, none⟩ (.slice ma mn mc)).setCell ⟨w.heap.size + 3, 0, none⟩ (.slice none 0 0)).setCell ⟨w.heap.size + 3, 1, none⟩ (.slice none 0 0)).heap.size by simp; omega)
     clear TT
     go_wp2_with fail
     clear p0 p1 p2 f0 f1 f2 s0 s1 h0 h1
     generalize ((((w7.setCell ⟨w.heap.size + 2, 0, none⟩ (.slice ua un uc)).setCell ⟨w.heap.size + 2, 1, none⟩ (.slice (some ⟨gb, 0, none⟩) gn gc)).setCell ⟨w.heap.size + 2, 2, none⟩ (.slice ma mn mc)).setCell ⟨w.heap.size + 3, 0, none⟩ (.slice none 0 0)).setCell ⟨w.heap.size + 3, 1, none⟩ (.slice none 0 0) = WF at *
     obtain ⟨⟨q0, q1, q2⟩, -⟩ := BoxF.three XB
     obtain ⟨⟨q3, q4⟩, -⟩ := XC.twoF
     refine bodyPost_ret (v := .tuple #[.agg #[.slice ua un uc, .slice (some ⟨gb, 0, none⟩) gn gc, .slice ma mn mc], .agg #[.slice none 0 0, .slice none 0 0], .int .i64 4]) ?_ rfl ?_
     ·simp [results, Tryz.results6, go_sem, q0, q1, q2, q3, q4]
     obtain ⟨e1, e2, e3⟩ := unhide MF (by first | trivial | rfl) (unhide HB0) (unhide HJ0)
     rw [e1, e2, e3]
     exact ⟨_, _, rfl, hide (fun S9 W9 hS9 t9 => ⟨((unhide SF).turn t9 (fun q hq => (hS9 q hq).elim (fun h => .inl (by omega)) (fun h => .inr (by have := unhide HZF; omega)))).rd, zeroSh _⟩), unhide BF⟩
    ·have HJ0 := hide hj
     clear hj
     go_wp2_with fail
     refine (unhide KO _ _ _ (unhide S7).mr.rd (unhide HJV)).mono ?_
     rintro e w8 ⟨rfl, b8⟩
     have B8 := hide ((unhide B7).trans (b8.mono (unhide B7).size))
     have R08 := hide ((unhide R07).up b8)
     have R18 := hide ((unhide R17).up b8)
     have XT8 := hide ((unhide XT7).up b8)
     have S8 := hide ((unhide S7).up b8)
     have PV8 := hide ((unhide PV7).up b8)
     have JV8 := hide ((unhide HJV).up b8)
     have hz8 : w3.heap.size < w8.heap.size := Nat.lt_of_lt_of_le hz7 b8.size
     clear b8 B7 R07 R17 XT7 S7 PV7 HJV hz7 t0 t1 t2
     obtain ⟨⟨t0, t1, t2⟩, -⟩ := BoxF.three (unhide XT8)
     by_cases ho : orderOut shown (chV ws (bestV ws)) = 1
     ·have HO0 := hide ho
      have HJL := hide (order_len ho)
      rw [ho]
      clear ho
      go_wp2_with fail
      refine (l14Marks_all _ _ _ (by have := unhide HJL; omega) (unhide JV8)).mono ?_
      rintro e w9 ⟨mv, rfl, HMV, b9⟩
      have B9 := hide ((unhide B8).trans (b9.mono (unhide B8).size))
      have R09 := hide ((unhide R08).up b9)
      have R19 := hide ((unhide R18).up b9)
      have XT9 := hide ((unhide XT8).up b9)
      have S9 := hide ((unhide S8).up b9)
      have PV9 := hide ((unhide PV8).up b9)
      have JV9 := hide ((unhide JV8).up b9)
      have hz9 : w3.heap.size < w9.heap.size := Nat.lt_of_lt_of_le hz8 b9.size
      obtain ⟨sva, svc, rfl⟩ := (unhide HMV).slice
      have HMK := hide (unhide HMV)
      have HZ8 := hide hz8
      clear b9 B8 R08 R18 XT8 S8 PV8 JV8 hz8 t0 t1 t2 HMV
      have XS := boxF_new w9 [.slice none 0 0, .slice sva (chV ws (bestV ws)).length svc] 39
      have bs := (Below.refl w9.heap.size w9).alloc (Nat.le_refl _) (.cells #[.slice none 0 0, .slice sva (chV ws (bestV ws)).length svc] 39)
      simp only [List.toArray] at XS
      have XS0 := hide XS
      have BS0 := hide bs
      have hzS : (w9.alloc (.cells #[.slice none 0 0, .slice sva (chV ws (bestV ws)).length svc] 39)).heap.size = w9.heap.size + 1 := by simp
      have HZS := hide hzS
      clear XS bs hzS
      go_wp2_with fail
      generalize w9.alloc (.cells #[.slice none 0 0, .slice sva (chV ws (bestV ws)).length svc] 39) = w0 at *
      have HLB := hide (ch_choice (unhide HJ0)).2.2
      have HLL := hide (ch_choice (unhide HJ0)).2.1
      have hbl : (bestV ws).length ≤ 6 := by have := (winsB_len (ch_choice (unhide HJ0)).1).2; have := unhide HLL; omega
      go_loopw [15] (fun i wr => ∃ (j : Nat) (va : Option Addr) (vn vc : Nat), j ≤ (bestV ws).length ∧ i = .int .i64 j ∧ Hid (BoxF wr w9.heap.size [.slice va vn vc, .slice sva (chV ws (bestV ws)).length svc]) ∧ Hid (InRow (w9.heap.size + 1) wr (.slice va vn vc) (valsTo ws (bestV ws) j)) ∧ Hid (Below w9.heap.size w9 wr) ∧ Hid (w9.heap.size + 1 ≤ wr.heap.size)) (fun i _ => (bestV ws).length - (intOf i).toNat)
      case atStart => exact ⟨0, Option.none, 0, 0, Nat.zero_le _, rfl, XS0, InRow.nilAt _ _, BS0, hide (Nat.le_of_eq (unhide HZS).symm)⟩
      case round =>
       clear XS0 BS0
       obtain ⟨j, va, vn, vc, hj, rfl, HX, HV, HBr, HZr⟩ := hrel
       have HVL := hide (valsTo_len ws (bestV ws) j)
       by_cases hlt : j < (bestV ws).length
       ·obtain ⟨a', c', e, hwi⟩ := (unhide S9).parts.wins
        simp only [Value.slice.injEq] at e
        obtain ⟨rfl, rfl, rfl⟩ := e
        rcases hwi with h0 | ⟨b', off', e', -, hcw⟩
        ·exact absurd (show ws.length = 0 by rw [h0]; rfl) (by have := unhide HLL; omega)
        simp only [Option.some.injEq, Addr.mk.injEq, and_true] at e'
        obtain ⟨rfl, rfl⟩ := e'
        obtain ⟨q, bi, oi, ni, ci', e1, hq1, hni, d0', d1'⟩ := choice_val (unhide HWS) hcw hlt (Nat.le_of_eq (unhide HLL)) (unhide HLB)
        rw [Nat.zero_add] at d0'
        obtain ⟨a', c', e, hpi⟩ := unhide PV9
        simp only [Value.slice.injEq, true_and] at e
        obtain ⟨rfl, rfl⟩ := e
        rcases hpi with h0 | ⟨pb, po, rfl, hpb, hpc⟩
        ·rw [h0] at hlt; simp at hlt
        have p1 := hpc j hlt
        rw [e1] at p1
        have g1 := (BoxF.three (unhide XT9)).1.2.1
        have HT := hide (valsTo_step ws (bestV ws) j)
        have hjw : j < ws.length := by have := unhide HLL; omega
        generalize hy : valAt ws (bestV ws) j = y at *
        clear hcw hpc e1 hy
        have KS := hide (show ∀ X : World, Below w9.heap.size w9 X → X.cell? ⟨w3.heap.size, 1, none⟩ = some (.slice (some ⟨gb, 0, none⟩) ws.length gc) ∧ X.cell? ⟨gb, j, none⟩ = some (.slice (some ⟨bi, oi, none⟩) ni ci') ∧ X.cell? ⟨pb, po + j, none⟩ = some (.int .i64 (q : Int)) ∧ X.cell? ⟨bi, oi + q * 2, none⟩ = some (.int .i64 y) from fun X bX =>
         ⟨(bX.cell (show w3.heap.size < w9.heap.size from hz9)).trans g1, (bX.cell (lt_of_cell0 d0')).trans d0', (bX.cell hpb).trans p1, (bX.cell (lt_of_cell0 d1')).trans d1'⟩)
        clear d0' d1' p1 g1
        obtain ⟨t1, -, p1, -⟩ := unhide KS _ (unhide HBr)
        go_wp2_with fail
        clear t1 p1
        have VD := hide ((unhide HV).up ((Below.refl wr.heap.size wr).drew))
        have XD := hide ((unhide HX).up ((Below.refl wr.heap.size wr).drew))
        have BD := hide ((unhide HBr).drew)
        have ZD := hide (show w9.heap.size + 1 ≤ wr.drew.heap.size from unhide HZr)
        have hS := unhide KS _ (unhide BD)
        clear HX HV HBr HZr
        refine wp_region_held_drew (S := fun X : World => X.cell? ⟨w3.heap.size, 1, none⟩ = some (.slice (some ⟨gb, 0, none⟩) ws.length gc) ∧ X.cell? ⟨gb, j, none⟩ = some (.slice (some ⟨bi, oi, none⟩) ni ci') ∧ X.cell? ⟨pb, po + j, none⟩ = some (.int .i64 (q : Int)) ∧ X.cell? ⟨bi, oi + q * 2, none⟩ = some (.int .i64 y)) (by kernel_rfl) hS ?_
        clear hS
        intro hS
        generalize wr.drew = WX at *
        refine wpAnyH_take (i := 0) (v := .pointer (some ⟨w9.heap.size, 0, none⟩)) rfl (by kernel_rfl) (by kernel_rfl) (by kernel_rfl) (fun _ _ _ h => h) (Or.inl ⟨by rfl, ?_⟩) hS ?_
        ·intro X hX
         obtain ⟨h1, h2, h3, h4⟩ := hX
         clear hS
         go_simp
         try with_reducible rfl
        try simp [Act.put]
        refine wpAnyH_take (i := 2) (v := .pointer (some ⟨w3.heap.size, 1, none⟩)) rfl (by kernel_rfl) (by kernel_rfl) (by kernel_rfl) (fun _ _ _ h => h) (Or.inl ⟨by rfl, ?_⟩) hS ?_
        ·intro X hX
         obtain ⟨h1, h2, h3, h4⟩ := hX
         clear hS
         go_simp
         try with_reducible rfl
        try simp [Act.put]
        refine wpAnyH_take (i := 3) (v := .slice (some ⟨gb, 0, none⟩) ws.length gc) rfl (by kernel_rfl) (by kernel_rfl) (by kernel_rfl) (fun _ _ _ h => h) (Or.inl ⟨by rfl, ?_⟩) hS ?_
        ·intro X hX
         obtain ⟨h1, h2, h3, h4⟩ := hX
         clear hS
         go_simp
         try with_reducible rfl
        try simp [Act.put]
        refine wpAnyH_take (i := 4) (v := .int .i64 (j : Int)) rfl (by kernel_rfl) (by kernel_rfl) (by kernel_rfl) (fun _ _ _ h => h) (Or.inl ⟨by rfl, ?_⟩) hS ?_
        ·intro X hX
         obtain ⟨h1, h2, h3, h4⟩ := hX
         clear hS
         go_simp
         try with_reducible rfl
        try simp [Act.put]
        refine wpAnyH_take (i := 5) (v := .pointer (some ⟨gb, j, none⟩)) rfl (by kernel_rfl) (by kernel_rfl) (by kernel_rfl) (fun _ _ _ h => h) (Or.inl ⟨by rfl, ?_⟩) hS ?_
        ·intro X hX
         obtain ⟨h1, h2, h3, h4⟩ := hX
         clear hS
         go_simp
         try with_reducible rfl
        try simp [Act.put]
        refine wpAnyH_take (i := 6) (v := .slice (some ⟨bi, oi, none⟩) ni ci') rfl (by kernel_rfl) (by kernel_rfl) (by kernel_rfl) (fun _ _ _ h => h) (Or.inl ⟨by rfl, ?_⟩) hS ?_
        ·intro X hX
         obtain ⟨h1, h2, h3, h4⟩ := hX
         clear hS
         go_simp
         try with_reducible rfl
        try simp [Act.put]
        refine wpAnyH_take (i := 7) (v := .slice (some ⟨pb, po, none⟩) (bestV ws).length qc) rfl (by kernel_rfl) (by kernel_rfl) (by kernel_rfl) (fun _ _ _ h => h) (Or.inl ⟨by rfl, ?_⟩) hS ?_
        ·intro X hX
         obtain ⟨h1, h2, h3, h4⟩ := hX
         clear hS
         go_simp
         try with_reducible rfl
        try simp [Act.put]
        refine wpAnyH_take (i := 8) (v := .int .i64 (j : Int)) rfl (by kernel_rfl) (by kernel_rfl) (by kernel_rfl) (fun _ _ _ h => h) (Or.inl ⟨by rfl, ?_⟩) hS ?_
        ·intro X hX
         obtain ⟨h1, h2, h3, h4⟩ := hX
         clear hS
         go_simp
         try with_reducible rfl
        try simp [Act.put]
        refine wpAnyH_take (i := 9) (v := .pointer (some ⟨pb, po + j, none⟩)) rfl (by kernel_rfl) (by kernel_rfl) (by kernel_rfl) (fun _ _ _ h => h) (Or.inl ⟨by rfl, ?_⟩) hS ?_
        ·intro X hX
         obtain ⟨h1, h2, h3, h4⟩ := hX
         clear hS
         go_simp
         try with_reducible rfl
        try simp [Act.put]
        refine wpAnyH_take (i := 10) (v := .int .i64 (q : Int)) rfl (by kernel_rfl) (by kernel_rfl) (by kernel_rfl) (fun _ _ _ h => h) (Or.inl ⟨by rfl, ?_⟩) hS ?_
        ·intro X hX
         obtain ⟨h1, h2, h3, h4⟩ := hX
         clear hS
         go_simp
         try with_reducible rfl
        try simp [Act.put]
        refine wpAnyH_take (i := 11) (v := .pointer (some ⟨bi, oi + q * 2, none⟩)) rfl (by kernel_rfl) (by kernel_rfl) (by kernel_rfl) (fun _ _ _ h => h) (Or.inl ⟨by rfl, ?_⟩) hS ?_
        ·intro X hX
         obtain ⟨h1, h2, h3, h4⟩ := hX
         clear hS
         go_simp
         try with_reducible rfl
        try simp [Act.put]
        refine wpAnyH_take (i := 12) (v := .pointer (some ⟨bi, oi + q * 2, none⟩)) rfl (by kernel_rfl) (by kernel_rfl) (by kernel_rfl) (fun _ _ _ h => h) (Or.inl ⟨by rfl, ?_⟩) hS ?_
        ·intro X hX
         obtain ⟨h1, h2, h3, h4⟩ := hX
         clear hS
         go_simp
         try with_reducible rfl
        try simp [Act.put]
        refine wpAnyH_take (i := 13) (v := .int .i64 y) rfl (by kernel_rfl) (by kernel_rfl) (by kernel_rfl) (fun _ _ _ h => h) (Or.inl ⟨by rfl, ?_⟩) hS ?_
        ·intro X hX
         obtain ⟨h1, h2, h3, h4⟩ := hX
         clear hS
         go_simp
         try with_reducible rfl
        try simp [Act.put]
        refine wpAnyH_ready (rs := [1, 14]) (by kernel_rfl) (by simp) ?_
        refine AllReadyH.cons rfl (fun K hK => ?_) (AllReadyH.cons rfl (fun K hK => ?_) (AllReadyH.nil))
        ·skip
         have s0 := (unhide XD).twoF.1.1
         go_simp
         refine hK.out _ _ hS ?_
         clear hK K s0 hS
         intro hS
         try simp [Act.put]
         refine wpAnyH_ready (rs := [14]) (by kernel_rfl) (by simp) ?_
         refine AllReadyH.cons rfl (fun K hK => ?_) (AllReadyH.nil)
         have ba := (Below.refl WX.heap.size WX).alloc (Nat.le_refl _) (.cells #[.int .i64 y] 3)
         have VL := hide ((unhide VD).up ba)
         have XL := hide ((unhide XD).up ba)
         have BL := hide ((unhide BD).trans (ba.mono (unhide BD).size))
         have ZL := hide (Nat.le_trans (unhide ZD) ba.size)
         have CL0 := hide (show (WX.alloc (.cells #[.int .i64 y] 3)).cell? ⟨WX.heap.size, 0, none⟩ = some (.int .i64 y) from World.cell?_alloc_at _ _ _ _ rfl)
         go_simp
         clear ba
         generalize WX.alloc (.cells #[.int .i64 y] 3) = WL at *
         generalize WX.heap.size = gl at *
         refine hK.out _ _ (unhide KS _ (unhide BL)) ?_
         clear hK K hS
         intro hS
         try simp [Act.put]
         refine wpAnyH_ready (rs := [15]) (by kernel_rfl) (by simp) ?_
         refine AllReadyH.cons rfl (fun K hK => ?_) (AllReadyH.nil)
         refine step_inOne (by first | rfl | simp [Region.wanted, yielded]) (.tmp 100) (.tmp 113) (by rfl) (w9.heap.size + 1) (.slice va vn vc) (valsTo ws (bestV ws) j) y gl (by rfl) (by rfl) (unhide VL) (unhide CL0) (by rw [unhide HVL]; omega) (unhide ZL) ?_
         intro g5 c5 w5' r5 gr5 at5
         rw [← unhide HT] at r5
         have V5 := hide r5
         have T5 : Turn (Value.slice va vn vc).ownBlock.toList WL w5' := Turn.of_grown gr5 (fun k hk => .inl (by simpa using hk))
         have hge5 : ∀ q ∈ (Value.slice va vn vc).ownBlock.toList, w9.heap.size + 1 ≤ q := fun q hq => (unhide VL).ge q (by simpa using hq)
         have X5 := hide ((unhide XL).turn T5 (fun hm => by have := hge5 _ hm; omega))
         have B5' := hide ((unhide BL).trans (T5.below (unhide BL).size (fun q hq => by have := hge5 q hq; omega)))
         have Z5 := hide (Nat.le_trans (unhide ZL) T5.size)
         clear r5 gr5 at5 T5 hge5
         refine hK.out _ _ (unhide KS _ (unhide B5')) ?_
         clear hK K hS
         intro hS
         try simp [Act.put]
         refine wpAnyH_take (i := 16) (v := .pointer (some ⟨w9.heap.size, 0, none⟩)) rfl (by kernel_rfl) (by kernel_rfl) (by kernel_rfl) (fun _ _ _ h => h) (Or.inl ⟨by rfl, ?_⟩) hS ?_
         ·intro X hX
          obtain ⟨h1, h2, h3, h4⟩ := hX
          clear hS
          go_simp
          try with_reducible rfl
         try simp [Act.put]
         refine wpAnyH_ready (rs := [17]) (by kernel_rfl) (by simp) ?_
         refine AllReadyH.cons rfl (fun K hK => ?_) (AllReadyH.nil)
         obtain ⟨⟨s0, s1⟩, h0, h1⟩ := (unhide X5).twoF
         have TS : Turn [w9.heap.size] w5' (w5'.setCell ⟨w9.heap.size, 0, none⟩ (.slice (some ⟨g5, 0, none⟩) ((valsTo ws (bestV ws) j).length + 1) c5)) := (Turn.refl _ _).setCell (by simp) _ _
         have X6 := hide ((unhide X5).set 0 (.slice (some ⟨g5, 0, none⟩) ((valsTo ws (bestV ws) j).length + 1) c5) (by simp))
         simp only [List.set] at X6
         have V6 := hide ((unhide V5).keep (fun q hq => TS.block q ((unhide V5).lt q hq) (by have := (unhide V5).ge q hq; simp; omega)))
         have B6' := hide ((unhide B5').trans (TS.below (unhide B5').size (fun q hq => by simp at hq; omega)))
         have Z6 := hide (Nat.le_trans (unhide Z5) TS.size)
         clear TS
         go_simp
         refine hK.out _ _ (unhide KS _ (unhide B6')) ?_
         clear hK K hS s0 s1 h0 h1
         intro hS
         refine wpAnyH_done (by kernel_rfl) ?_ _
         clear hS
         go_wp2_with fail
         go_roundw
         case rel => exact ⟨j + 1, _, _, _, by omega, by go_num, X6, V6, B6', Z6⟩
         case measure => simp [intOf]; omega
        ·skip
         have ba := (Below.refl WX.heap.size WX).alloc (Nat.le_refl _) (.cells #[.int .i64 y] 3)
         have VL := hide ((unhide VD).up ba)
         have XL := hide ((unhide XD).up ba)
         have BL := hide ((unhide BD).trans (ba.mono (unhide BD).size))
         have ZL := hide (Nat.le_trans (unhide ZD) ba.size)
         have CL0 := hide (show (WX.alloc (.cells #[.int .i64 y] 3)).cell? ⟨WX.heap.size, 0, none⟩ = some (.int .i64 y) from World.cell?_alloc_at _ _ _ _ rfl)
         go_simp
         clear ba
         generalize WX.alloc (.cells #[.int .i64 y] 3) = WL at *
         generalize WX.heap.size = gl at *
         refine hK.out _ _ (unhide KS _ (unhide BL)) ?_
         clear hK K hS
         intro hS
         try simp [Act.put]
         refine wpAnyH_ready (rs := [1]) (by kernel_rfl) (by simp) ?_
         refine AllReadyH.cons rfl (fun K hK => ?_) (AllReadyH.nil)
         have s0 := (unhide XL).twoF.1.1
         go_simp
         refine hK.out _ _ hS ?_
         clear hK K s0 hS
         intro hS
         try simp [Act.put]
         refine wpAnyH_ready (rs := [15]) (by kernel_rfl) (by simp) ?_
         refine AllReadyH.cons rfl (fun K hK => ?_) (AllReadyH.nil)
         refine step_inOne (by first | rfl | simp [Region.wanted, yielded]) (.tmp 100) (.tmp 113) (by rfl) (w9.heap.size + 1) (.slice va vn vc) (valsTo ws (bestV ws) j) y gl (by rfl) (by rfl) (unhide VL) (unhide CL0) (by rw [unhide HVL]; omega) (unhide ZL) ?_
         intro g5 c5 w5' r5 gr5 at5
         rw [← unhide HT] at r5
         have V5 := hide r5
         have T5 : Turn (Value.slice va vn vc).ownBlock.toList WL w5' := Turn.of_grown gr5 (fun k hk => .inl (by simpa using hk))
         have hge5 : ∀ q ∈ (Value.slice va vn vc).ownBlock.toList, w9.heap.size + 1 ≤ q := fun q hq => (unhide VL).ge q (by simpa using hq)
         have X5 := hide ((unhide XL).turn T5 (fun hm => by have := hge5 _ hm; omega))
         have B5' := hide ((unhide BL).trans (T5.below (unhide BL).size (fun q hq => by have := hge5 q hq; omega)))
         have Z5 := hide (Nat.le_trans (unhide ZL) T5.size)
         clear r5 gr5 at5 T5 hge5
         refine hK.out _ _ (unhide KS _ (unhide B5')) ?_
         clear hK K hS
         intro hS
         try simp [Act.put]
         refine wpAnyH_take (i := 16) (v := .pointer (some ⟨w9.heap.size, 0, none⟩)) rfl (by kernel_rfl) (by kernel_rfl) (by kernel_rfl) (fun _ _ _ h => h) (Or.inl ⟨by rfl, ?_⟩) hS ?_
         ·intro X hX
          obtain ⟨h1, h2, h3, h4⟩ := hX
          clear hS
          go_simp
          try with_reducible rfl
         try simp [Act.put]
         refine wpAnyH_ready (rs := [17]) (by kernel_rfl) (by simp) ?_
         refine AllReadyH.cons rfl (fun K hK => ?_) (AllReadyH.nil)
         obtain ⟨⟨s0, s1⟩, h0, h1⟩ := (unhide X5).twoF
         have TS : Turn [w9.heap.size] w5' (w5'.setCell ⟨w9.heap.size, 0, none⟩ (.slice (some ⟨g5, 0, none⟩) ((valsTo ws (bestV ws) j).length + 1) c5)) := (Turn.refl _ _).setCell (by simp) _ _
         have X6 := hide ((unhide X5).set 0 (.slice (some ⟨g5, 0, none⟩) ((valsTo ws (bestV ws) j).length + 1) c5) (by simp))
         simp only [List.set] at X6
         have V6 := hide ((unhide V5).keep (fun q hq => TS.block q ((unhide V5).lt q hq) (by have := (unhide V5).ge q hq; simp; omega)))
         have B6' := hide ((unhide B5').trans (TS.below (unhide B5').size (fun q hq => by simp at hq; omega)))
         have Z6 := hide (Nat.le_trans (unhide Z5) TS.size)
         clear TS
         go_simp
         refine hK.out _ _ (unhide KS _ (unhide B6')) ?_
         clear hK K hS s0 s1 h0 h1
         intro hS
         refine wpAnyH_done (by kernel_rfl) ?_ _
         clear hS
         go_wp2_with fail
         go_roundw
         case rel => exact ⟨j + 1, _, _, _, by omega, by go_num, X6, V6, B6', Z6⟩
         case measure => simp [intOf]; omega
       ·obtain rfl : j = (bestV ws).length := by omega
        rw [valsTo_all] at HV
        have XTr := hide ((unhide XT9).up (unhide HBr))
        have Sr := hide ((unhide S9).up (unhide HBr))
        have JVr := hide ((unhide JV9).up (unhide HBr))
        have MKr := hide ((unhide HMK).up (unhide HBr))
        have Br := hide ((unhide B9).trans ((unhide HBr).mono (unhide B9).size))
        have R0r := hide ((unhide R09).up (unhide HBr))
        have R1r := hide ((unhide R19).up (unhide HBr))
        have hzr : w3.heap.size < wr.heap.size := Nat.lt_of_lt_of_le hz9 (unhide HBr).size
        go_wp2_with fail
        refine (l14Marks_all _ _ _ (by have := unhide HJL; omega) (unhide JVr)).mono ?_
        rintro e w10 ⟨mv2, rfl, HM2, b10⟩
        obtain ⟨m2a, m2c, rfl⟩ := (unhide HM2).slice
        have XT10 := (unhide XTr).up b10
        have XX10 := (unhide HX).up b10
        have hz10 : w3.heap.size < w10.heap.size := Nat.lt_of_lt_of_le hzr b10.size
        have TG : Turn [w3.heap.size] w10 (w10.setCell ⟨w3.heap.size, 2, none⟩ (.slice m2a (chV ws (bestV ws)).length m2c)) := (Turn.refl _ _).setCell (by simp) _ _
        have hgz : w9.heap.size ≠ w3.heap.size := by omega
        have XT11 := hide (XT10.set 2 (.slice m2a (chV ws (bestV ws)).length m2c) (by simp))
        simp only [List.set] at XT11
        have XX11 := hide (XX10.turn TG (by simpa using hgz))
        have R011 := hide (((unhide R0r).up b10).turn TG (by simp; omega))
        have R111 := hide (((unhide R1r).up b10).turn TG (by simp; omega))
        have S11 := hide (((unhide Sr).up b10).turn TG (fun q hq => by simp at hq; exact .inr (by omega)))
        have V10 := (unhide HV).up b10
        have V11 := hide (V10.keep (fun q hq => TG.block q (V10.lt q hq) (by have := V10.ge q hq; simp; omega)))
        have M10 := (unhide MKr).up b10
        have M11 := hide (M10.keep (fun q hq => TG.block q (M10.lt q hq) (by have := M10.ge q hq; have := unhide HZ8; simp; omega)))
        have N11 := hide ((unhide HM2).keep (fun q hq => TG.block q ((unhide HM2).lt q hq) (by have := (unhide HM2).ge q hq; simp; omega)))
        have B10 := (unhide Br).trans (b10.mono (unhide Br).size)
        have B11 := hide (B10.trans (TG.below B10.size (fun q hq => by simp at hq; omega)))
        have RT : ((w10.cell? ⟨w3.heap.size, 0, none⟩ = _ ∧ w10.cell? ⟨w3.heap.size, 1, none⟩ = _ ∧ w10.cell? ⟨w3.heap.size, 2, none⟩ = _) ∧ _) := BoxF.three XT10
        obtain ⟨⟨t0, t1, t2⟩, ft0, ft1, ft2⟩ := RT
        clear b10 XT10 XX10 TG V10 M10 B10 HX HV HBr HZr XTr Sr JVr MKr Br R0r R1r HM2
        go_wp2_with fail
        clear t0 t1 t2 ft0 ft1 ft2
        have hz11 : w3.heap.size < (w10.setCell ⟨w3.heap.size, 2, none⟩ (.slice m2a (chV ws (bestV ws)).length m2c)).heap.size := by simp; exact hz10
        generalize w10.setCell ⟨w3.heap.size, 2, none⟩ (.slice m2a (chV ws (bestV ws)).length m2c) = w11 at *
        obtain ⟨⟨t0, t1, t2⟩, -⟩ := BoxF.three (unhide XT11)
        obtain ⟨⟨x0, x1⟩, -⟩ := (unhide XX11).twoF
        obtain ⟨⟨p0, p1, p2⟩, f0, f1, f2⟩ := BoxF.three (unhide R011)
        obtain ⟨⟨s0, s1⟩, h0, h1⟩ := (unhide R111).twoF
        have hng : ¬ (w3.heap.size = w.heap.size + 2) := by omega
        have hng2 : ¬ (w9.heap.size = w.heap.size + 3) := by omega
        go_region
        clear t0 t1 t2 x0 x1 p0 p1 p2 f0 f1 f2 s0 s1 h0 h1
        have XB := (((((((unhide R011).set 0 (.slice ua un uc) (by simp)).set 1 (.slice (some ⟨gb, 0, none⟩) gn gc) (by simp)).set 2 (.slice m2a (chV ws (bestV ws)).length m2c) (by simp)).far 0 (.slice va vn vc) (show w.heap.size + 2 ≠ w.heap.size + 3 by omega)).far 1 (.slice sva (chV ws (bestV ws)).length svc) (show w.heap.size + 2 ≠ w.heap.size + 3 by omega))).up ((Below.refl _ _).drew)
        have XC := (((((((unhide R111).far 0 (.slice ua un uc) (show w.heap.size + 3 ≠ w.heap.size + 2 by omega)).far 1 (.slice (some ⟨gb, 0, none⟩) gn gc) (show w.heap.size + 3 ≠ w.heap.size + 2 by omega)).far 2 (.slice m2a (chV ws (bestV ws)).length m2c) (show w.heap.size + 3 ≠ w.heap.size + 2 by omega)).set 0 (.slice va vn vc) (by simp)).set 1 (.slice sva (chV ws (bestV ws)).length svc) (by simp))).up ((Below.refl _ _).drew)
        simp only [List.set] at XB XC
        have TT : Turn [w.heap.size + 2, w.heap.size + 3] w11 (((((w11.setCell ⟨w.heap.size + 2, 0, none⟩ (.slice ua un uc)).setCell ⟨w.heap.size + 2, 1, none⟩ (.slice (some ⟨gb, 0, none⟩) gn gc)).setCell ⟨w.heap.size + 2, 2, none⟩ (.slice m2a (chV ws (bestV ws)).length m2c)).setCell ⟨w.heap.size + 3, 0, none⟩ (.slice va vn vc)).setCell ⟨w.heap.size + 3, 1, none⟩ (.slice sva (chV ws (bestV ws)).length svc)) := ((((((Turn.refl _ _).setCell (by simp) _ _).setCell (by simp) _ _).setCell (by simp) _ _).setCell (by simp) _ _).setCell (by simp) _ _)
        have BF := hide (((unhide B11).trans (TT.below (unhide B11).size (fun q hq => by simp at hq; omega))).drew)
        have SF := hide (((unhide S11).turn TT (fun q hq => by simp at hq; exact .inl (by omega))).up ((Below.refl _ _).drew))
        have VF := hide (((unhide V11).keep (fun q hq => TT.block q ((unhide V11).lt q hq) (by have := (unhide V11).ge q hq; simp; omega))).up ((Below.refl _ _).drew))
        have MF1 := hide (((unhide M11).keep (fun q hq => TT.block q ((unhide M11).lt q hq) (by have := (unhide M11).ge q hq; have := unhide HZ8; simp; omega))).up ((Below.refl _ _).drew))
        have HZF := hide (show w3.heap.size ≤ ((((((w11.setCell ⟨w.heap.size + 2, 0, none⟩ (.slice ua un uc)).setCell ⟨w.heap.size + 2, 1, none⟩ (.slice (some ⟨gb, 0, none⟩) gn gc)).setCell ⟨w.heap.size + 2, 2, none⟩ (.slice m2a (chV ws (bestV ws)).length m2c)).setCell ⟨w.heap.size + 3, 0, none⟩ (.slice va vn vc)).setCell ⟨w.heap.size + 3, 1, none⟩ (.slice sva (chV ws (bestV ws)).length svc)).drew).heap.size by have e9 : ((((((w11.setCell ⟨w.heap.size + 2, 0, none⟩ (.slice ua un uc)).setCell ⟨w.heap.size + 2, 1, none⟩ (.slice (some ⟨gb, 0, none⟩) gn gc)).setCell ⟨w.heap.size + 2, 2, none⟩ (.slice m2a (chV ws (bestV ws)).length m2c)).setCell ⟨w.heap.size + 3, 0, none⟩ (.slice va vn vc)).setCell ⟨w.heap.size + 3, 1, none⟩ (.slice sva (chV ws (bestV ws)).length svc)).drew).heap.size = w11.heap.size := (by simp); omega)
        have NF := hide (((unhide N11).keep (fun q hq => TT.block q ((unhide N11).lt q hq) (by have := (unhide N11).ge q hq; simp; omega))).up ((Below.refl _ _).drew))
        clear TT
        go_wp2_with fail
        generalize (((((w11.setCell ⟨w.heap.size + 2, 0, none⟩ (.slice ua un uc)).setCell ⟨w.heap.size + 2, 1, none⟩ (.slice (some ⟨gb, 0, none⟩) gn gc)).setCell ⟨w.heap.size + 2, 2, none⟩ (.slice m2a (chV ws (bestV ws)).length m2c)).setCell ⟨w.heap.size + 3, 0, none⟩ (.slice va vn vc)).setCell ⟨w.heap.size + 3, 1, none⟩ (.slice sva (chV ws (bestV ws)).length svc)).drew = WF at *
        obtain ⟨⟨q0, q1, q2⟩, -⟩ := BoxF.three XB
        obtain ⟨⟨q3, q4⟩, -⟩ := XC.twoF
        refine bodyPost_ret (v := .tuple #[.agg #[.slice ua un uc, .slice (some ⟨gb, 0, none⟩) gn gc, .slice m2a (chV ws (bestV ws)).length m2c], .agg #[.slice va vn vc, .slice sva (chV ws (bestV ws)).length svc], .int .i64 1]) ?_ rfl ?_
        ·simp [results, Tryz.results6, go_sem, q0, q1, q2, q3, q4]
        obtain ⟨e1, e2, e3⟩ := unhide MS (by first | trivial | rfl) (unhide HB0) (unhide HJ0) (unhide HO0)
        rw [e1, e2, e3]
        exact ⟨_, _, rfl, hide (fun S9 W9 hS9 t9 => by
         have SF' := (unhide SF).turn t9 (fun q hq => (hS9 q hq).elim (fun h => .inl (by omega)) (fun h => .inr (by have := unhide HZF; omega)))
         have NF' := (unhide NF).keep (fun q hq => t9.block q ((unhide NF).lt q hq) (fun hm => by have := hS9 q hm; have := (unhide NF).lt q hq; have := (unhide NF).ge q hq; omega))
         have VF' := (unhide VF).keep (fun q hq => t9.block q ((unhide VF).lt q hq) (fun hm => by have := hS9 q hm; have := (unhide VF).lt q hq; have := (unhide VF).ge q hq; omega))
         have MF' := (unhide MF1).keep (fun q hq => t9.block q ((unhide MF1).lt q hq) (fun hm => by have := hS9 q hm; have := (unhide MF1).lt q hq; have := (unhide MF1).ge q hq; have := unhide HZ8; omega))
         exact ⟨⟨_, _, _, rfl, SF'.tx.rdT, SF'.parts.wins, NF'.rd⟩, ⟨_, _, rfl, VF'.rd, MF'.rd⟩⟩), unhide BF⟩
     ·have HO0 := hide ho
      have hne : (orderOut shown (chV ws (bestV ws)) == 1) = false := by simpa using ho
      generalize orderOut shown (chV ws (bestV ws)) = oo at *
      obtain ⟨⟨p0, p1, p2⟩, f0, f1, f2⟩ := BoxF.three (unhide R08)
      obtain ⟨⟨s0, s1⟩, h0, h1⟩ := (unhide R18).twoF
      have XB := ((((((unhide R08).set 0 (.slice ua un uc) (by simp)).set 1 (.slice (some ⟨gb, 0, none⟩) gn gc) (by simp)).set 2 (.slice ma mn mc) (by simp)).far 0 (.slice none 0 0) (show w.heap.size + 2 ≠ w.heap.size + 3 by omega)).far 1 (.slice none 0 0) (show w.heap.size + 2 ≠ w.heap.size + 3 by omega))
      have XC := ((((((unhide R18).far 0 (.slice ua un uc) (show w.heap.size + 3 ≠ w.heap.size + 2 by omega)).far 1 (.slice (some ⟨gb, 0, none⟩) gn gc) (show w.heap.size + 3 ≠ w.heap.size + 2 by omega)).far 2 (.slice ma mn mc) (show w.heap.size + 3 ≠ w.heap.size + 2 by omega)).set 0 (.slice none 0 0) (by simp)).set 1 (.slice none 0 0) (by simp))
      simp only [List.set] at XB XC
      have TT : Turn [w.heap.size + 2, w.heap.size + 3] w8 (((((w8.setCell ⟨w.heap.size + 2, 0, none⟩ (.slice ua un uc)).setCell ⟨w.heap.size + 2, 1, none⟩ (.slice (some ⟨gb, 0, none⟩) gn gc)).setCell ⟨w.heap.size + 2, 2, none⟩ (.slice ma mn mc)).setCell ⟨w.heap.size + 3, 0, none⟩ (.slice none 0 0)).setCell ⟨w.heap.size + 3, 1, none⟩ (.slice none 0 0)) := ((((((Turn.refl _ _).setCell (by simp) _ _).setCell (by simp) _ _).setCell (by simp) _ _).setCell (by simp) _ _).setCell (by simp) _ _)
      have BF := hide ((unhide B8).trans (TT.below (unhide B8).size (fun q hq => by simp at hq; omega)))
      have SF := hide ((unhide S8).turn TT (fun q hq => by simp at hq; exact .inl (by omega)))
      have HZF := hide (show w3.heap.size ≤ (((((w8.setCell ⟨w.heap.size + 2, 0, none⟩ (.slice ua un uc)).setCell ⟨w.heap.size + 2, 1, none⟩ (.slice (some ⟨gb, 0, none⟩) gn gc)).setCell ⟨w.heap.size + 2, 2, none⟩ (.slice ma mn mc)).setCell ⟨w.heap.size + 3, 0, none⟩ (.slice none 0 0)).setCell ⟨w.heap.size + 3, 1, none⟩ (.slice none 0 0)).heap.size by simp; omega)
      clear TT
      go_wp2_with fail
      clear p0 p1 p2 f0 f1 f2 s0 s1 h0 h1
      generalize ((((w8.setCell ⟨w.heap.size + 2, 0, none⟩ (.slice ua un uc)).setCell ⟨w.heap.size + 2, 1, none⟩ (.slice (some ⟨gb, 0, none⟩) gn gc)).setCell ⟨w.heap.size + 2, 2, none⟩ (.slice ma mn mc)).setCell ⟨w.heap.size + 3, 0, none⟩ (.slice none 0 0)).setCell ⟨w.heap.size + 3, 1, none⟩ (.slice none 0 0) = WF at *
      obtain ⟨⟨q0, q1, q2⟩, -⟩ := BoxF.three XB
      obtain ⟨⟨q3, q4⟩, -⟩ := XC.twoF
      refine bodyPost_ret (v := .tuple #[.agg #[.slice ua un uc, .slice (some ⟨gb, 0, none⟩) gn gc, .slice ma mn mc], .agg #[.slice none 0 0, .slice none 0 0], .int .i64 0]) ?_ rfl ?_
      ·simp [results, Tryz.results6, go_sem, q0, q1, q2, q3, q4]
      obtain ⟨e1, e2, e3⟩ := unhide MK (by first | trivial | rfl) (.inr ⟨unhide HB0, unhide HJ0, unhide HO0⟩)
      rw [e1, e2, e3]
      exact ⟨_, _, rfl, hide (fun S9 W9 hS9 t9 => ⟨((unhide SF).turn t9 (fun q hq => (hS9 q hq).elim (fun h => .inl (by omega)) (fun h => .inr (by have := unhide HZF; omega)))).rd, zeroSh _⟩), unhide BF⟩
  ·skip
   obtain ⟨⟨p0, p1, p2⟩, f0, f1, f2⟩ := BoxF.three (unhide R02)
   obtain ⟨⟨s0, s1⟩, h0, h1⟩ := (unhide R12).twoF
   have XB := ((((((unhide R02).set 0 (.slice none 0 0) (by simp)).set 1 (.slice none 0 0) (by simp)).set 2 (.slice none 0 0) (by simp)).far 0 (.slice none 0 0) (show w.heap.size + 2 ≠ w.heap.size + 3 by omega)).far 1 (.slice none 0 0) (show w.heap.size + 2 ≠ w.heap.size + 3 by omega))
   have XC := ((((((unhide R12).far 0 (.slice none 0 0) (show w.heap.size + 3 ≠ w.heap.size + 2 by omega)).far 1 (.slice none 0 0) (show w.heap.size + 3 ≠ w.heap.size + 2 by omega)).far 2 (.slice none 0 0) (show w.heap.size + 3 ≠ w.heap.size + 2 by omega)).set 0 (.slice none 0 0) (by simp)).set 1 (.slice none 0 0) (by simp))
   simp only [List.set] at XB XC
   have TT : Turn [w.heap.size + 2, w.heap.size + 3] wc (((((wc.setCell ⟨w.heap.size + 2, 0, none⟩ (.slice none 0 0)).setCell ⟨w.heap.size + 2, 1, none⟩ (.slice none 0 0)).setCell ⟨w.heap.size + 2, 2, none⟩ (.slice none 0 0)).setCell ⟨w.heap.size + 3, 0, none⟩ (.slice none 0 0)).setCell ⟨w.heap.size + 3, 1, none⟩ (.slice none 0 0)) := ((((((Turn.refl _ _).setCell (by simp) _ _).setCell (by simp) _ _).setCell (by simp) _ _).setCell (by simp) _ _).setCell (by simp) _ _)
   have BF := hide ((unhide B2).trans (TT.below (unhide B2).size (fun q hq => by simp at hq; omega)))
   clear TT
   go_wp2_with fail
   clear p0 p1 p2 f0 f1 f2 s0 s1 h0 h1
   generalize ((((wc.setCell ⟨w.heap.size + 2, 0, none⟩ (.slice none 0 0)).setCell ⟨w.heap.size + 2, 1, none⟩ (.slice none 0 0)).setCell ⟨w.heap.size + 2, 2, none⟩ (.slice none 0 0)).setCell ⟨w.heap.size + 3, 0, none⟩ (.slice none 0 0)).setCell ⟨w.heap.size + 3, 1, none⟩ (.slice none 0 0) = WF at *
   obtain ⟨⟨q0, q1, q2⟩, -⟩ := BoxF.three XB
   obtain ⟨⟨q3, q4⟩, -⟩ := XC.twoF
   refine bodyPost_ret (v := .tuple #[.agg #[.slice none 0 0, .slice none 0 0, .slice none 0 0], .agg #[.slice none 0 0, .slice none 0 0], .int .i64 2]) ?_ rfl ?_
   ·simp [results, Tryz.results6, go_sem, q0, q1, q2, q3, q4]
   obtain ⟨e1, e2, e3⟩ := unhide MB (by first | trivial | rfl)
   rw [e1, e2, e3]
   exact ⟨_, _, rfl, hide (fun _ _ _ _ => ⟨zeroRd _, zeroSh _⟩), unhide BF⟩
  ·skip
   obtain ⟨⟨x0, x1, x2⟩, -⟩ := BoxF.three (unhide XA2)
   go_wp2_with fail
   refine (unhide KC _ (unhide B2)).mono ?_
   rintro e w3 ⟨ua, un, uc, gb, gn, gc, ma, mn, mc, vs, rfl, SP, b3⟩
   have B3 := hide ((unhide B2).trans (b3.mono (unhide B2).size))
   have R03 := hide ((unhide R02).up b3)
   have R13 := hide ((unhide R12).up b3)
   have XF3 := hide ((unhide XF2).up b3)
   have Y3 := hide ((unhide HY).up b3).n
   have S3 := hide ((unhide SP).n.mono hz12)
   have hz3 : wc.heap.size ≤ w3.heap.size := b3.size
   clear x0 x1 x2 b3 XA2 SP
   have XT := boxF_new w3 [.slice ua un uc, .slice (some ⟨gb, 0, none⟩) gn gc, .slice ma mn mc] 36
   have bt := (Below.refl w3.heap.size w3).alloc (Nat.le_refl _) (.cells #[.slice ua un uc, .slice (some ⟨gb, 0, none⟩) gn gc, .slice ma mn mc] 36)
   simp only [List.toArray] at XT
   have B4 := hide ((unhide B3).trans (bt.mono (unhide B3).size))
   have R04 := hide ((unhide R03).up bt)
   have R14 := hide ((unhide R13).up bt)
   have XF4 := hide ((unhide XF3).up bt)
   have Y4 := hide ((unhide Y3).turn (Turn.of_below (S := []) bt) (by simp))
   have S4 := hide ((unhide S3).up bt)
   have XT4 := hide XT
   obtain ⟨⟨t0, t1, t2⟩, -⟩ := BoxF.three XT
   have hgb3 : gb < w3.heap.size := (unhide S3).lrow gb rfl
   have hgb2 : w1.heap.size ≤ gb := (unhide S3).row.ge gb rfl
   have ht4 : w3.heap.size < (w3.alloc (.cells #[.slice ua un uc, .slice (some ⟨gb, 0, none⟩) gn gc, .slice ma mn mc] 36)).heap.size := by simp
   have HLEN := hide (unhide S3).len
   clear bt XT B3 R03 R13 XF3 Y3 S3
   obtain ⟨⟨p0, p1, p2⟩, f0, f1, f2⟩ := BoxF.three (unhide R04)
   obtain ⟨⟨s0, s1⟩, h0, h1⟩ := (unhide R14).twoF
   have XB := ((((((unhide R04).set 0 (.slice ua un uc) (by simp)).set 1 (.slice (some ⟨gb, 0, none⟩) gn gc) (by simp)).set 2 (.slice ma mn mc) (by simp)).far 0 (.slice none 0 0) (show w.heap.size + 2 ≠ w.heap.size + 3 by omega)).far 1 (.slice none 0 0) (show w.heap.size + 2 ≠ w.heap.size + 3 by omega))
   have XC := ((((((unhide R14).far 0 (.slice ua un uc) (show w.heap.size + 3 ≠ w.heap.size + 2 by omega)).far 1 (.slice (some ⟨gb, 0, none⟩) gn gc) (show w.heap.size + 3 ≠ w.heap.size + 2 by omega)).far 2 (.slice ma mn mc) (show w.heap.size + 3 ≠ w.heap.size + 2 by omega)).set 0 (.slice none 0 0) (by simp)).set 1 (.slice none 0 0) (by simp))
   simp only [List.set] at XB XC
   have TT : Turn [w.heap.size + 2, w.heap.size + 3] (w3.alloc (.cells #[.slice ua un uc, .slice (some ⟨gb, 0, none⟩) gn gc, .slice ma mn mc] 36)) ((((((w3.alloc (.cells #[.slice ua un uc, .slice (some ⟨gb, 0, none⟩) gn gc, .slice ma mn mc] 36)).setCell ⟨w.heap.size + 2, 0, none⟩ (.slice ua un uc)).setCell ⟨w.heap.size + 2, 1, none⟩ (.slice (some ⟨gb, 0, none⟩) gn gc)).setCell ⟨w.heap.size + 2, 2, none⟩ (.slice ma mn mc)).setCell ⟨w.heap.size + 3, 0, none⟩ (.slice none 0 0)).setCell ⟨w.heap.size + 3, 1, none⟩ (.slice none 0 0)) := ((((((Turn.refl _ _).setCell (by simp) _ _).setCell (by simp) _ _).setCell (by simp) _ _).setCell (by simp) _ _).setCell (by simp) _ _)
   have BF := hide ((unhide B4).trans (TT.below (unhide B4).size (fun q hq => by simp at hq; omega)))
   have SF := hide ((unhide S4).turn TT (fun q hq => by simp at hq; exact .inl (by omega)))
   have HZF := hide (show w3.heap.size ≤ ((((((w3.alloc (.cells #[.slice ua un uc, .slice (some ⟨gb, 0, none⟩) gn gc, .slice ma mn mc] 36)).setCell ⟨w.heap.size + 2, 0, none⟩ (.slice ua un uc)).setCell ⟨w.heap.size + 2, 1, none⟩ (.slice (some ⟨gb, 0, none⟩) gn gc)).setCell ⟨w.heap.size + 2, 2, none⟩ (.slice ma mn mc)).setCell ⟨w.heap.size + 3, 0, none⟩ (.slice none 0 0)).setCell ⟨w.heap.size + 3, 1, none⟩ (.slice none 0 0)).heap.size by simp)
   clear TT
   go_wp2_with fail
   clear p0 p1 p2 f0 f1 f2 s0 s1 h0 h1
   generalize (((((w3.alloc (.cells #[.slice ua un uc, .slice (some ⟨gb, 0, none⟩) gn gc, .slice ma mn mc] 36)).setCell ⟨w.heap.size + 2, 0, none⟩ (.slice ua un uc)).setCell ⟨w.heap.size + 2, 1, none⟩ (.slice (some ⟨gb, 0, none⟩) gn gc)).setCell ⟨w.heap.size + 2, 2, none⟩ (.slice ma mn mc)).setCell ⟨w.heap.size + 3, 0, none⟩ (.slice none 0 0)).setCell ⟨w.heap.size + 3, 1, none⟩ (.slice none 0 0) = WF at *
   obtain ⟨⟨q0, q1, q2⟩, -⟩ := BoxF.three XB
   obtain ⟨⟨q3, q4⟩, -⟩ := XC.twoF
   refine bodyPost_ret (v := .tuple #[.agg #[.slice ua un uc, .slice (some ⟨gb, 0, none⟩) gn gc, .slice ma mn mc], .agg #[.slice none 0 0, .slice none 0 0], .int .i64 3]) ?_ rfl ?_
   ·simp [results, Tryz.results6, go_sem, q0, q1, q2, q3, q4]
   obtain ⟨e1, e2, e3⟩ := unhide MO (by first | trivial | rfl)
   rw [e1, e2, e3]
   exact ⟨_, _, rfl, hide (fun S9 W9 hS9 t9 => ⟨((unhide SF).turn t9 (fun q hq => (hS9 q hq).elim (fun h => .inl (by omega)) (fun h => .inr (by have := unhide HZF; omega)))).rd, zeroSh _⟩), unhide BF⟩
end Go.Proofs.YtknkdbfgfcgkiaaGreatDoor
