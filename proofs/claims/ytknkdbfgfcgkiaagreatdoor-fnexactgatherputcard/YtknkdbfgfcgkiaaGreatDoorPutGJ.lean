/-
  The program's GatherPut, where a feed goes into its window.
-/
import Derived.Test.YtknkdbfgfcgkiaaGreatDoorMerged45
set_option linter.unusedVariables false
namespace Go.Proofs.YtknkdbfgfcgkiaaGreatDoor
open Go.RowKit Go.Maps Go.Deep

theorem InRow.ownS {B : Nat} {w : World} {v : Value} {ts : List Int} (h : InRow B w v ts) : ∃ S, IntSOwn S w v ts ∧ ∀ k ∈ S, v.ownBlock = some k := by
  have hh : w.ownsRow B 3 1 v ts.length (ts.map (.int .i64)) := h
  rcases h with ⟨_, ⟨rfl, h0⟩ | ⟨g, cap, cur, rfl, hB, hg, hnc, _⟩⟩
  · exact ⟨[], .inl ⟨rfl, List.eq_nil_of_length_eq_zero h0, Option.none, 0, rfl⟩, by simp⟩
  · refine ⟨[g], .inr ⟨g, 0, cap, rfl, rfl, (Array.getElem?_eq_some_iff.1 hg).1, fun i hi => ?_, fun i hi => hh.frozenAt _⟩, by simp [Value.ownBlock]⟩
    rw [Nat.zero_add, hh.cellAt _ (by omega)]
    simp [hi]
theorem gp_kept {g : GatherV} {f : FeedV} (hy : feedB g f = true) (p : putI (winAt g f) f.item = 0) (h : bestB (gpW g f) = false ∨ (bestB (gpW g f) = true ∧ chB (gpW g f) (bestV (gpW g f)) = true ∧ orderOut g.shown (chV (gpW g f) (bestV (gpW g f))) ≠ 1)) : gpC g f = 0 ∧ gpG g f = ⟨g.ins, gpW g f, g.shown⟩ ∧ gpS g f = ⟨[], []⟩ := by
  rcases gpWay g f with ⟨h1, c, e, s⟩ | ⟨h1, p1, c, e, s⟩ | ⟨h1, p1, c, e, s⟩ | ⟨h1, p1, b, c, e, s⟩ | ⟨h1, p1, b, j, c, e, s⟩ | ⟨h1, p1, b, j, o, c, e, s⟩ | ⟨h1, p1, b, j, o, c, e, s⟩
  · rw [hy] at h1; cases h1
  · omega
  · omega
  · exact ⟨c, e, s⟩
  · rcases h with h | h
    · rw [h] at b; cases b
    · rw [h.2.1] at j; cases j
  · exact ⟨c, e, s⟩
  · rcases h with h | h
    · rw [h] at b; cases b
    · exact absurd o h.2.2
theorem gp_full {g : GatherV} {f : FeedV} (hy : feedB g f = true) (p : putI (winAt g f) f.item = 0) (hb : bestB (gpW g f) = true) (hj : chB (gpW g f) (bestV (gpW g f)) = false) : gpC g f = 4 ∧ gpG g f = ⟨g.ins, gpW g f, g.shown⟩ ∧ gpS g f = ⟨[], []⟩ := by
  rcases gpWay g f with ⟨h1, c, e, s⟩ | ⟨h1, p1, c, e, s⟩ | ⟨h1, p1, c, e, s⟩ | ⟨h1, p1, b, c, e, s⟩ | ⟨h1, p1, b, j, c, e, s⟩ | ⟨h1, p1, b, j, o, c, e, s⟩ | ⟨h1, p1, b, j, o, c, e, s⟩
  · rw [hy] at h1; cases h1
  · omega
  · omega
  · rw [hb] at b; cases b
  · exact ⟨c, e, s⟩
  · rw [hj] at j; cases j
  · rw [hj] at j; cases j
theorem gp_shows {g : GatherV} {f : FeedV} (hy : feedB g f = true) (p : putI (winAt g f) f.item = 0) (hb : bestB (gpW g f) = true) (hj : chB (gpW g f) (bestV (gpW g f)) = true) (ho : orderOut g.shown (chV (gpW g f) (bestV (gpW g f))) = 1) : gpC g f = 1 ∧ gpG g f = ⟨g.ins, gpW g f, chV (gpW g f) (bestV (gpW g f))⟩ ∧ gpS g f = ⟨valsAt (gpW g f) (bestV (gpW g f)), chV (gpW g f) (bestV (gpW g f))⟩ := by
  rcases gpWay g f with ⟨h1, c, e, s⟩ | ⟨h1, p1, c, e, s⟩ | ⟨h1, p1, c, e, s⟩ | ⟨h1, p1, b, c, e, s⟩ | ⟨h1, p1, b, j, c, e, s⟩ | ⟨h1, p1, b, j, o, c, e, s⟩ | ⟨h1, p1, b, j, o, c, e, s⟩
  · rw [hy] at h1; cases h1
  · omega
  · omega
  · rw [hb] at b; cases b
  · rw [hj] at j; cases j
  · exact absurd ho o
  · exact ⟨c, e, s⟩
set_option maxRecDepth 20000 in
set_option maxHeartbeats 6400000 in
theorem gput_kept (k : Nat) (inn : Int) (hinn : inn = (k : Int)) (z : Int) (v fv : Value) (sa : Option Addr) (sn sc : Nat) (ins : List ByteArray) (wins : List (List ItemV)) (shown : List MarkV) (x : List ItemV) (w : World) (hs : SmallGather ⟨ins, wins, shown⟩) (hgb : gatherB ⟨ins, wins, shown⟩ = true) (hk : k < wins.length) (h6 : wins.length ≤ 6) (hv : GatherRd w v ⟨ins, wins, shown⟩)
    (hE : fv = .agg #[.int .i64 inn, .int .i64 z, .slice sa sn sc]) 
    (h : ∀ W, Below w.heap.size w W → Calls Tryz.prog 33 #[v, fv] W fun e w' => ∃ wa wn wc T N, e = .returned (.tuple #[.iface 119 (.agg #[.int .i64 (k : Int), .slice wa wn wc]), .nilIface]) ∧ Hid (ItemSFull T w' (.slice wa wn wc) x) ∧ Hid (∀ q ∈ T, W.heap.size ≤ q ∧ q < N) ∧ Hid (W.heap.size ≤ N) ∧ Below W.heap.size W w') :
    Calls Tryz.prog 9 #[v, fv] w fun e w' => RetGF ⟨ins, wins.set k x, shown⟩ ⟨[], []⟩ 0 w e w' := by
  subst hinn
  have HG := hide (fun (W : World) (bW : Below w.heap.size w W) => ownGather_any ⟨ins, wins, shown⟩ v W hs hgb (hv.up bW))
  obtain ⟨a0, n0, c0, a1, n1, c1, a2, n2, c2, rfl⟩ := hv.form
  subst hE
  have HO := hide h
  clear h hv hs hgb
  obtain ⟨X0, X1, X2, X3, b0, hz⟩ := boxes4 w [.slice a0 n0 c0, .slice a1 n1 c1, .slice a2 n2 c2] [.int .i64 (k : Int), .int .i64 z, .slice sa sn sc] [.slice none 0 0, .slice none 0 0, .slice none 0 0] [.slice none 0 0, .slice none 0 0] 36 46 36 39
  simp only [List.toArray] at X0 X1 X2 X3 b0 hz
  unfold RetGP at HG
  simp only at HG
  go_enter Tryz.func9, Tryz.ntmps9
  go_wp2_with fail
  generalize (((w.alloc (.cells #[.slice a0 n0 c0, .slice a1 n1 c1, .slice a2 n2 c2] 36)).alloc (.cells #[.int .i64 (k : Int), .int .i64 z, .slice sa sn sc] 46)).alloc (.cells #[.slice none 0 0, .slice none 0 0, .slice none 0 0] 36)).alloc (.cells #[.slice none 0 0, .slice none 0 0] 39) = W at *
  obtain ⟨⟨x0, x1, x2⟩, -⟩ := X0.three
  obtain ⟨⟨y0, y1, y2⟩, -⟩ := X1.three
  go_wp2_with fail
  refine (unhide HO _ b0).mono ?_
  rintro e w1 ⟨wa, wn, wc, T, N, rfl, HT, HTN, HN, b1⟩
  have B1 := hide (b0.trans (b1.mono b0.size))
  have R0 := hide (X2.up b1)
  have R1 := hide (X3.up b1)
  have XG := hide (X0.up b1)
  have hzl : w.heap.size + 4 ≤ w1.heap.size := by rw [← hz]; exact b1.size
  have HTB := hide (show ∀ q ∈ T, w.heap.size + 4 ≤ q ∧ q < w1.heap.size from fun q hq => ⟨by have := (unhide HTN q hq).1; omega, (unhide HT).lt q hq⟩)
  have HTn := hide (show (∀ q ∈ T, q < N) ∧ w.heap.size + 4 ≤ N from ⟨fun q hq => (unhide HTN q hq).2, by have := unhide HN; omega⟩)
  clear x0 x1 x2 y0 y1 y2 b1 X0 X1 X2 X3 b0 hz HTN HN
  have BA := hide ((Below.refl w1.heap.size w1).alloc (Nat.le_refl _) (.cells #[.string ⟨#[]⟩] 81))
  go_wp2_with fail
  refine (asNil_any _ _).mono ?_
  rintro e w2 ⟨rfl, b2⟩
  have k2 := (unhide BA).trans (b2.mono (unhide BA).size)
  have B2 := hide ((unhide B1).trans (k2.mono (unhide B1).size))
  have R02 := hide ((unhide R0).up k2)
  have R12 := hide ((unhide R1).up k2)
  have T2 := hide ((unhide HT).up k2)
  have hz2 : w.heap.size + 4 ≤ w2.heap.size := Nat.le_trans hzl k2.size
  have HZ12 := hide k2.size
  obtain ⟨⟨x0, x1, x2⟩, -⟩ := ((unhide XG).up k2).three
  clear k2 b2 BA R0 R1 XG HT
  go_wp2_with fail
  refine (unhide HG _ (unhide B2)).mono ?_
  rintro e w3 ⟨ua, uc, gb, gc, ma, mc, vs, G, rfl, HP, b3⟩
  have B3 := hide ((unhide B2).trans (b3.mono (unhide B2).size))
  have R03 := hide ((unhide R02).up b3)
  have R13 := hide ((unhide R12).up b3)
  have T3 := hide ((unhide T2).up b3)
  have hz3 : w2.heap.size ≤ w3.heap.size := b3.size
  clear x0 x1 x2 b3 R02 R12 T2
  have XT := boxF_new w3 [.slice ua ins.length uc, .slice (some ⟨gb, 0, none⟩) wins.length gc, .slice ma shown.length mc] 36
  have bt := (Below.refl w3.heap.size w3).alloc (Nat.le_refl _) (.cells #[.slice ua ins.length uc, .slice (some ⟨gb, 0, none⟩) wins.length gc, .slice ma shown.length mc] 36)
  simp only [List.toArray] at XT
  go_wp2_with fail
  have hgb2 : w2.heap.size ≤ gb := (unhide HP).wi.row.ge gb rfl
  have hgb3 : gb < w3.heap.size := (unhide HP).wi.row.lt gb rfl
  have hkv : k < vs.length := by rw [(unhide HP).wi.len]; exact hk
  obtain ⟨cv, fv'⟩ := (unhide HP).wi.row.at hkv
  have BT := hide bt
  have XT3 := hide XT
  have P3 := hide ((unhide HP).up bt)
  have PL := hide (unhide HP).lt
  have T33 := hide ((unhide T3).up bt)
  have CV := hide ((bt.cell (show gb < w3.heap.size from hgb3)).trans cv)
  have FV := hide ((bt.frozen (show gb < w3.heap.size from hgb3)).trans fv')
  have R033 := hide ((unhide R03).up bt)
  have R133 := hide ((unhide R13).up bt)
  have ht3 : w3.heap.size < (w3.alloc (.cells #[.slice ua ins.length uc, .slice (some ⟨gb, 0, none⟩) wins.length gc, .slice ma shown.length mc] 36)).heap.size := by simp
  have B33 := hide ((unhide B3).trans (bt.mono (unhide B3).size))
  clear XT bt cv fv' BT R03 R13 T3
  refine (keptLeave_any w3.heap.size gb wins.length gc k (.slice wa wn wc) _ _ hk h6 ht3 (unhide XT3).three.1.2.1 (Nat.lt_trans hgb3 ht3) (unhide CV) (unhide FV) ⟨_, _, _, rfl⟩).mono ?_
  rintro e w4 ⟨rfl, Wk, bk, hw4⟩
  have TK : Turn [gb] Wk (Wk.setCell ⟨gb, k, none⟩ (.slice wa wn wc)) := (Turn.refl _ _).setCell (by simp) k _
  have BK := (unhide B33).trans (bk.mono (unhide B33).size)
  have B4 := hide (BK.trans (TK.below BK.size (fun q hq => by simp at hq; omega)))
  have XT4 := hide (((unhide XT3).up bk).turn TK (by simp; omega))
  have R04 := hide (((unhide R033).up bk).turn TK (by simp; omega))
  have R14 := hide (((unhide R133).up bk).turn TK (by simp; omega))
  have P4 := hide (((unhide P3).up bk).put (k := k) (B' := w.heap.size + 4) ((unhide T33).up bk) (fun q hq => ⟨(unhide HTB q hq).1, by have := (unhide HTB q hq).2; have := unhide HZ12; omega⟩) hz2)
  rw [← hw4] at B4 XT4 R04 R14 P4
  clear BK TK bk hw4 XT3 R033 R133 P3 T33 CV FV
  go_wp2_with fail
  refine (tell_kept (k : Int) wa wn wc _).mono ?_
  rintro e w5 ⟨rfl, b5⟩
  have B5 := hide ((unhide B4).trans (b5.mono (unhide B4).size))
  have XT5 := hide ((unhide XT4).up b5)
  have R05 := hide ((unhide R04).up b5)
  have R15 := hide ((unhide R14).up b5)
  have P5 := hide ((unhide P4).up b5)
  have ZT := hide (show w.heap.size + 4 ≤ w3.heap.size from Nat.le_trans hz2 hz3)
  clear b5 XT4 R04 R14 P4
  have XS := boxF_new w5 [.slice none 0 0, .slice none 0 0] 39
  have bs := (Below.refl w5.heap.size w5).alloc (Nat.le_refl _) (.cells #[.slice none 0 0, .slice none 0 0] 39)
  simp only [List.toArray] at XS
  have XT6 := hide ((unhide XT5).up bs)
  have R06 := hide ((unhide R05).up bs)
  have R16 := hide ((unhide R15).up bs)
  have B6 := hide ((unhide B5).trans (bs.mono (unhide B5).size))
  have BS6 := hide bs
  have hgs : w3.heap.size < w5.heap.size := (unhide XT5).1.1
  have hgt : w.heap.size + 4 ≤ w3.heap.size := unhide ZT
  have XS6 := hide XS
  clear XS bs
  obtain ⟨⟨x0, x1, x2⟩, -⟩ := (unhide XT6).three
  obtain ⟨⟨y0, y1⟩, -⟩ := (unhide XS6).twoF
  obtain ⟨⟨p0, p1, p2⟩, f0, f1, f2⟩ := (unhide R06).three
  obtain ⟨⟨s0, s1⟩, h0, h1⟩ := (unhide R16).twoF
  go_wp2_with fail
  generalize w5.alloc (.cells #[.slice none 0 0, .slice none 0 0] 39) = W6 at *
  go_region
  clear p0 p1 p2 f0 f1 f2 s0 s1 h0 h1 x0 x1 x2 y0 y1
  have XB := (((((((unhide R06).set 0 (.slice ua ins.length uc) (by simp)).set 1 (.slice (some ⟨gb, 0, none⟩) wins.length gc) (by simp)).set 2 (.slice ma shown.length mc) (by simp)).far 0 (.slice none 0 0) (show w.heap.size + 2 ≠ w.heap.size + 3 by omega)).far 1 (.slice none 0 0) (show w.heap.size + 2 ≠ w.heap.size + 3 by omega))).up ((Below.refl _ _).drew)
  have XC := (((((((unhide R16).far 0 (.slice ua ins.length uc) (show w.heap.size + 3 ≠ w.heap.size + 2 by omega)).far 1 (.slice (some ⟨gb, 0, none⟩) wins.length gc) (show w.heap.size + 3 ≠ w.heap.size + 2 by omega)).far 2 (.slice ma shown.length mc) (show w.heap.size + 3 ≠ w.heap.size + 2 by omega)).set 0 (.slice none 0 0) (by simp)).set 1 (.slice none 0 0) (by simp))).up ((Below.refl _ _).drew)
  simp only [List.set] at XB XC
  have TT : Turn [w.heap.size + 2, w.heap.size + 3] W6 ((((((W6.setCell ⟨w.heap.size + 2, 0, none⟩ (.slice ua ins.length uc)).setCell ⟨w.heap.size + 2, 1, none⟩ (.slice (some ⟨gb, 0, none⟩) wins.length gc)).setCell ⟨w.heap.size + 2, 2, none⟩ (.slice ma shown.length mc)).setCell ⟨w.heap.size + 3, 0, none⟩ (.slice none 0 0)).setCell ⟨w.heap.size + 3, 1, none⟩ (.slice none 0 0))) := ((((((Turn.refl _ _).setCell (by simp) _ _).setCell (by simp) _ _).setCell (by simp) _ _).setCell (by simp) _ _).setCell (by simp) _ _)
  have hw6 := (unhide B6).size
  have BF := hide (((unhide B6).trans (TT.below hw6 (fun k hk => by simp at hk; omega))).drew)
  have PF := hide (((((unhide P5).up (unhide BS6)).turn TT (fun k hk => by simp at hk; omega)).up ((Below.refl _ _).drew)))
  clear TT
  go_wp2_with fail
  generalize (((((W6.setCell ⟨w.heap.size + 2, 0, none⟩ (.slice ua ins.length uc)).setCell ⟨w.heap.size + 2, 1, none⟩ (.slice (some ⟨gb, 0, none⟩) wins.length gc)).setCell ⟨w.heap.size + 2, 2, none⟩ (.slice ma shown.length mc)).setCell ⟨w.heap.size + 3, 0, none⟩ (.slice none 0 0)).setCell ⟨w.heap.size + 3, 1, none⟩ (.slice none 0 0)).drew = WF at *
  obtain ⟨⟨q0, q1, q2⟩, -⟩ := XB.three
  obtain ⟨⟨q3, q4⟩, -⟩ := XC.twoF
  refine bodyPost_ret (v := .tuple #[.agg #[.slice ua ins.length uc, .slice (some ⟨gb, 0, none⟩) wins.length gc, .slice ma shown.length mc], .agg #[.slice none 0 0, .slice none 0 0], .int .i64 0]) ?_ rfl ?_
  · simp [results, Tryz.results9, go_sem, q0, q1, q2, q3, q4]
  obtain ⟨Sg, hS, hSB, hSP⟩ := (unhide PF).fullOf
  exact ⟨_, Sg, _, [], rfl, hide hS, hide (fun k hk => by have := hSB k hk; omega), hide (showNone _), hide (by simp), hide (fun k h hm => by cases hm), hide (fun a n c v1 v2 e => by
    simp only [Value.agg.injEq, Array.mk.injEq, List.cons.injEq, Value.slice.injEq] at e
    obtain ⟨⟨rfl, rfl, rfl⟩, -⟩ := e
    exact (unhide PF).tx.room), unhide BF⟩
set_option maxRecDepth 20000 in
set_option maxHeartbeats 6400000 in
theorem gput_full (k : Nat) (inn : Int) (hinn : inn = (k : Int)) (z : Int) (v fv : Value) (sa : Option Addr) (sn sc : Nat) (ins : List ByteArray) (wins : List (List ItemV)) (shown : List MarkV) (x : List ItemV) (w : World) (hs : SmallGather ⟨ins, wins, shown⟩) (hgb : gatherB ⟨ins, wins, shown⟩ = true) (hk : k < wins.length) (h6 : wins.length ≤ 6) (hv : GatherRd w v ⟨ins, wins, shown⟩)
    (hE : fv = .agg #[.int .i64 inn, .int .i64 z, .slice sa sn sc]) 
    (h : ∀ W, Below w.heap.size w W → Calls Tryz.prog 33 #[v, fv] W fun e w' => ∃ wa wn wc T N, e = .returned (.tuple #[.iface 136 (.agg #[.int .i64 (k : Int), .slice wa wn wc]), .nilIface]) ∧ Hid (ItemSFull T w' (.slice wa wn wc) x) ∧ Hid (∀ q ∈ T, W.heap.size ≤ q ∧ q < N) ∧ Hid (W.heap.size ≤ N) ∧ Below W.heap.size W w') :
    Calls Tryz.prog 9 #[v, fv] w fun e w' => RetGF ⟨ins, wins.set k x, shown⟩ ⟨[], []⟩ 4 w e w' := by
  subst hinn
  have HG := hide (fun (W : World) (bW : Below w.heap.size w W) => ownGather_any ⟨ins, wins, shown⟩ v W hs hgb (hv.up bW))
  obtain ⟨a0, n0, c0, a1, n1, c1, a2, n2, c2, rfl⟩ := hv.form
  subst hE
  have HO := hide h
  clear h hv hs hgb
  obtain ⟨X0, X1, X2, X3, b0, hz⟩ := boxes4 w [.slice a0 n0 c0, .slice a1 n1 c1, .slice a2 n2 c2] [.int .i64 (k : Int), .int .i64 z, .slice sa sn sc] [.slice none 0 0, .slice none 0 0, .slice none 0 0] [.slice none 0 0, .slice none 0 0] 36 46 36 39
  simp only [List.toArray] at X0 X1 X2 X3 b0 hz
  unfold RetGP at HG
  simp only at HG
  go_enter Tryz.func9, Tryz.ntmps9
  go_wp2_with fail
  generalize (((w.alloc (.cells #[.slice a0 n0 c0, .slice a1 n1 c1, .slice a2 n2 c2] 36)).alloc (.cells #[.int .i64 (k : Int), .int .i64 z, .slice sa sn sc] 46)).alloc (.cells #[.slice none 0 0, .slice none 0 0, .slice none 0 0] 36)).alloc (.cells #[.slice none 0 0, .slice none 0 0] 39) = W at *
  obtain ⟨⟨x0, x1, x2⟩, -⟩ := X0.three
  obtain ⟨⟨y0, y1, y2⟩, -⟩ := X1.three
  go_wp2_with fail
  refine (unhide HO _ b0).mono ?_
  rintro e w1 ⟨wa, wn, wc, T, N, rfl, HT, HTN, HN, b1⟩
  have B1 := hide (b0.trans (b1.mono b0.size))
  have R0 := hide (X2.up b1)
  have R1 := hide (X3.up b1)
  have XG := hide (X0.up b1)
  have hzl : w.heap.size + 4 ≤ w1.heap.size := by rw [← hz]; exact b1.size
  have HTB := hide (show ∀ q ∈ T, w.heap.size + 4 ≤ q ∧ q < w1.heap.size from fun q hq => ⟨by have := (unhide HTN q hq).1; omega, (unhide HT).lt q hq⟩)
  have HTn := hide (show (∀ q ∈ T, q < N) ∧ w.heap.size + 4 ≤ N from ⟨fun q hq => (unhide HTN q hq).2, by have := unhide HN; omega⟩)
  clear x0 x1 x2 y0 y1 y2 b1 X0 X1 X2 X3 b0 hz HTN HN
  have BA := hide ((Below.refl w1.heap.size w1).alloc (Nat.le_refl _) (.cells #[.string ⟨#[]⟩] 81))
  go_wp2_with fail
  refine (asNil_any _ _).mono ?_
  rintro e w2 ⟨rfl, b2⟩
  have k2 := (unhide BA).trans (b2.mono (unhide BA).size)
  have B2 := hide ((unhide B1).trans (k2.mono (unhide B1).size))
  have R02 := hide ((unhide R0).up k2)
  have R12 := hide ((unhide R1).up k2)
  have T2 := hide ((unhide HT).up k2)
  have hz2 : w.heap.size + 4 ≤ w2.heap.size := Nat.le_trans hzl k2.size
  have HZ12 := hide k2.size
  obtain ⟨⟨x0, x1, x2⟩, -⟩ := ((unhide XG).up k2).three
  clear k2 b2 BA R0 R1 XG HT
  go_wp2_with fail
  refine (unhide HG _ (unhide B2)).mono ?_
  rintro e w3 ⟨ua, uc, gb, gc, ma, mc, vs, G, rfl, HP, b3⟩
  have B3 := hide ((unhide B2).trans (b3.mono (unhide B2).size))
  have R03 := hide ((unhide R02).up b3)
  have R13 := hide ((unhide R12).up b3)
  have T3 := hide ((unhide T2).up b3)
  have hz3 : w2.heap.size ≤ w3.heap.size := b3.size
  clear x0 x1 x2 b3 R02 R12 T2
  have XT := boxF_new w3 [.slice ua ins.length uc, .slice (some ⟨gb, 0, none⟩) wins.length gc, .slice ma shown.length mc] 36
  have bt := (Below.refl w3.heap.size w3).alloc (Nat.le_refl _) (.cells #[.slice ua ins.length uc, .slice (some ⟨gb, 0, none⟩) wins.length gc, .slice ma shown.length mc] 36)
  simp only [List.toArray] at XT
  go_wp2_with fail
  have hgb2 : w2.heap.size ≤ gb := (unhide HP).wi.row.ge gb rfl
  have hgb3 : gb < w3.heap.size := (unhide HP).wi.row.lt gb rfl
  have hkv : k < vs.length := by rw [(unhide HP).wi.len]; exact hk
  obtain ⟨cv, fv'⟩ := (unhide HP).wi.row.at hkv
  have BT := hide bt
  have XT3 := hide XT
  have P3 := hide ((unhide HP).up bt)
  have PL := hide (unhide HP).lt
  have T33 := hide ((unhide T3).up bt)
  have CV := hide ((bt.cell (show gb < w3.heap.size from hgb3)).trans cv)
  have FV := hide ((bt.frozen (show gb < w3.heap.size from hgb3)).trans fv')
  have R033 := hide ((unhide R03).up bt)
  have R133 := hide ((unhide R13).up bt)
  have ht3 : w3.heap.size < (w3.alloc (.cells #[.slice ua ins.length uc, .slice (some ⟨gb, 0, none⟩) wins.length gc, .slice ma shown.length mc] 36)).heap.size := by simp
  have B33 := hide ((unhide B3).trans (bt.mono (unhide B3).size))
  clear XT bt cv fv' BT R03 R13 T3
  refine (keptLeave_any w3.heap.size gb wins.length gc k (.slice wa wn wc) _ _ hk h6 ht3 (unhide XT3).three.1.2.1 (Nat.lt_trans hgb3 ht3) (unhide CV) (unhide FV) ⟨_, _, _, rfl⟩).mono ?_
  rintro e w4 ⟨rfl, Wk, bk, hw4⟩
  have TK : Turn [gb] Wk (Wk.setCell ⟨gb, k, none⟩ (.slice wa wn wc)) := (Turn.refl _ _).setCell (by simp) k _
  have BK := (unhide B33).trans (bk.mono (unhide B33).size)
  have B4 := hide (BK.trans (TK.below BK.size (fun q hq => by simp at hq; omega)))
  have XT4 := hide (((unhide XT3).up bk).turn TK (by simp; omega))
  have R04 := hide (((unhide R033).up bk).turn TK (by simp; omega))
  have R14 := hide (((unhide R133).up bk).turn TK (by simp; omega))
  have P4 := hide (((unhide P3).up bk).put (k := k) (B' := w.heap.size + 4) ((unhide T33).up bk) (fun q hq => ⟨(unhide HTB q hq).1, by have := (unhide HTB q hq).2; have := unhide HZ12; omega⟩) hz2)
  rw [← hw4] at B4 XT4 R04 R14 P4
  clear BK TK bk hw4 XT3 R033 R133 P3 T33 CV FV
  go_wp2_with fail
  refine (tell_too (k : Int) wa wn wc _).mono ?_
  rintro e w5 ⟨rfl, b5⟩
  have B5 := hide ((unhide B4).trans (b5.mono (unhide B4).size))
  have XT5 := hide ((unhide XT4).up b5)
  have R05 := hide ((unhide R04).up b5)
  have R15 := hide ((unhide R14).up b5)
  have P5 := hide ((unhide P4).up b5)
  have ZT := hide (show w.heap.size + 4 ≤ w3.heap.size from Nat.le_trans hz2 hz3)
  clear b5 XT4 R04 R14 P4
  have XS := boxF_new w5 [.slice none 0 0, .slice none 0 0] 39
  have bs := (Below.refl w5.heap.size w5).alloc (Nat.le_refl _) (.cells #[.slice none 0 0, .slice none 0 0] 39)
  simp only [List.toArray] at XS
  have XT6 := hide ((unhide XT5).up bs)
  have R06 := hide ((unhide R05).up bs)
  have R16 := hide ((unhide R15).up bs)
  have B6 := hide ((unhide B5).trans (bs.mono (unhide B5).size))
  have BS6 := hide bs
  have hgs : w3.heap.size < w5.heap.size := (unhide XT5).1.1
  have hgt : w.heap.size + 4 ≤ w3.heap.size := unhide ZT
  have XS6 := hide XS
  clear XS bs
  obtain ⟨⟨x0, x1, x2⟩, -⟩ := (unhide XT6).three
  obtain ⟨⟨y0, y1⟩, -⟩ := (unhide XS6).twoF
  obtain ⟨⟨p0, p1, p2⟩, f0, f1, f2⟩ := (unhide R06).three
  obtain ⟨⟨s0, s1⟩, h0, h1⟩ := (unhide R16).twoF
  go_wp2_with fail
  generalize w5.alloc (.cells #[.slice none 0 0, .slice none 0 0] 39) = W6 at *
  go_region
  clear p0 p1 p2 f0 f1 f2 s0 s1 h0 h1 x0 x1 x2 y0 y1
  have XB := (((((((unhide R06).set 0 (.slice ua ins.length uc) (by simp)).set 1 (.slice (some ⟨gb, 0, none⟩) wins.length gc) (by simp)).set 2 (.slice ma shown.length mc) (by simp)).far 0 (.slice none 0 0) (show w.heap.size + 2 ≠ w.heap.size + 3 by omega)).far 1 (.slice none 0 0) (show w.heap.size + 2 ≠ w.heap.size + 3 by omega))).up ((Below.refl _ _).drew)
  have XC := (((((((unhide R16).far 0 (.slice ua ins.length uc) (show w.heap.size + 3 ≠ w.heap.size + 2 by omega)).far 1 (.slice (some ⟨gb, 0, none⟩) wins.length gc) (show w.heap.size + 3 ≠ w.heap.size + 2 by omega)).far 2 (.slice ma shown.length mc) (show w.heap.size + 3 ≠ w.heap.size + 2 by omega)).set 0 (.slice none 0 0) (by simp)).set 1 (.slice none 0 0) (by simp))).up ((Below.refl _ _).drew)
  simp only [List.set] at XB XC
  have TT : Turn [w.heap.size + 2, w.heap.size + 3] W6 ((((((W6.setCell ⟨w.heap.size + 2, 0, none⟩ (.slice ua ins.length uc)).setCell ⟨w.heap.size + 2, 1, none⟩ (.slice (some ⟨gb, 0, none⟩) wins.length gc)).setCell ⟨w.heap.size + 2, 2, none⟩ (.slice ma shown.length mc)).setCell ⟨w.heap.size + 3, 0, none⟩ (.slice none 0 0)).setCell ⟨w.heap.size + 3, 1, none⟩ (.slice none 0 0))) := ((((((Turn.refl _ _).setCell (by simp) _ _).setCell (by simp) _ _).setCell (by simp) _ _).setCell (by simp) _ _).setCell (by simp) _ _)
  have hw6 := (unhide B6).size
  have BF := hide (((unhide B6).trans (TT.below hw6 (fun k hk => by simp at hk; omega))).drew)
  have PF := hide (((((unhide P5).up (unhide BS6)).turn TT (fun k hk => by simp at hk; omega)).up ((Below.refl _ _).drew)))
  clear TT
  go_wp2_with fail
  generalize (((((W6.setCell ⟨w.heap.size + 2, 0, none⟩ (.slice ua ins.length uc)).setCell ⟨w.heap.size + 2, 1, none⟩ (.slice (some ⟨gb, 0, none⟩) wins.length gc)).setCell ⟨w.heap.size + 2, 2, none⟩ (.slice ma shown.length mc)).setCell ⟨w.heap.size + 3, 0, none⟩ (.slice none 0 0)).setCell ⟨w.heap.size + 3, 1, none⟩ (.slice none 0 0)).drew = WF at *
  obtain ⟨⟨q0, q1, q2⟩, -⟩ := XB.three
  obtain ⟨⟨q3, q4⟩, -⟩ := XC.twoF
  refine bodyPost_ret (v := .tuple #[.agg #[.slice ua ins.length uc, .slice (some ⟨gb, 0, none⟩) wins.length gc, .slice ma shown.length mc], .agg #[.slice none 0 0, .slice none 0 0], .int .i64 4]) ?_ rfl ?_
  · simp [results, Tryz.results9, go_sem, q0, q1, q2, q3, q4]
  obtain ⟨Sg, hS, hSB, hSP⟩ := (unhide PF).fullOf
  exact ⟨_, Sg, _, [], rfl, hide hS, hide (fun k hk => by have := hSB k hk; omega), hide (showNone _), hide (by simp), hide (fun k h hm => by cases hm), hide (fun a n c v1 v2 e => by
    simp only [Value.agg.injEq, Array.mk.injEq, List.cons.injEq, Value.slice.injEq] at e
    obtain ⟨⟨rfl, rfl, rfl⟩, -⟩ := e
    exact (unhide PF).tx.room), unhide BF⟩
set_option maxRecDepth 20000 in
set_option maxHeartbeats 6400000 in
theorem gput_shows (k : Nat) (inn : Int) (hinn : inn = (k : Int)) (z : Int) (v fv : Value) (sa : Option Addr) (sn sc : Nat) (ins : List ByteArray) (wins : List (List ItemV)) (shown : List MarkV) (x : List ItemV) (w : World) (hs : SmallGather ⟨ins, wins, shown⟩) (hgb : gatherB ⟨ins, wins, shown⟩ = true) (hk : k < wins.length) (h6 : wins.length ≤ 6) (hv : GatherRd w v ⟨ins, wins, shown⟩)
    (hE : fv = .agg #[.int .i64 inn, .int .i64 z, .slice sa sn sc]) (vals : List Int) (ms : List MarkV) (hsm : SmallMarkS ms) (hml : ms.length ≤ 1000000)
    (h : ∀ W, Below w.heap.size w W → Calls Tryz.prog 33 #[v, fv] W fun e w' => ∃ wa wn wc T N va vn vc ja jn jc Ss Sv Sj, e = .returned (.tuple #[.iface 134 (.agg #[.int .i64 (k : Int), .slice wa wn wc, .slice va vn vc, .slice ja jn jc]), .nilIface]) ∧ Hid (ItemSFull T w' (.slice wa wn wc) x) ∧ Hid (∀ q ∈ T, W.heap.size ≤ q ∧ q < N) ∧ Hid (W.heap.size ≤ N) ∧ Hid (ShowOwn Ss w' (.agg #[.slice va vn vc, .slice ja jn jc]) ⟨vals, ms⟩) ∧ Hid (∀ q ∈ Ss, N ≤ q) ∧ Hid (Ss = Sv ++ Sj) ∧ Hid (MarkSOwn Sj w' (.slice ja jn jc) ms) ∧ Below W.heap.size W w') :
    Calls Tryz.prog 9 #[v, fv] w fun e w' => RetGF ⟨ins, wins.set k x, ms⟩ ⟨vals, ms⟩ 1 w e w' := by
  subst hinn
  have HG := hide (fun (W : World) (bW : Below w.heap.size w W) => ownGather_any ⟨ins, wins, shown⟩ v W hs hgb (hv.up bW))
  obtain ⟨a0, n0, c0, a1, n1, c1, a2, n2, c2, rfl⟩ := hv.form
  subst hE
  have HO := hide h
  clear h hv hs hgb
  obtain ⟨X0, X1, X2, X3, b0, hz⟩ := boxes4 w [.slice a0 n0 c0, .slice a1 n1 c1, .slice a2 n2 c2] [.int .i64 (k : Int), .int .i64 z, .slice sa sn sc] [.slice none 0 0, .slice none 0 0, .slice none 0 0] [.slice none 0 0, .slice none 0 0] 36 46 36 39
  simp only [List.toArray] at X0 X1 X2 X3 b0 hz
  unfold RetGP at HG
  simp only at HG
  go_enter Tryz.func9, Tryz.ntmps9
  go_wp2_with fail
  generalize (((w.alloc (.cells #[.slice a0 n0 c0, .slice a1 n1 c1, .slice a2 n2 c2] 36)).alloc (.cells #[.int .i64 (k : Int), .int .i64 z, .slice sa sn sc] 46)).alloc (.cells #[.slice none 0 0, .slice none 0 0, .slice none 0 0] 36)).alloc (.cells #[.slice none 0 0, .slice none 0 0] 39) = W at *
  obtain ⟨⟨x0, x1, x2⟩, -⟩ := X0.three
  obtain ⟨⟨y0, y1, y2⟩, -⟩ := X1.three
  go_wp2_with fail
  refine (unhide HO _ b0).mono ?_
  rintro e w1 ⟨wa, wn, wc, T, N, va, vn, vc, ja, jn, jc, Ss, Sv, Sj, rfl, HT, HTN, HN, HSO, HSN, HSS, HJ, b1⟩
  have B1 := hide (b0.trans (b1.mono b0.size))
  have R0 := hide (X2.up b1)
  have R1 := hide (X3.up b1)
  have XG := hide (X0.up b1)
  have hzl : w.heap.size + 4 ≤ w1.heap.size := by rw [← hz]; exact b1.size
  have HTB := hide (show ∀ q ∈ T, w.heap.size + 4 ≤ q ∧ q < w1.heap.size from fun q hq => ⟨by have := (unhide HTN q hq).1; omega, (unhide HT).lt q hq⟩)
  have HTn := hide (show (∀ q ∈ T, q < N) ∧ w.heap.size + 4 ≤ N from ⟨fun q hq => (unhide HTN q hq).2, by have := unhide HN; omega⟩)
  clear x0 x1 x2 y0 y1 y2 b1 X0 X1 X2 X3 b0 hz HTN HN
  have BA := hide ((Below.refl w1.heap.size w1).alloc (Nat.le_refl _) (.cells #[.string ⟨#[]⟩] 81))
  go_wp2_with fail
  refine (asNil_any _ _).mono ?_
  rintro e w2 ⟨rfl, b2⟩
  have k2 := (unhide BA).trans (b2.mono (unhide BA).size)
  have B2 := hide ((unhide B1).trans (k2.mono (unhide B1).size))
  have R02 := hide ((unhide R0).up k2)
  have R12 := hide ((unhide R1).up k2)
  have T2 := hide ((unhide HT).up k2)
  have HSB := hide (show ∀ q ∈ Ss, N ≤ q ∧ q < w1.heap.size from fun q hq => ⟨unhide HSN q hq, (unhide HSO).lt q hq⟩)
  have SO2 := hide ((unhide HSO).up k2)
  have J2 := hide ((unhide HJ).up k2)
  clear HSO HJ HSN
  have hz2 : w.heap.size + 4 ≤ w2.heap.size := Nat.le_trans hzl k2.size
  have HZ12 := hide k2.size
  obtain ⟨⟨x0, x1, x2⟩, -⟩ := ((unhide XG).up k2).three
  clear k2 b2 BA R0 R1 XG HT
  go_wp2_with fail
  refine (unhide HG _ (unhide B2)).mono ?_
  rintro e w3 ⟨ua, uc, gb, gc, ma, mc, vs, G, rfl, HP, b3⟩
  have B3 := hide ((unhide B2).trans (b3.mono (unhide B2).size))
  have R03 := hide ((unhide R02).up b3)
  have R13 := hide ((unhide R12).up b3)
  have T3 := hide ((unhide T2).up b3)
  have SO3 := hide ((unhide SO2).up b3)
  have J3 := hide ((unhide J2).up b3)
  clear SO2 J2
  have hz3 : w2.heap.size ≤ w3.heap.size := b3.size
  clear x0 x1 x2 b3 R02 R12 T2
  have XT := boxF_new w3 [.slice ua ins.length uc, .slice (some ⟨gb, 0, none⟩) wins.length gc, .slice ma shown.length mc] 36
  have bt := (Below.refl w3.heap.size w3).alloc (Nat.le_refl _) (.cells #[.slice ua ins.length uc, .slice (some ⟨gb, 0, none⟩) wins.length gc, .slice ma shown.length mc] 36)
  simp only [List.toArray] at XT
  go_wp2_with fail
  have hgb2 : w2.heap.size ≤ gb := (unhide HP).wi.row.ge gb rfl
  have hgb3 : gb < w3.heap.size := (unhide HP).wi.row.lt gb rfl
  have hkv : k < vs.length := by rw [(unhide HP).wi.len]; exact hk
  obtain ⟨cv, fv'⟩ := (unhide HP).wi.row.at hkv
  have BT := hide bt
  have XT3 := hide XT
  have P3 := hide ((unhide HP).up bt)
  have PL := hide (unhide HP).lt
  have T33 := hide ((unhide T3).up bt)
  have CV := hide ((bt.cell (show gb < w3.heap.size from hgb3)).trans cv)
  have FV := hide ((bt.frozen (show gb < w3.heap.size from hgb3)).trans fv')
  have R033 := hide ((unhide R03).up bt)
  have R133 := hide ((unhide R13).up bt)
  have S33 := hide ((unhide SO3).up bt)
  have J33 := hide ((unhide J3).up bt)
  clear SO3 J3
  have ht3 : w3.heap.size < (w3.alloc (.cells #[.slice ua ins.length uc, .slice (some ⟨gb, 0, none⟩) wins.length gc, .slice ma shown.length mc] 36)).heap.size := by simp
  have B33 := hide ((unhide B3).trans (bt.mono (unhide B3).size))
  clear XT bt cv fv' BT R03 R13 T3
  refine (shownLeave_any w3.heap.size gb wins.length gc k _ _ _ _ _ wa wn wc va vn vc ja jn jc ms Sj _ hk h6 (unhide XT3) (Nat.lt_trans hgb3 ht3) (by omega) (unhide CV) (unhide FV) hsm hml (unhide J33) (fun q hq e => by have := (unhide HSB q (by rw [unhide HSS]; exact List.mem_append.2 (.inr hq))).2; have := unhide HZ12; omega)).mono ?_
  rintro e w4 ⟨rfl, Wk, W2, ma2, mc2, HBk, HB2, HMk, hw4⟩
  have bk := unhide HBk
  have b22 := unhide HB2
  have TK : Turn [gb] Wk (Wk.setCell ⟨gb, k, none⟩ (.slice wa wn wc)) := (Turn.refl _ _).setCell (by simp) k _
  have zk : (Wk.setCell ⟨gb, k, none⟩ (.slice wa wn wc)).heap.size = Wk.heap.size := by simp
  have hwk : w3.heap.size < Wk.heap.size := Nat.lt_of_lt_of_le ht3 bk.size
  have b23 : Below (Wk.setCell ⟨gb, k, none⟩ (.slice wa wn wc)).heap.size (Wk.setCell ⟨gb, k, none⟩ (.slice wa wn wc)) W2 := by rw [zk]; exact b22
  have TS : Turn [w3.heap.size] W2 (W2.setCell ⟨w3.heap.size, 2, none⟩ (.slice ma2 ms.length mc2)) := (Turn.refl _ _).setCell (by simp) 2 _
  have BK := (unhide B33).trans (bk.mono (unhide B33).size)
  have BK2 := (BK.trans (TK.below BK.size (fun q hq => by simp at hq; omega))).trans (b22.mono BK.size)
  have B4 := hide (BK2.trans (TS.below BK2.size (fun q hq => by simp at hq; omega)))
  have XT4 := hide (((((unhide XT3).up bk).turn TK (by simp; omega)).up b23).set 2 (.slice ma2 ms.length mc2) (by simp))
  have R04 := hide (((((unhide R033).up bk).turn TK (by simp; omega)).up b23).turn TS (by simp; omega))
  have R14 := hide (((((unhide R133).up bk).turn TK (by simp; omega)).up b23).turn TS (by simp; omega))
  have S4 := hide (((((unhide S33).up bk).turn TK (fun q hq hm => by simp at hm; have := (unhide HSB q hq).2; have := unhide HZ12; omega)).up b23).turn TS (fun q hq hm => by simp at hm; have := (unhide HSB q hq).2; have := unhide HZ12; omega))
  have P41 := ((((unhide P3).up bk).put (k := k) (B' := w.heap.size + 4) ((unhide T33).up bk) (fun q hq => ⟨(unhide HTB q hq).1, by have := (unhide HTB q hq).2; have := unhide HZ12; omega⟩) hz2).stamp b23 (unhide HMk) (by rw [zk]; exact Nat.le_refl _) (by omega))
  have HPO := hide (show ∀ q, PartOf (.slice ua ins.length uc) (.slice (some ⟨gb, 0, none⟩) wins.length gc) (.slice ma2 ms.length mc2) (fun i => if i = k then T else G i) (wins.set k x).length q → q ≠ w3.heap.size ∧ (w2.heap.size ≤ q ∨ q ∈ T) from fun q hq => by
    rcases hq with e | e | ⟨i, hi, e⟩ | e
    · have := unhide PL q (.inl e); have := (unhide HP).tx.ge q e; exact ⟨by omega, .inl this⟩
    · have := unhide PL q (.inr (.inl e)); have := (unhide HP).wi.row.ge q e; exact ⟨by omega, .inl this⟩
    · rw [List.length_set] at hi
      by_cases ei : i = k
      · simp only [if_pos ei] at e
        have := (unhide HTB q e).2; have := unhide HZ12
        exact ⟨by omega, .inr e⟩
      · simp only [if_neg ei] at e
        have := unhide PL q (.inr (.inr (.inl ⟨i, hi, e⟩))); have := ((unhide HP).wi.ge i hi q e).1
        exact ⟨by omega, .inl this⟩
    · have := (unhide HMk).ge q e; exact ⟨by omega, .inl (by omega)⟩)
  have P4 := hide (P41.keep TS (fun q hq hm => by simp at hm; exact (unhide HPO q hq).1 hm))
  have HFar := hide (show ∀ q, PartOf (.slice ua ins.length uc) (.slice (some ⟨gb, 0, none⟩) wins.length gc) (.slice ma2 ms.length mc2) (fun i => if i = k then T else G i) (wins.set k x).length q → q ∉ Ss from fun q hq hm => by
    have h1 := unhide HSB q hm
    have h2 := unhide HZ12
    rcases (unhide HPO q hq).2 with h | h
    · omega
    · have := (unhide HTn).1 q h; omega)
  simp only [List.set] at XT4
  rw [← hw4] at B4 XT4 R04 R14 P4 S4
  clear BK BK2 TK TS b22 b23 bk hw4 XT3 R033 R133 P3 T33 CV FV P41 HBk HB2 HMk S33 J33 zk hwk
  go_wp2_with fail
  refine (tell_shown (k : Int) wa va ja wn wc vn vc jn jc _).mono ?_
  rintro e w5 ⟨rfl, b5⟩
  have B5 := hide ((unhide B4).trans (b5.mono (unhide B4).size))
  have XT5 := hide ((unhide XT4).up b5)
  have R05 := hide ((unhide R04).up b5)
  have R15 := hide ((unhide R14).up b5)
  have P5 := hide ((unhide P4).up b5)
  have S5 := hide ((unhide S4).up b5)
  have ZT := hide (show w.heap.size + 4 ≤ w3.heap.size from Nat.le_trans hz2 hz3)
  have HNw := hide (unhide HTn).2
  clear b5 XT4 R04 R14 P4 S4
  have XS := boxF_new w5 [.slice va vn vc, .slice ja jn jc] 39
  have bs := (Below.refl w5.heap.size w5).alloc (Nat.le_refl _) (.cells #[.slice va vn vc, .slice ja jn jc] 39)
  simp only [List.toArray] at XS
  have XT6 := hide ((unhide XT5).up bs)
  have R06 := hide ((unhide R05).up bs)
  have R16 := hide ((unhide R15).up bs)
  have B6 := hide ((unhide B5).trans (bs.mono (unhide B5).size))
  have BS6 := hide bs
  have hgs : w3.heap.size < w5.heap.size := (unhide XT5).1.1
  have hgt : w.heap.size + 4 ≤ w3.heap.size := unhide ZT
  have XS6 := hide XS
  clear XS bs
  obtain ⟨⟨x0, x1, x2⟩, -⟩ := (unhide XT6).three
  obtain ⟨⟨y0, y1⟩, -⟩ := (unhide XS6).twoF
  obtain ⟨⟨p0, p1, p2⟩, f0, f1, f2⟩ := (unhide R06).three
  obtain ⟨⟨s0, s1⟩, h0, h1⟩ := (unhide R16).twoF
  go_wp2_with fail
  generalize w5.alloc (.cells #[.slice va vn vc, .slice ja jn jc] 39) = W6 at *
  go_region
  clear p0 p1 p2 f0 f1 f2 s0 s1 h0 h1 x0 x1 x2 y0 y1
  have XB := (((((((unhide R06).set 0 (.slice ua ins.length uc) (by simp)).set 1 (.slice (some ⟨gb, 0, none⟩) wins.length gc) (by simp)).set 2 (.slice ma2 ms.length mc2) (by simp)).far 0 (.slice va vn vc) (show w.heap.size + 2 ≠ w.heap.size + 3 by omega)).far 1 (.slice ja jn jc) (show w.heap.size + 2 ≠ w.heap.size + 3 by omega))).up ((Below.refl _ _).drew)
  have XC := (((((((unhide R16).far 0 (.slice ua ins.length uc) (show w.heap.size + 3 ≠ w.heap.size + 2 by omega)).far 1 (.slice (some ⟨gb, 0, none⟩) wins.length gc) (show w.heap.size + 3 ≠ w.heap.size + 2 by omega)).far 2 (.slice ma2 ms.length mc2) (show w.heap.size + 3 ≠ w.heap.size + 2 by omega)).set 0 (.slice va vn vc) (by simp)).set 1 (.slice ja jn jc) (by simp))).up ((Below.refl _ _).drew)
  simp only [List.set] at XB XC
  have TT : Turn [w.heap.size + 2, w.heap.size + 3] W6 ((((((W6.setCell ⟨w.heap.size + 2, 0, none⟩ (.slice ua ins.length uc)).setCell ⟨w.heap.size + 2, 1, none⟩ (.slice (some ⟨gb, 0, none⟩) wins.length gc)).setCell ⟨w.heap.size + 2, 2, none⟩ (.slice ma2 ms.length mc2)).setCell ⟨w.heap.size + 3, 0, none⟩ (.slice va vn vc)).setCell ⟨w.heap.size + 3, 1, none⟩ (.slice ja jn jc))) := ((((((Turn.refl _ _).setCell (by simp) _ _).setCell (by simp) _ _).setCell (by simp) _ _).setCell (by simp) _ _).setCell (by simp) _ _)
  have hw6 := (unhide B6).size
  have BF := hide (((unhide B6).trans (TT.below hw6 (fun k hk => by simp at hk; omega))).drew)
  have PF := hide (((((unhide P5).up (unhide BS6)).turn TT (fun k hk => by simp at hk; omega)).up ((Below.refl _ _).drew)))
  have SF := hide ((((unhide S5).up (unhide BS6)).turn TT (fun q hq hm => by have := (unhide HSB q hq).1; have := unhide HNw; simp at hm; omega)).up ((Below.refl _ _).drew))
  clear TT
  go_wp2_with fail
  generalize (((((W6.setCell ⟨w.heap.size + 2, 0, none⟩ (.slice ua ins.length uc)).setCell ⟨w.heap.size + 2, 1, none⟩ (.slice (some ⟨gb, 0, none⟩) wins.length gc)).setCell ⟨w.heap.size + 2, 2, none⟩ (.slice ma2 ms.length mc2)).setCell ⟨w.heap.size + 3, 0, none⟩ (.slice va vn vc)).setCell ⟨w.heap.size + 3, 1, none⟩ (.slice ja jn jc)).drew = WF at *
  obtain ⟨⟨q0, q1, q2⟩, -⟩ := XB.three
  obtain ⟨⟨q3, q4⟩, -⟩ := XC.twoF
  refine bodyPost_ret (v := .tuple #[.agg #[.slice ua ins.length uc, .slice (some ⟨gb, 0, none⟩) wins.length gc, .slice ma2 ms.length mc2], .agg #[.slice va vn vc, .slice ja jn jc], .int .i64 1]) ?_ rfl ?_
  · simp [results, Tryz.results9, go_sem, q0, q1, q2, q3, q4]
  obtain ⟨Sg, hS, hSB, hSP⟩ := (unhide PF).fullOf
  exact ⟨_, Sg, _, Ss, rfl, hide hS, hide (fun k hk => by have := hSB k hk; omega), SF, hide (fun k hk => by have := (unhide HSB k hk).1; have := unhide HNw; omega), hide (fun q hq hm => unhide HFar q (hSP q hq) hm), hide (fun a n c v1 v2 e => by
    simp only [Value.agg.injEq, Array.mk.injEq, List.cons.injEq, Value.slice.injEq] at e
    obtain ⟨⟨rfl, rfl, rfl⟩, -⟩ := e
    exact (unhide PF).tx.room), unhide BF⟩
end Go.Proofs.YtknkdbfgfcgkiaaGreatDoor
