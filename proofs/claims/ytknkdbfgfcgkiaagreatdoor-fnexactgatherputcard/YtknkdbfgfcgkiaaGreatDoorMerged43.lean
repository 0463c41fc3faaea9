/-
  What comes of an item that was taken into its window (the program).
-/
/-
  What comes of a feed (the program): outcomeOf.
-/
import Derived.Test.YtknkdbfgfcgkiaaGreatDoorMerged35
import Derived.Test.YtknkdbfgfcgkiaaGreatDoorMerged22
import Derived.Test.YtknkdbfgfcgkiaaGreatDoorMerged42
import Derived.Test.YtknkdbfgfcgkiaaGreatDoorMerged18
import Derived.Test.YtknkdbfgfcgkiaaGreatDoorMerged36
import Derived.Test.YtknkdbfgfcgkiaaGreatDoorWinPutS
import Derived.Test.YtknkdbfgfcgkiaaGreatDoorMerged23
import Derived.Deep.RegionWith
set_option linter.unusedVariables false
namespace Go.Proofs.YtknkdbfgfcgkiaaGreatDoor
open Go.RowKit Go.Maps Go.Deep

def valAt (ws : List (List ItemV)) (ps : List Int) (i : Nat) : Int := (((ws.getD i [])[(ps.getD i 0).toNat]?).map (fun x => x.a0)).getD 0
def valsTo (ws : List (List ItemV)) (ps : List Int) (k : Nat) : List Int := (List.range k).map (valAt ws ps)
theorem valsTo_all (ws : List (List ItemV)) (ps : List Int) : valsTo ws ps ps.length = valsAt ws ps := rfl
theorem valsTo_step (ws : List (List ItemV)) (ps : List Int) (k : Nat) : valsTo ws ps (k + 1) = valsTo ws ps k ++ [valAt ws ps k] := by
 unfold valsTo
 rw [List.range_succ, List.map_append]
 rfl
theorem valsTo_len (ws : List (List ItemV)) (ps : List Int) (k : Nat) : (valsTo ws ps k).length = k := by simp [valsTo]
/-- the value at a place of a choice -/
theorem choice_val {w : World} {b off : Nat} {ws : List (List ItemV)} {ps : List Int} {i : Nat} (hs : SmallItemSS ws) (hc : WinsAt w b off ws) (hi : i < ps.length) (hl : ps.length ≤ ws.length) (hin : inB ws ps = true) :
  ∃ (q bi oi ni ci : Nat), ps[i] = (q : Int) ∧ q < ni ∧ ni ≤ 1048576 ∧ w.cell? ⟨b, off + i, none⟩ = some (.slice (some ⟨bi, oi, none⟩) ni ci) ∧ w.cell? ⟨bi, oi + q * 2, none⟩ = some (.int .i64 (valAt ws ps i)) := by
 have hp := in_each hin hi
 have hiw : i < ws.length := by omega
 unfold placeB at hp
 simp only [List.getD_eq_getElem?_getD, List.getElem?_eq_getElem hi, List.getElem?_eq_getElem hiw, Option.getD_some, Bool.and_eq_true, decide_eq_true_eq] at hp
 obtain ⟨q, hq⟩ : ∃ q : Nat, ps[i] = (q : Int) := ⟨ps[i].toNat, by omega⟩
 have hqn : q < ws[i].length := by omega
 obtain ⟨v, c, hv⟩ := hc i hiw
 have hsm := hs.2 _ (List.getElem_mem hiw)
 obtain ⟨a, cc, rfl, hin'⟩ := hv
 rcases hin' with h0 | ⟨bi, oi, rfl, hbi, hat⟩
 ·rw [h0] at hqn; simp at hqn
 obtain ⟨c0, -⟩ := hat q hqn
 refine ⟨q, bi, oi, ws[i].length, cc, hq, hqn, hsm.1, c, ?_⟩
 rw [c0]
 unfold valAt
 simp [List.getD_eq_getElem?_getD, List.getElem?_eq_getElem hi, List.getElem?_eq_getElem hiw, hq, List.getElem?_eq_getElem hqn]
/-- the outcomes -/
inductive OutIs (N : Nat) (w : World) (ms : List MarkV) (ws : List (List ItemV)) (inn : Int) (wv : Value) : Value → Prop
 | kept (h : bestB ws = false ∨ (bestB ws = true ∧ chB ws (bestV ws) = true ∧ orderOut ms (chV ws (bestV ws)) ≠ 1)) : OutIs N w ms ws inn wv (.iface 119 (.agg #[.int .i64 inn, wv]))
 | full (h : bestB ws = true) (j : chB ws (bestV ws) = false) : OutIs N w ms ws inn wv (.iface 136 (.agg #[.int .i64 inn, wv]))
 | shows (h : bestB ws = true) (j : chB ws (bestV ws) = true) (o : orderOut ms (chV ws (bestV ws)) = 1) (ua : Option Addr) (un uc : Nat) (ja : Option Addr) (jn jc : Nat) (S : List Nat)
   (hv : InRow N w (.slice ua un uc) (valsAt ws (bestV ws))) (hj : MarkSOwn S w (.slice ja jn jc) (chV ws (bestV ws))) (hS : ∀ k ∈ S, N ≤ k) (hA : ∀ k ∈ S, (Value.slice ua un uc).ownBlock ≠ some k) :
   OutIs N w ms ws inn wv (.iface 134 (.agg #[.int .i64 inn, wv, .slice ua un uc, .slice ja jn jc]))
theorem OutIs.up {N : Nat} {w w' : World} {ms : List MarkV} {ws : List (List ItemV)} {inn : Int} {wv o : Value} (h : OutIs N w ms ws inn wv o) (hb : Below w.heap.size w w') : OutIs N w' ms ws inn wv o := by
 cases h with
 | kept h => exact .kept h
 | full h j => exact .full h j
 | shows h j o ua un uc ja jn jc S hv hj hS hA => exact .shows h j o ua un uc ja jn jc S (hv.up hb) (hj.up hb) hS hA
theorem ch_choice {ws : List (List ItemV)} {ps : List Int} (h : chB ws ps = true) : winsB ws = true ∧ ps.length = ws.length ∧ inB ws ps = true := by
 unfold chB at h
 simp only [Bool.and_eq_true] at h
 exact choice_parts h.1
set_option maxRecDepth 20000 in
set_option maxHeartbeats 6400000 in
theorem lookAt_any (ws : List (List ItemV)) (v1 : Value) (ms : List MarkV) (v2 : Value) (inn : Int) (wa : Option Addr) (wn wc : Nat) (w : World) (hs : SmallItemSS ws) (h6 : ws.length ≤ 6) (hsm : SmallMarkS ms) (h : ItemSSRd w v1 ws) (hm : MarkSRd w v2 ms) :
  Calls Tryz.prog 68 #[v1, v2, .agg #[.int .i64 inn, .slice wa wn wc]] w fun e w' => ∃ o, e = .returned o ∧ Hid (OutIs w.heap.size w' ms ws inn (.slice wa wn wc) o) ∧ Below w.heap.size w w' := by
 have KB := hide (fun (W : World) (bW : Below w.heap.size w W) => implBest_any ws v1 W hs (h.up bW))
 have KJ := hide (fun (W : World) (u : Value) (bW : Below w.heap.size w W) (hp : IntSRd W u (bestV ws)) => implChJoin_any ws v1 (bestV ws) u W hs (small_best ws hs) (h.up bW) hp)
 have KO := hide (fun (W : World) (j : Value) (bW : Below w.heap.size w W) (hj : MarkSRd W j (chV ws (bestV ws))) => implOrder_any ms v2 (chV ws (bestV ws)) j W hsm (small_ch hs) (hm.up bW) hj)
 have HS := hide hs
 have HR := hide h
 obtain ⟨a1, n1, c1, rfl⟩ := h.form
 obtain ⟨a2, n2, c2, rfl⟩ := hm.form
 have X0 := boxF_new w [.int .i64 inn, .slice wa wn wc] 119
 have bb := (Below.refl w.heap.size w).alloc (Nat.le_refl _) (.cells #[.int .i64 inn, .slice wa wn wc] 119)
 simp only [List.toArray] at X0
 clear h hm hs hsm
 cases hB : bestB ws
 ·rw [hB] at KB
  have HB := hide hB
  clear hB
  go_enter Tryz.func68, Tryz.ntmps68
  go_wp2_with fail
  generalize w.alloc (.cells #[.int .i64 inn, .slice wa wn wc] 119) = W at *
  refine (unhide KB _ bb).mono ?_
  rintro e w1 ⟨pv, S, rfl, HO, HSS, b1⟩
  obtain ⟨pa, pn, pc, rfl⟩ := (unhide HO).rd.form
  obtain ⟨x0, x1⟩ := (X0.up b1).1.two
  have B1 := hide (bb.trans (b1.mono bb.size))
  clear b1 bb X0
  go_wp2_with fail
  go_ret
  exact ⟨_, rfl, hide (.kept (.inl (unhide HB))), unhide B1⟩
 rw [hB] at KB
 have HB := hide hB
 clear hB
 cases hJ : chB ws (bestV ws)
 ·rw [hJ] at KJ
  have HJ := hide hJ
  clear hJ
  go_enter Tryz.func68, Tryz.ntmps68
  go_wp2_with fail
  generalize w.alloc (.cells #[.int .i64 inn, .slice wa wn wc] 119) = W at *
  refine (unhide KB _ bb).mono ?_
  rintro e w1 ⟨pv, S, rfl, HO, HSS, b1⟩
  obtain ⟨pa, pn, pc, rfl⟩ := (unhide HO).rd.form
  have B1 := hide (bb.trans (b1.mono bb.size))
  have X1 := hide (X0.up b1)
  clear b1 bb X0
  go_wp2_with fail
  refine (unhide KJ _ _ (unhide B1) (unhide HO).rd).mono ?_
  rintro e w2 ⟨jv, SJ, rfl, HM, HSJ, b2⟩
  obtain ⟨ja, jn, jc, rfl⟩ := (unhide HM).rd.form
  obtain ⟨x0, x1⟩ := ((unhide X1).up b2).1.two
  have B2 := hide ((unhide B1).trans (b2.mono (unhide B1).size))
  clear b2
  go_wp2_with fail
  go_ret
  exact ⟨_, rfl, hide (.full (unhide HB) (unhide HJ)), unhide B2⟩
 rw [hJ] at KJ
 have HJ := hide hJ
 obtain ⟨hwin, hlen, hin⟩ := ch_choice hJ
 have HIN := hide hin
 have HL := hide hlen
 clear hJ hwin hin
 by_cases hO : orderOut ms (chV ws (bestV ws)) = 1
 ·have HOO := hide hO
  rw [hO] at KO
  clear hO
  have hbl : (bestV ws).length ≤ 6 := by omega
  clear hlen
  go_enter Tryz.func68, Tryz.ntmps68
  go_wp2_with fail
  generalize w.alloc (.cells #[.int .i64 inn, .slice wa wn wc] 119) = W at *
  refine (unhide KB _ bb).mono ?_
  rintro e w1 ⟨pv, S, rfl, HO, HSS, b1⟩
  have B1 := hide (bb.trans (b1.mono bb.size))
  have X1 := hide (X0.up b1)
  have HIR := (unhide HO).rd
  obtain ⟨pa, pc, rfl, hpin⟩ := HIR
  clear b1 bb X0
  go_wp2_with fail
  refine (unhide KJ _ _ (unhide B1) (unhide HO).rd).mono ?_
  rintro e w2 ⟨jv, SJ, rfl, HM, HSJ, b2⟩
  obtain ⟨ja, jn, jc, rfl⟩ := (unhide HM).rd.form
  have B2 := hide ((unhide B1).trans (b2.mono (unhide B1).size))
  have X2 := hide ((unhide X1).up b2)
  have O2 := hide ((unhide HO).up b2)
  clear b2 hpin
  go_wp2_with fail
  refine (unhide KO _ _ (unhide B2) (unhide HM).rd).mono ?_
  rintro e w3 ⟨rfl, b3⟩
  have B3 := hide ((unhide B2).trans (b3.mono (unhide B2).size))
  have X3 := hide ((unhide X2).up b3)
  have O3 := hide ((unhide O2).up b3)
  have M3 := hide ((unhide HM).up b3)
  have HSJ3 := hide (show ∀ k ∈ SJ, w.heap.size ≤ k from fun k hk => Nat.le_trans (unhide B1).size (unhide HSJ k hk))
  have MLT := hide (unhide M3).lt
  clear b3 X2 X1 O2 HO HM HSJ
  obtain ⟨n3, hn3⟩ : ∃ n3, n3 = w3.heap.size := ⟨_, rfl⟩
  have HN3 := hide hn3
  have hz3 : w.heap.size ≤ n3 := by rw [hn3]; exact (unhide B3).size
  clear hn3
  go_wp2_with fail
  go_loopw [10, 41] (fun v i wr => ∃ (k : Nat), k ≤ (bestV ws).length ∧ i = .int .i64 k ∧ Hid (InRow n3 wr v (valsTo ws (bestV ws) k)) ∧ Hid (Below n3 w3 wr)) (fun _ i _ => (bestV ws).length - (intOf i).toNat)
  case atStart => exact ⟨0, Nat.zero_le _, rfl, InRow.nilAt _ _, by rw [unhide HN3]; exact hide (Below.refl _ _)⟩
  case round =>
   obtain ⟨k, hk, rfl, HV, HBr⟩ := hrel
   obtain ⟨va, vc, hv⟩ := (unhide HV).form
   subst hv
   have HVL := hide (valsTo_len ws (bestV ws) k)
   have hbr : n3 ≤ wr.heap.size := by have := (unhide HBr).size; rw [← unhide HN3] at this; exact this
   have HBW := hide (show Below w.heap.size w wr from (unhide B3).trans ((unhide HBr).mono hz3))
   by_cases hlt : k < (bestV ws).length
   ·obtain ⟨a', c', e, hwi⟩ := unhide HR
    simp only [Value.slice.injEq] at e
    obtain ⟨rfl, rfl, rfl⟩ := e
    rcases hwi with h0 | ⟨b, off, rfl, hb, hc⟩
    ·exact absurd (show ws.length = 0 by rw [h0]; rfl) (by have := unhide HL; omega)
    have hkw : k < ws.length := by have := unhide HL; omega
    obtain ⟨q, bi, oi, ni, ci, e1, hq1, hni, d0, d1⟩ := choice_val (unhide HS) (hc.up hb (unhide HBW)) hlt (Nat.le_of_eq (unhide HL)) (unhide HIN)
    obtain ⟨a', c', e, hpi⟩ := (unhide O3).rd
    simp only [Value.slice.injEq, true_and] at e
    obtain ⟨rfl, rfl⟩ := e
    rcases hpi with h0 | ⟨pb, po, rfl, hpb, hpc⟩
    ·rw [h0] at hlt; simp at hlt
    have p1 := ((unhide HBr).cell (show pb < n3 by rw [unhide HN3]; exact hpb)).trans (hpc k hlt)
    rw [e1] at p1
    have HT := hide (valsTo_step ws (bestV ws) k)
    clear hc hpc e1
    generalize valAt ws (bestV ws) k = y at *
    have BL := (Below.refl wr.heap.size wr).alloc (Nat.le_refl _) (.cells #[.int .i64 y] 3)
    have V4 := hide ((unhide HV).up BL)
    have B4 := hide ((unhide HBr).alloc hbr (.cells #[.int .i64 y] 3))
    have ca4 : (wr.alloc (.cells #[.int .i64 y] 3)).cell? ⟨wr.heap.size, 0, none⟩ = some (.int .i64 y) := World.cell?_alloc_at _ _ _ _ rfl
    have hz4 : n3 ≤ (wr.alloc (.cells #[.int .i64 y] 3)).heap.size := by simp; omega
    clear BL
    go_wp2_with (first
     | (at_builtin; have _g := V4; refine wpList_inOne rfl _ _ rfl n3 _ (valsTo ws (bestV ws) k) y wr.heap.size rfl rfl (unhide V4) ca4 (by rw [unhide HVL]; omega) hz4 ?_; intro g5 c5 w5 r5 gr5 at5; rw [← unhide HT] at r5; rw [unhide HVL]; have R5 := hide r5; have B5 := hide ((unhide B4).grown gr5 hz4 (fun q hq => (unhide V4).ge q hq)); clear r5 gr5 at5 V4 B4)
     | fail)
    go_roundw
    case rel => exact ⟨k + 1, by omega, by go_num, by rw [unhide HVL] at R5; exact R5, B5⟩
    case measure => simp [intOf]; omega
   ·obtain rfl : k = (bestV ws).length := by omega
    have XR := (unhide X3).up (show Below w3.heap.size w3 wr by rw [← unhide HN3]; exact unhide HBr)
    have MR := hide ((unhide M3).up (show Below w3.heap.size w3 wr by rw [← unhide HN3]; exact unhide HBr))
    obtain ⟨x0, x1⟩ := XR.1.two
    have HV2 := hide (show InRow w.heap.size wr (.slice va (valsTo ws (bestV ws) (bestV ws).length).length vc) (valsAt ws (bestV ws)) from by
     have := unhide HV
     rw [valsTo_all] at this
     exact ⟨this.1, this.2.imp id (fun ⟨g, cap, cur, e, hB, r⟩ => ⟨g, cap, cur, e, Nat.le_trans hz3 hB, r⟩)⟩)
    have HAP := hide (show ∀ k ∈ SJ, (Value.slice va (valsTo ws (bestV ws) (bestV ws).length).length vc).ownBlock ≠ some k from fun k hk e => by
     have h1 := (unhide HV).ge k e
     have h2 := unhide MLT k hk
     rw [← unhide HN3] at h2
     omega)
    clear XR
    go_wp2_with fail
    go_ret
    exact ⟨_, rfl, hide (.shows (unhide HB) (unhide HJ) (unhide HOO) _ _ _ _ _ _ SJ (unhide HV2) (unhide MR) (unhide HSJ3) (unhide HAP)), unhide HBW⟩
 ·have HOO := hide hO
  have hne : (orderOut ms (chV ws (bestV ws)) == 1) = false := by simpa using hO
  generalize hoo : orderOut ms (chV ws (bestV ws)) = oo at *
  clear hlen
  go_enter Tryz.func68, Tryz.ntmps68
  go_wp2_with fail
  generalize w.alloc (.cells #[.int .i64 inn, .slice wa wn wc] 119) = W at *
  refine (unhide KB _ bb).mono ?_
  rintro e w1 ⟨pv, S, rfl, HO, HSS, b1⟩
  obtain ⟨pa, pn, pc, rfl⟩ := (unhide HO).rd.form
  have B1 := hide (bb.trans (b1.mono bb.size))
  have X1 := hide (X0.up b1)
  clear b1 bb X0
  go_wp2_with fail
  refine (unhide KJ _ _ (unhide B1) (unhide HO).rd).mono ?_
  rintro e w2 ⟨jv, SJ, rfl, HM, HSJ, b2⟩
  obtain ⟨ja, jn, jc, rfl⟩ := (unhide HM).rd.form
  have B2 := hide ((unhide B1).trans (b2.mono (unhide B1).size))
  have X2 := hide ((unhide X1).up b2)
  clear b2
  go_wp2_with fail
  refine (unhide KO _ _ (unhide B2) (unhide HM).rd).mono ?_
  rintro e w3 ⟨rfl, b3⟩
  have B3 := hide ((unhide B2).trans (b3.mono (unhide B2).size))
  obtain ⟨x0, x1⟩ := ((unhide X2).up b3).1.two
  have HOE := hide hoo
  clear b3 hoo
  go_wp2_with fail
  go_ret
  exact ⟨_, rfl, hide (.kept (.inr ⟨unhide HB, unhide HJ, by rw [unhide HOE]; exact unhide HOO⟩)), unhide B3⟩
end Go.Proofs.YtknkdbfgfcgkiaaGreatDoor

set_option linter.unusedVariables false
namespace Go.Proofs.YtknkdbfgfcgkiaaGreatDoor
open Go.RowKit Go.Maps Go.Deep

def FeedRd (w : World) (v : Value) (f : FeedV) : Prop := ∃ u, v = .agg #[.int .i64 f.inn, .int .i64 f.item.a0, u] ∧ MarkSRd w u f.item.a1
theorem FeedRd.up {w w' : World} {v : Value} {f : FeedV} (h : FeedRd w v f) (hb : Below w.heap.size w w') : FeedRd w' v f := by
 obtain ⟨u, e, h⟩ := h
 exact ⟨u, e, h.up hb⟩
def SmallFeed (f : FeedV) : Prop := IntFit f.inn ∧ SmallItem f.item
/-- the cells of a row of windows -/
def winVals (w : World) (b off n : Nat) : List Value := (List.range n).map fun i => (w.cell? ⟨b, off + i, none⟩).getD .nilIface
theorem winVals_len (w : World) (b off n : Nat) : (winVals w b off n).length = n := by simp [winVals]
theorem winVals_at {w : World} {b off : Nat} {ws : List (List ItemV)} (h : WinsAt w b off ws) : ∀ i (hi : i < (winVals w b off ws.length).length) (hi' : i < ws.length), w.cell? ⟨b, off + i, none⟩ = some (winVals w b off ws.length)[i] ∧ ItemSRd w (winVals w b off ws.length)[i] ws[i] := by
 intro i hi hi'
 obtain ⟨v, c, hv⟩ := h i hi'
 have e : (winVals w b off ws.length)[i] = v := by
  simp [winVals, c]
 rw [e]
 exact ⟨c, hv⟩
theorem winVals_sl {w : World} {b off : Nat} {ws : List (List ItemV)} (h : WinsAt w b off ws) : Slics (winVals w b off ws.length) := by
 intro u hu
 obtain ⟨i, hi, rfl⟩ := List.getElem_of_mem hu
 exact (winVals_at h i hi (by rw [winVals_len] at hi; exact hi)).2.form
/-- a row of windows that may be read -/
theorem WiRow.rdWins {B : Nat} {w : World} {g n c : Nat} {vs : List Value} {ws : List (List ItemV)} (h : WiRow B w (.slice (some ⟨g, 0, none⟩) n c) vs) (hl : vs.length = ws.length) (hv : ∀ i (hi : i < vs.length) (hi' : i < ws.length), ItemSRd w vs[i] ws[i]) : ItemSSRd w (.slice (some ⟨g, 0, none⟩) n c) ws := by
 have hn : n = vs.length := by
  rcases h.slice with ⟨e, _⟩ | ⟨g', c', e, _⟩
  ·simp at e
  ·simp only [Value.slice.injEq] at e
   exact e.2.1
 refine ⟨_, c, by rw [hn, hl], .inr ⟨g, 0, rfl, h.lt _ rfl, fun i hi => ⟨vs[i], ?_, hv i (by omega) hi⟩⟩⟩
 rw [Nat.zero_add]
 exact (h.at (by omega)).1
theorem winAt_get {g : GatherV} {k : Nat} {it : ItemV} (hk : k < g.wins.length) : winAt g ⟨(k : Int), it⟩ = g.wins[k] := by
 unfold winAt
 simp [List.getD_eq_getElem?_getD, List.getElem?_eq_getElem hk]
theorem gpW_len (g : GatherV) (f : FeedV) : (gpW g f).length = g.wins.length := by simp [gpW]
theorem small_gpW {g : GatherV} {f : FeedV} (hs : SmallItemSS g.wins) (hf : SmallItem f.item) (hw : SmallItemS (winAt g f)) : SmallItemSS (gpW g f) := by
 refine ⟨by rw [gpW_len]; exact hs.1, fun x hx => ?_⟩
 unfold gpW at hx
 rcases List.mem_or_eq_of_mem_set hx with h | h
 ·exact hs.2 x h
 ·rw [h]
  exact small_put hw hf
theorem small_winAt {g : GatherV} (hs : SmallItemSS g.wins) (f : FeedV) : SmallItemS (winAt g f) := by
 unfold winAt
 rw [List.getD_eq_getElem?_getD]
 cases h : g.wins[f.inn.toNat]? with
 | none => exact ⟨by simp, fun _ h => by cases h⟩
 | some x => exact hs.2 x (List.mem_of_getElem? h)
def gErr0 : ByteArray := ⟨#[116, 104, 101, 114, 101, 32, 105, 115, 32, 110, 111, 32, 115, 117, 99, 104, 32, 103, 97, 116, 104, 101, 114, 101, 114]⟩
def gErr1 : ByteArray := ⟨#[116, 104, 101, 114, 101, 32, 105, 115, 32, 110, 111, 32, 115, 117, 99, 104, 32, 105, 110, 112, 117, 116]⟩
def gErr2 : ByteArray := ⟨#[116, 104, 101, 32, 105, 116, 101, 109, 32, 104, 97, 115, 32, 110, 111, 32, 115, 116, 97, 109, 112]⟩
/-- a feed that may not be -/
def RetNo (w : World) (e : Ending) (w' : World) : Prop := ∃ s, e = .returned (.tuple #[.nilIface, .iface 81 (.agg #[.string s])]) ∧ Below w.heap.size w w'
set_option maxRecDepth 20000 in
set_option maxHeartbeats 6400000 in
theorem outcome_no (g : GatherV) (f : FeedV) (v u : Value) (w : World) (hs : SmallGather g) (hf : SmallFeed f) (h : GatherOwn [] w v g) (hu : FeedRd w u f) (hno : feedB g f = false) :
  Calls Tryz.prog 33 #[v, u] w fun e w' => RetNo w e w' := by
 have KG := hide (fun (W : World) (bW : Below w.heap.size w W) => implGatherOk_any g v W hs (h.up bW))
 obtain ⟨a0, n0, c0, a1, n1, c1, a2, n2, c2, rfl⟩ := h.rd.form
 obtain ⟨hn0, hn1, -⟩ := gather_parts h.rd
 obtain ⟨sv, rfl, hsv⟩ := hu
 obtain ⟨sa, sn, sc, rfl⟩ := hsv.form
 have hfit := hf.1
 obtain ⟨X0, Y0, b0, hz⟩ := boxesF2 w [.slice a0 n0 c0, .slice a1 n1 c1, .slice a2 n2 c2] [.int .i64 f.inn, .int .i64 f.item.a0, .slice sa sn sc] 36 46
 simp only [List.toArray] at X0 Y0 b0 hz
 have HNO := hide hno
 have hl : n0 ≤ 1048576 := by rw [hn0]; exact hs.1.1
 have HN0 := hide hn0
 clear hsv h hs hf hno hn0 hn1
 cases hG : gatherB g
 ·rw [hG] at KG
  clear hG
  go_enter Tryz.func33, Tryz.ntmps33
  go_wp2_with fail
  generalize (w.alloc (.cells #[.slice a0 n0 c0, .slice a1 n1 c1, .slice a2 n2 c2] 36)).alloc (.cells #[.int .i64 f.inn, .int .i64 f.item.a0, .slice sa sn sc] 46) = W at *
  obtain ⟨⟨x0, x1, x2⟩, -⟩ := X0.three
  go_wp2_with fail
  refine (unhide KG _ b0).mono ?_
  rintro e w1 ⟨rfl, b1⟩
  have B1 := hide (b0.trans (b1.mono b0.size))
  clear b1 b0 x0 x1 x2
  go_wp2_with fail
  refine bodyPost_ret (v := .tuple #[.nilIface, .iface 81 (.agg #[.string gErr0])]) ?_ rfl ?_
  ·simp [results, Tryz.results33, go_sem, gErr0]
  exact ⟨_, rfl, unhide B1⟩
 ·rw [hG] at KG
  have hi : f.inn < 0 ∨ (n0 : Int) ≤ f.inn := by
   have := unhide HNO
   unfold feedB at this
   rw [hG] at this
   have h0 := unhide HN0
   simp only [Bool.true_and, Bool.and_eq_false_iff, decide_eq_false_iff_not] at this
   omega
  clear hG HNO HN0
  generalize f.inn = inn at *
  go_enter Tryz.func33, Tryz.ntmps33
  go_wp2_with fail
  generalize (w.alloc (.cells #[.slice a0 n0 c0, .slice a1 n1 c1, .slice a2 n2 c2] 36)).alloc (.cells #[.int .i64 inn, .int .i64 f.item.a0, .slice sa sn sc] 46) = W at *
  obtain ⟨⟨x0, x1, x2⟩, -⟩ := X0.three
  go_wp2_with fail
  refine (unhide KG _ b0).mono ?_
  rintro e w1 ⟨rfl, b1⟩
  have B1 := hide (b0.trans (b1.mono b0.size))
  obtain ⟨⟨y0, y1, y2⟩, -⟩ := (Y0.up b1).three
  clear x0 x1 x2
  obtain ⟨⟨x0, x1, x2⟩, -⟩ := (X0.up b1).three
  clear b1 b0
  rcases hi with hi | hi
  ·go_wp2_with fail
   refine bodyPost_ret (v := .tuple #[.nilIface, .iface 81 (.agg #[.string gErr1])]) ?_ rfl ?_
   ·simp [results, Tryz.results33, go_sem, gErr1]
   exact ⟨_, rfl, unhide B1⟩
  ·have h0 : ¬ (inn < 0) := by omega
   have hge : decide (inn ≥ (n0 : Int)) = true := by simpa using hi
   go_wp2_with fail
   refine bodyPost_ret (v := .tuple #[.nilIface, .iface 81 (.agg #[.string gErr1])]) ?_ rfl ?_
   ·simp [results, Tryz.results33, go_sem, gErr1]
   exact ⟨_, rfl, unhide B1⟩
/-- a feed that is not above what its window has, or has no stamp -/
def RetOld (w : World) (e : Ending) (w' : World) : Prop := e = .returned (.tuple #[.iface 115 (.agg #[]), .nilIface]) ∧ Below w.heap.size w w'
/-- a feed that goes into its window -/
def RetIn (g : GatherV) (f : FeedV) (w : World) (e : Ending) (w' : World) : Prop :=
 ∃ o wa wn wc T N, e = .returned (.tuple #[o, .nilIface]) ∧ Hid (OutIs N w' g.shown (gpW g f) f.inn (.slice wa wn wc) o) ∧ Hid (ItemSFull T w' (.slice wa wn wc) (putV (winAt g f) f.item)) ∧ Hid ((∀ k ∈ T, w.heap.size ≤ k ∧ k < N)) ∧ Hid (w.heap.size ≤ N) ∧ Below w.heap.size w w'
set_option maxRecDepth 20000 in
set_option maxHeartbeats 6400000 in
theorem outcome_in (g : GatherV) (f : FeedV) (v u : Value) (w : World) (hs : SmallGather g) (hf : SmallFeed f) (h : GatherOwn [] w v g) (hu : FeedRd w u f) (hyes : feedB g f = true) :
  Calls Tryz.prog 33 #[v, u] w fun e w' => (putI (winAt g f) f.item = 1 → RetNo w e w') ∧ (putI (winAt g f) f.item = 2 → RetOld w e w') ∧ (putI (winAt g f) f.item = 0 → RetIn g f w e w') := by
 obtain ⟨hgb, -, hwl, hwb, -, k, hk, hkl, hwa⟩ := feedB_parts hyes
 obtain ⟨h1, h6⟩ := winsB_len hwb
 have KG := hide (fun (W : World) (bW : Below w.heap.size w W) => implGatherOk_any g v W hs (h.up bW))
 rw [hgb] at KG
 have hrd := h.rd
 obtain ⟨a0, n0, c0, a1, n1, c1, a2, n2, c2, rfl⟩ := hrd.form
 obtain ⟨hn0, hn1, hparts⟩ := gather_parts hrd
 obtain ⟨-, hW, hM⟩ := hparts w (Below.refl _ _)
 obtain ⟨sv, rfl, hsv⟩ := hu
 obtain ⟨sa, sn, sc, rfl⟩ := hsv.form
 obtain ⟨inn, it⟩ := f
 simp only at hk
 subst hk
 have hfi : SmallItem it := hf.2
 have hws := small_winAt hs.2.1 ⟨(k : Int), it⟩
 have HWS := hide (small_gpW (f := ⟨(k : Int), it⟩) hs.2.1 hfi hws)
 have HMS := hide hs.2.2
 have HM := hide hM
 obtain ⟨a', c', e, hwi⟩ := hW
 simp only [Value.slice.injEq] at e
 obtain ⟨rfl, rfl, rfl⟩ := e
 rcases hwi with h0 | ⟨b, off, rfl, hb, hc⟩
 ·rw [h0] at h1; simp at h1
 obtain ⟨wv, d0, hwv⟩ := hc k hkl
 have hwv2 : ItemSRd w wv (winAt g ⟨(k : Int), it⟩) := by rw [winAt_get hkl]; exact hwv
 obtain ⟨ia, inn', ic, rfl⟩ := hwv.form
 have KP := hide (fun (W : World) (bW : Below w.heap.size w W) => implPut_any (winAt g ⟨(k : Int), it⟩) (.slice ia inn' ic) it (.agg #[.int .i64 it.a0, .slice sa sn sc]) W hws hfi (hwv2.up bW) ⟨_, rfl, hsv.up bW⟩)
 have KC := hide (fun (W : World) (bW : Below w.heap.size w W) => cloneWins_any W b off g.wins.length c1 (winVals w b off g.wins.length) (winVals_len _ _ _ _) h1 h6 (winVals_sl hc) (Nat.lt_of_lt_of_le hb bW.size) (fun i hi => (bW.cell (show b < w.heap.size from hb)).trans (winVals_at hc i hi (by rw [winVals_len] at hi; exact hi)).1))
 have HVR := hide (fun i (hi : i < (winVals w b off g.wins.length).length) (hi' : i < g.wins.length) => (winVals_at hc i hi hi').2)
 have HVL := hide (winVals_len w b off g.wins.length)
 obtain ⟨X0, Y0, b0, hz⟩ := boxesF2 w [.slice a0 n0 c0, .slice (some ⟨b, off, none⟩) g.wins.length c1, .slice a2 n2 c2] [.int .i64 (k : Int), .int .i64 it.a0, .slice sa sn sc] 36 46
 simp only [List.toArray] at X0 Y0 b0 hz
 have hkn : k < n0 := by omega
 have hn06 : n0 ≤ 6 := by omega
 have HWA := hide hwa
 have HGL := hide h6
 clear hsv h hs hf hyes hn0 hn1 hrd hparts hM hc hwv hwv2 hgb hwb hwa hws
 generalize winVals w b off g.wins.length = us at *
 have HLEN := hide (show us.length = g.wins.length from unhide HVL)
 have HTN := hide (show gpW g ⟨(k : Int), it⟩ = g.wins.set k (putV (winAt g ⟨(k : Int), it⟩) it) from by unfold gpW; simp)
 have HP3 := hide (putI_three (winAt g ⟨(k : Int), it⟩) it)
 have HWL := hide hwl
 clear hwl
 have HK1 := hide (show (us.set k (.slice none 0 0)).length = us.length by simp)
 have hd : ¬ ((k : Int) < 0) := by omega
 have hd2 : decide ((k : Int) ≥ (n0 : Int)) = false := by simp; omega
 unfold RetPut at KP
 generalize hci : putI (winAt g ⟨(k : Int), it⟩) it = ci at *
 clear hci HVL HK1 h1
 go_enter Tryz.func33, Tryz.ntmps33
 go_wp2_with fail
 generalize (w.alloc (.cells #[.slice a0 n0 c0, .slice (some ⟨b, off, none⟩) g.wins.length c1, .slice a2 n2 c2] 36)).alloc (.cells #[.int .i64 (k : Int), .int .i64 it.a0, .slice sa sn sc] 46) = W at *
 obtain ⟨⟨x0, x1, x2⟩, -⟩ := X0.three
 go_wp2_with fail
 refine (unhide KG _ b0).mono ?_
 rintro e w1 ⟨rfl, b1⟩
 have B1 := hide (b0.trans (b1.mono b0.size))
 have X1 := hide (X0.up b1)
 have Y1 := hide (Y0.up b1)
 clear x0 x1 x2 b1 b0 X0 Y0
 obtain ⟨⟨x0, x1, x2⟩, -⟩ := (unhide X1).three
 obtain ⟨⟨y0, y1, y2⟩, -⟩ := (unhide Y1).three
 have d1 := ((unhide B1).cell (show b < w.heap.size from hb)).trans d0
 go_wp2_with fail
 go_region_with (go_at_call 66; refine (unhide KP _ ((unhide B1).drew)).mono ?_; rintro e w2 ⟨pv, T, rfl, HT, HTL, b2⟩)
 all_goals
  obtain ⟨pa, pn, pc, rfl⟩ := (unhide HT).rd.form
  have B2 := hide ((unhide B1).trans (Below.mono (((Below.refl w1.heap.size w1).drew).trans b2) (unhide B1).size))
  have X2 := hide ((unhide X1).up (((Below.refl w1.heap.size w1).drew).trans b2))
  have Y2 := hide ((unhide Y1).up (((Below.refl w1.heap.size w1).drew).trans b2))
  have HTL2 := hide (show ∀ k ∈ T, w.heap.size ≤ k from fun k hk => Nat.le_trans (unhide B1).size (unhide HTL k hk))
  clear b2 x0 x1 x2 y0 y1 y2 d1 X1 Y1 HTL
  rcases unhide HP3 with rfl | rfl | rfl
  ·obtain ⟨⟨x0, x1, x2⟩, -⟩ := (unhide X2).three
   go_wp2_with fail
   refine (unhide KC _ (unhide B2)).mono ?_
   rintro e w3 ⟨gc, mc, rfl, HR3, b3⟩
   have B3 := hide ((unhide B2).trans (b3.mono (unhide B2).size))
   have X3 := hide ((unhide X2).up b3)
   have Y3 := hide ((unhide Y2).up b3)
   have T3 := hide ((unhide HT).up b3)
   have TL3 := hide (show ∀ k ∈ T, k < w3.heap.size from (unhide T3).lt)
   have hgc2 : w2.heap.size ≤ gc := (unhide HR3).ge gc rfl
   have hx2 : w.heap.size + 1 < w2.heap.size := (unhide Y2).1.1
   have hne0 : ¬ (gc = w.heap.size) := by omega
   have hne1 : ¬ (gc = w.heap.size + 1) := by omega
   have hne2 : ¬ (w.heap.size = gc) := by omega
   have hne3 : ¬ (w.heap.size + 1 = gc) := by omega
   have hku : k < us.length := by rw [unhide HLEN]; exact hkl
   obtain ⟨e3, f3⟩ := (unhide HR3).at hku
   have R4 := hide ((unhide HR3).set k (.slice pa pn pc))
   have TT : Turn [gc] w3 (w3.setCell ⟨gc, k, none⟩ (.slice pa pn pc)) := (Turn.refl _ _).setCell (by simp) k _
   have B4 := hide ((unhide B3).trans (TT.below (unhide B3).size (fun q hq => by simp at hq; have := (unhide B2).size; omega)))
   have T4 := hide ((unhide T3).turn TT (fun q hq hm => by have := (unhide HT).lt q hq; simp at hm; omega))
   have RD4 := hide (show ItemSSRd (w3.setCell ⟨gc, k, none⟩ (.slice pa pn pc)) (.slice (some ⟨gc, 0, none⟩) g.wins.length mc) (gpW g ⟨(k : Int), it⟩) from by
    rw [unhide HTN]
    refine (unhide R4).rdWins (by rw [List.length_set, List.length_set]; exact unhide HLEN) (fun i hi hi' => ?_)
    by_cases e : i = k
    ·subst e
     simp only [List.getElem_set_self]
     exact (unhide T4).rd
    ·rw [List.getElem_set_ne (fun h => e h.symm), List.getElem_set_ne (fun h => e h.symm)]
     rw [List.length_set] at hi hi'
     exact (unhide HVR i hi hi').up (unhide B4))
   have KL := hide (fun (W : World) (bW : Below (w3.setCell ⟨gc, k, none⟩ (.slice pa pn pc)).heap.size (w3.setCell ⟨gc, k, none⟩ (.slice pa pn pc)) W) => lookAt_any (gpW g ⟨(k : Int), it⟩) (.slice (some ⟨gc, 0, none⟩) g.wins.length mc) g.shown (.slice a2 n2 c2) (k : Int) pa pn pc W (unhide HWS) (by rw [gpW_len]; exact unhide HGL) (unhide HMS) ((unhide RD4).up bW) ((unhide HM).up ((unhide B4).trans (bW.mono (unhide B4).size))))
   have HZ3 := hide (show (w3.setCell ⟨gc, k, none⟩ (.slice pa pn pc)).heap.size = w3.heap.size by simp)
   obtain ⟨⟨x0, x1, x2⟩, -⟩ := (unhide X3).three
   obtain ⟨⟨y0, y1, y2⟩, -⟩ := (unhide Y3).three
   clear b3 X2 Y2 T3 HR3 TT hx2 hgc2 R4 HT
   go_wp2_with fail
   refine (unhide KL _ (Below.refl _ _)).mono ?_
   rintro e w5 ⟨o, rfl, HO, b5⟩
   have B5 := hide ((unhide B4).trans (b5.mono (unhide B4).size))
   have T5 := hide ((unhide T4).up b5)
   have HN5 := hide (show ∀ y ∈ T, w.heap.size ≤ y ∧ y < (w3.setCell ⟨gc, k, none⟩ (.slice pa pn pc)).heap.size from fun q hq => ⟨unhide HTL2 q hq, by rw [unhide HZ3]; exact unhide TL3 q hq⟩)
   have HNL := hide (show w.heap.size ≤ (w3.setCell ⟨gc, k, none⟩ (.slice pa pn pc)).heap.size by rw [unhide HZ3]; exact (unhide B3).size)
   clear b5 x0 x1 x2 y0 y1 y2 e3 f3
   go_wp2_with fail
   refine bodyPost_ret (v := .tuple #[o, .nilIface]) ?_ rfl ?_
   ·simp [results, Tryz.results33, go_sem]
   exact ⟨o, pa, pn, pc, T, _, rfl, HO, T5, HN5, HNL, unhide B5⟩
  ·go_wp2_with fail
   refine bodyPost_ret (v := .tuple #[.nilIface, .iface 81 (.agg #[.string gErr2])]) ?_ rfl ?_
   ·simp [results, Tryz.results33, go_sem, gErr2]
   exact ⟨_, rfl, unhide B2⟩
  ·go_wp2_with fail
   refine bodyPost_ret (v := .tuple #[.iface 115 (.agg #[]), .nilIface]) ?_ rfl ?_
   ·simp [results, Tryz.results33, go_sem]
   exact ⟨rfl, unhide B2⟩
end Go.Proofs.YtknkdbfgfcgkiaaGreatDoor
