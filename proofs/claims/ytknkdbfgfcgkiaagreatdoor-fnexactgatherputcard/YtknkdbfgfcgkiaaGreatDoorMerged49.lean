/-
  The specification's GatherPut.
-/
/-
  The program's GatherPut, whatever comes of the feed.
-/
/-
  One item that comes in is opened.
-/
/-
  The marks of a list of ints written.
-/
/-
  The marks of a list of ints read back.
-/
/-
  Gatherers of one's own, with their room: the laws' copies; how much they hold; feeds and shows.
-/
/-
  The laws' helpers over feeds and shows.
-/
import Derived.Test.YtknkdbfgfcgkiaaGreatDoorPutGS
import Derived.Test.YtknkdbfgfcgkiaaGreatDoorPutGJ
import Derived.Test.YtknkdbfgfcgkiaaGreatDoorMerged25
import Derived.Test.YtknkdbfgfcgkiaaGreatDoorMerged22
import Derived.Test.YtknkdbfgfcgkiaaGreatDoorMerged19
import Derived.Test.YtknkdbfgfcgkiaaGreatDoorMerged23
import Derived.Test.YtknkdbfgfcgkiaaGreatDoorMerged6
import Derived.OpenShut
import Derived.Handy
set_option linter.unusedVariables false
namespace Go.Proofs.YtknkdbfgfcgkiaaGreatDoor
open Go.RowKit Go.Maps Go.Deep

theorem specGPut_any (g : GatherV) (f : FeedV) (v u : Value) (w : World) (hs : SmallGather g) (hf : SmallFeed f) (h : GatherOwn [] w v g) (hu : FeedRd w u f) :
  Calls Tryz.prog 6 #[v, u] w fun e w' => RetSR (gpG g f) (gpS g f) (gpC g f) w e w' := by
 cases hy : feedB g f
 ·obtain ⟨e1, e2, e3⟩ := gp_bad (g := g) (f := f) (.inl hy)
  rw [e1, e2, e3]
  exact specGPut_no g f v u w hs h hu hy
 ·exact specGPut_in g f v u w hs hf h hu hy
end Go.Proofs.YtknkdbfgfcgkiaaGreatDoor

set_option linter.unusedVariables false
namespace Go.Proofs.YtknkdbfgfcgkiaaGreatDoor
open Go.RowKit Go.Maps Go.Deep

theorem implGPut_any (g : GatherV) (f : FeedV) (v u : Value) (w : World) (hs : SmallGather g) (hf : SmallFeed f) (h : GatherOwn [] w v g) (hu : FeedRd w u f) (hE : ErrT w) :
  Calls Tryz.prog 9 #[v, u] w fun e w' => RetGF (gpG g f) (gpS g f) (gpC g f) w e w' := by
 have HN := fun (hno : feedB g f = false) (W : World) (bW : Below w.heap.size w W) => outcome_no g f v u W hs hf (h.up bW) (hu.up bW) hno
 have HI := fun (hy : feedB g f = true) (W : World) (bW : Below w.heap.size w W) => outcome_in g f v u W hs hf (h.up bW) (hu.up bW) hy
 have hsw := small_winAt hs.2.1 f
 have hsg := small_gpW (f := f) hs.2.1 hf.2 hsw
 -- what is the same in the ways on which the feed goes into its window
 have key : ∀ (hy : feedB g f = true), gatherB g = true ∧ ∃ k : Nat, f.inn = (k : Int) ∧ k < g.wins.length ∧ g.wins.length ≤ 6 ∧ gpW g f = g.wins.set k (putV (winAt g f) f.item) := fun hy => by
  obtain ⟨a, -, -, hwb, -, k, hk, hkl, hwa⟩ := feedB_parts hy
  refine ⟨a, k, hk, hkl, (winsB_len hwb).2, ?_⟩
  unfold gpW
  rw [hk]
  simp
 obtain ⟨fv, hfv, hfm⟩ := hu
 have hfm' := hfm
 obtain ⟨sa, sn, sc, rfl⟩ := hfm.form
 have keptWay : ∀ (hy : feedB g f = true) (p : putI (winAt g f) f.item = 0) (hh : bestB (gpW g f) = false ∨ (bestB (gpW g f) = true ∧ chB (gpW g f) (bestV (gpW g f)) = true ∧ orderOut g.shown (chV (gpW g f) (bestV (gpW g f))) ≠ 1)), Calls Tryz.prog 9 #[v, u] w fun e w' => RetGF ⟨g.ins, gpW g f, g.shown⟩ ⟨[], []⟩ 0 w e w' := fun hy p hh => by
  obtain ⟨hgb, k, hk, hkl, h6, hx⟩ := key hy
  rw [hx]
  refine gput_kept k f.inn hk f.item.a0 v u sa sn sc g.ins g.wins g.shown (putV (winAt g f) f.item) w hs hgb hkl h6 h.rd hfv (fun W bW => (HI hy W bW).mono ?_)
  rintro e w' ⟨-, -, hin⟩
  obtain ⟨o, wa, wn, wc, T, N, rfl, HO, HT, HTN, HNN, b⟩ := hin p
  have HO' := unhide HO
  rw [hk] at HO'
  cases HO' with
  | kept _ => exact ⟨wa, wn, wc, T, N, rfl, HT, HTN, HNN, b⟩
  | full h1 h2 =>
   rcases hh with hh | hh
   ·rw [hh] at h1; cases h1
   ·rw [hh.2.1] at h2; cases h2
  | shows h1 h2 h3 =>
   rcases hh with hh | hh
   ·rw [hh] at h1; cases h1
   ·exact absurd h3 hh.2.2
 rcases gpWay g f with ⟨h1, c, e, s⟩ | ⟨h1, p1, c, e, s⟩ | ⟨h1, p1, c, e, s⟩ | ⟨h1, p1, b, c, e, s⟩ | ⟨h1, p1, b, j, c, e, s⟩ | ⟨h1, p1, b, j, o, c, e, s⟩ | ⟨h1, p1, b, j, o, c, e, s⟩ <;> rw [c, e, s]
 ·exact gput_bad v u g f w h.rd ⟨_, hfv, hfm'⟩ hE (HN h1)
 ·exact gput_bad v u g f w h.rd ⟨_, hfv, hfm'⟩ hE (fun W bW => (HI h1 W bW).mono fun _ _ hh => hh.1 p1)
 ·exact gput_old v u g f w hs (key h1).1 h.rd ⟨_, hfv, hfm'⟩ (fun W bW => (HI h1 W bW).mono fun _ _ hh => hh.2.1 p1)
 ·exact keptWay h1 p1 (.inl b)
 ·obtain ⟨hgb, k, hk, hkl, h6, hx⟩ := key h1
  rw [hx]
  refine gput_full k f.inn hk f.item.a0 v u sa sn sc g.ins g.wins g.shown (putV (winAt g f) f.item) w hs hgb hkl h6 h.rd hfv (fun W bW => (HI h1 W bW).mono ?_)
  rintro e w' ⟨-, -, hin⟩
  obtain ⟨o, wa, wn, wc, T, N, rfl, HO, HT, HTN, HNN, b'⟩ := hin p1
  have HO' := unhide HO
  rw [hk] at HO'
  cases HO' with
  | kept hh =>
   rcases hh with hh | hh
   ·rw [hh] at b; cases b
   ·rw [hh.2.1] at j; cases j
  | full _ _ => exact ⟨wa, wn, wc, T, N, rfl, HT, HTN, HNN, b'⟩
  | shows _ h2 _ => rw [h2] at j; cases j
 ·exact keptWay h1 p1 (.inr ⟨b, j, o⟩)
 ·obtain ⟨hgb, k, hk, hkl, h6, hx⟩ := key h1
  have hml : (chV (gpW g f) (bestV (gpW g f))).length ≤ 1000000 := by
   have hj := j
   rw [show orderOut g.shown (gpJ g f) = orderOut g.shown (chV (gpW g f) (bestV (gpW g f))) from rfl] at o
   unfold orderOut at o
   split at o
   ·rename_i hb
    simp only [Bool.and_eq_true] at hb
    have := mstamp_len hb.2
    omega
   ·omega
  have hms : SmallMarkS (chV (gpW g f) (bestV (gpW g f))) := small_ch hsg
  have o' : orderOut g.shown (chV (gpW g f) (bestV (gpW g f))) = 1 := o
  show Calls Tryz.prog _ _ w fun e w' => RetGF ⟨g.ins, gpW g f, chV (gpW g f) (bestV (gpW g f))⟩ ⟨valsAt (gpW g f) (bestV (gpW g f)), chV (gpW g f) (bestV (gpW g f))⟩ 1 w e w'
  generalize hms' : chV (gpW g f) (bestV (gpW g f)) = ms at *
  generalize hvs' : valsAt (gpW g f) (bestV (gpW g f)) = vals at *
  rw [hx]
  refine gput_shows k f.inn hk f.item.a0 v u sa sn sc g.ins g.wins g.shown (putV (winAt g f) f.item) w hs hgb hkl h6 h.rd hfv vals ms hms hml (fun W bW => (HI h1 W bW).mono ?_)
  rintro e w' ⟨-, -, hin⟩
  obtain ⟨o, wa, wn, wc, T, N, rfl, HO, HT, HTN, HNN, b'⟩ := hin p1
  have HO' := unhide HO
  rw [hk] at HO'
  cases HO' with
  | kept hh =>
   rcases hh with hh | hh
   ·rw [hh] at b; cases b
   ·rw [hms'] at hh; exact absurd o' hh.2.2
  | full _ h2 => rw [j] at h2; cases h2
  | shows _ _ _ ua un uc ja jn jc S hv hj hS hA =>
   rw [hvs'] at hv
   rw [hms'] at hj
   obtain ⟨Sv, hSv, oSv⟩ := hv.ownS
   exact ⟨wa, wn, wc, T, N, ua, un, uc, ja, jn, jc, Sv ++ S, Sv, S, rfl, HT, HTN, HNN, hide ⟨_, _, Sv, S, rfl, rfl, hSv, hj, fun q hq hm => hA q hm (oSv q hq)⟩, hide (fun q hq => by
    rcases List.mem_append.1 hq with hq | hq
    ·exact hv.ge q (oSv q hq)
    ·exact hS q hq), hide rfl, hide hj, b'⟩
end Go.Proofs.YtknkdbfgfcgkiaaGreatDoor

set_option linter.unusedVariables false
namespace Go.Proofs.YtknkdbfgfcgkiaaGreatDoor
open Go.RowKit Go.Maps Go.Deep Go.WideShapes Go.ChangeShapes

theorem open_mark_cell {H : Type} {enc : TypeId × Value → H} {w : World} {base : Nat} {spare : Nat → Bool} {held : Bool} {v : Value} {fuel : Nat} {y : DataW H × List MemPlace}
  (h : DataW.trod enc Tryz.prog w base spare held fuel 24 [v] = some y) : ∃ ns : List MarkV, MarkSRd w v ns ∧ MarkSFit ns := by
 have h' := h
 rcases open_slice Tryz.underlying24 h with ⟨hcs, _⟩ | ⟨a', len', cap', m, n, D, Pl, hcs, _⟩
 ·simp at hcs
  subst hcs
  exact ⟨[], ⟨none, 0, rfl, .inl rfl⟩, by unfold maxLen; simp, fun _ h => by cases h⟩
 ·simp at hcs
  subst hcs
  obtain ⟨ns, rfl, h1, h2, h3⟩ := openMarkS (a := some a') (len := len') (cap := cap') ⟨fuel, h'⟩
  exact ⟨ns, ⟨_, _, rfl, h2⟩, h1, h3⟩
set_option maxRecDepth 20000 in
theorem openItem {H : Type} {enc : TypeId × Value → H} {w : World} {base : Nat} {spare : Nat → Bool} {held : Bool} {c0 c1 : Value} {d : DataW H} {p : List MemPlace}
  (h : DataW.Trod enc Tryz.prog w base spare held 28 (.agg #[c0, c1]) d p) : ∃ x : ItemV, ItemRd w (.agg #[c0, c1]) x ∧ ItemFit x := by
 obtain ⟨fuel, hf⟩ := h
 obtain ⟨xs, k, hk, hxy, _, hxl, hf⟩ := DataW.trod_struct Tryz.underlying28 hf
 match xs, hxl with
 | [y0, y1], _ =>
  have g0 := hf 0 _ rfl
  have g1 := hf 1 _ rfl
  simp [Value.cells, cellsIMark, cellsMkItem] at g0 g1
  obtain ⟨n0, e0, _, hs0⟩ := DataW.trod_int Tryz.underlying3 g0
  obtain ⟨ms, hr, hm⟩ := open_mark_cell g1
  simp at e0
  subst e0
  exact ⟨⟨n0, ms⟩, ⟨_, rfl, hr⟩, markRange hs0, hm⟩
end Go.Proofs.YtknkdbfgfcgkiaaGreatDoor

set_option linter.unusedVariables false
namespace Go.Proofs.YtknkdbfgfcgkiaaGreatDoor
open Go.RowKit Go.Maps Go.Deep

/-- the ints with marks from k on -/
def marksIntS (k : Nat) (ts : List Int) : List Int := (List.range ts.length).map (fun i => ((k + i : Nat) : Int))
theorem marksIntS_len (k : Nat) (ts : List Int) : (marksIntS k ts).length = ts.length := by simp [marksIntS]
set_option maxHeartbeats 3200000 in
theorem markIntS_row (w : World) (b off cap : Nat) (ts : List Int) (k : Nat) (hk : k ≤ 1000000000000000) (hl : ts.length ≤ 1048576) (hb : b < w.heap.size) (hc : IntsAt w b off ts) (hf : ∀ i, i < ts.length → w.frozen? ⟨b, off + i, none⟩ = false) :
  Calls Tryz.prog 46 #[.slice (some ⟨b, off, none⟩) ts.length cap, .int .i64 (k : Int)] w fun e w' => e = .returned (.int .i64 ((k + ts.length : Nat) : Int)) ∧ Hid (IntsAt w' b off (marksIntS k ts) ∧ Turn [b] w w' ∧ ∀ i, i < ts.length → w'.frozen? ⟨b, off + i, none⟩ = false) := by
 have HC := hide hc
 have HF := hide hf
 clear hc hf
 go_enter Tryz.func46, Tryz.ntmps46
 go_wp2_with fail
 go_loopw [1, 5] (fun kv i wr => ∃ (j : Nat), j ≤ ts.length ∧ i = .int .i64 j ∧ kv = .int .i64 ((k + j : Nat) : Int) ∧ Hid (∀ i, i < j → wr.cell? ⟨b, off + i, none⟩ = some (.int .i64 ((k + i : Nat) : Int))) ∧ Hid (∀ i (h : i < ts.length), j ≤ i → wr.cell? ⟨b, off + i, none⟩ = some (.int .i64 ts[i])) ∧ Hid (∀ i, i < ts.length → wr.frozen? ⟨b, off + i, none⟩ = false) ∧ Hid (Turn [b] w wr)) (fun _ i _ => ts.length - (intOf i).toNat)
 case atStart => exact ⟨0, Nat.zero_le _, rfl, rfl, hide (fun i hi => absurd hi (Nat.not_lt_zero _)), hide (fun i h _ => unhide HC i h), HF, Turn.refl _ _⟩
 case round =>
  obtain ⟨j, hj, rfl, rfl, H1, H2, H3, HT⟩ := hrel
  by_cases hlt : j < ts.length
  ·have c0 := unhide H2 j hlt (Nat.le_refl _)
   have f0 := unhide H3 j hlt
   have T4 := hide (show Turn [b] w (wr.setCell ⟨b, off + j, none⟩ (.int .i64 ((k + j : Nat) : Int))) from (unhide HT).setCell (by simp) _ _)
   have H14 := hide (show ∀ i, i < j + 1 → (wr.setCell ⟨b, off + j, none⟩ (.int .i64 ((k + j : Nat) : Int))).cell? ⟨b, off + i, none⟩ = some (.int .i64 ((k + i : Nat) : Int)) by
    intro i hi
    by_cases e : i = j
    ·subst e
     exact World.cell?_setCell_same _ _ _ c0
    ·rw [World.cell?_setCell_other _ _ _ _ (by intro e'; have := congrArg Addr.off e'; simp at this; omega)]
     exact unhide H1 i (by omega))
   have H24 := hide (show ∀ i (h : i < ts.length), j + 1 ≤ i → (wr.setCell ⟨b, off + j, none⟩ (.int .i64 ((k + j : Nat) : Int))).cell? ⟨b, off + i, none⟩ = some (.int .i64 ts[i]) by
    intro i h hi
    rw [World.cell?_setCell_other _ _ _ _ (by intro e'; have := congrArg Addr.off e'; simp at this; omega)]
    exact unhide H2 i h (by omega))
   have H34 := hide (show ∀ i, i < ts.length → (wr.setCell ⟨b, off + j, none⟩ (.int .i64 ((k + j : Nat) : Int))).frozen? ⟨b, off + i, none⟩ = false by
    intro i h
    rw [World.frozen?_setCell]
    exact unhide H3 i h)
   have HKE := hide (show ((k + j : Nat) : Int) + 1 = ((k + (j + 1) : Nat) : Int) by omega)
   have hK1 : (0 : Int) ≤ ((k + j : Nat) : Int) := by omega
   have hK2 : ((k + j : Nat) : Int) ≤ 10000000000000000 := by omega
   clear HT H1 H2 H3
   generalize ((k + j : Nat) : Int) = K at *
   generalize ts[j] = t at *
   go_wp2_with fail
   clear c0 f0
   go_roundw
   case rel => exact ⟨j + 1, by omega, by go_num, by rw [← unhide HKE], H14, H24, H34, T4⟩
   case measure => simp [intOf]; omega
  ·have e : j = ts.length := by omega
   subst e
   have HP := hide (show IntsAt wr b off (marksIntS k ts) ∧ Turn [b] w wr ∧ ∀ i, i < ts.length → wr.frozen? ⟨b, off + i, none⟩ = false from ⟨fun i hi => by
    have hi' : i < ts.length := by simpa [marksIntS_len] using hi
    have := unhide H1 i hi'
    simpa [marksIntS] using this, unhide HT, unhide H3⟩)
   go_wp2_with fail
   go_ret
   exact ⟨rfl, HP⟩
theorem markIntS_none (w : World) (a : Option Addr) (cap : Nat) (K : Int) : Calls Tryz.prog 46 #[.slice a 0 cap, .int .i64 K] w fun e w' => e = .returned (.int .i64 K) ∧ w' = w := by
 go_enter Tryz.func46, Tryz.ntmps46
 go_wp2
 refine wp_loop_rounds 1 ?_
 rw [rounds_succ]
 go_wp2
 go_ret
 exact ⟨rfl, rfl⟩
theorem markIntS_kit (S : List Nat) (ts : List Int) (v : Value) (w : World) (k n : Nat) (K : Int) (hK : K = (k : Int)) (hn : nIntS ts = n) (hk : k ≤ 1000000000000000) (hs : SmallIntS ts) (h : IntSOwn S w v ts) :
  Calls Tryz.prog 46 #[v, .int .i64 K] w fun e w' => e = .returned (.int .i64 (K + (n : Int))) ∧ Hid (IntSOwn S w' v (marksIntS k ts) ∧ Turn S w w') := by
 subst hK hn
 have hl := hs.1
 rcases h with ⟨rfl, rfl, a, c, rfl⟩ | ⟨b, off, cap, rfl, rfl, hb, hc, hf⟩
 ·refine (markIntS_none w a c k).mono ?_
  rintro e w' ⟨rfl, rfl⟩
  exact ⟨by simp [nIntS], hide ⟨.inl ⟨rfl, rfl, a, c, rfl⟩, Turn.refl _ _⟩⟩
 ·refine (markIntS_row w b off cap ts k hk hl hb hc hf).mono ?_
  rintro e w' ⟨rfl, P⟩
  have ht := (unhide P).2.1
  refine ⟨by rw [show ((k + ts.length : Nat) : Int) = (k : Int) + ((nIntS ts : Nat) : Int) by unfold nIntS; omega], hide ⟨.inr ⟨b, off, cap, rfl, by rw [marksIntS_len], Nat.lt_of_lt_of_le hb ht.size, (unhide P).1, by rw [marksIntS_len]; exact (unhide P).2.2⟩, ht⟩⟩
end Go.Proofs.YtknkdbfgfcgkiaaGreatDoor

set_option linter.unusedVariables false
namespace Go.Proofs.YtknkdbfgfcgkiaaGreatDoor
open Go.RowKit Go.Maps Go.Deep

set_option maxHeartbeats 3200000 in
theorem heldIntS_row (w : World) (b off cap : Nat) (ts : List Int) (k : Nat) (hk : k ≤ 1000000000000000) (hl : ts.length ≤ 1048576) (hb : b < w.heap.size) (hc : IntsAt w b off (marksIntS k ts)) :
  Calls Tryz.prog 50 #[.slice (some ⟨b, off, none⟩) ts.length cap, .int .i64 (k : Int)] w fun e w' => e = .returned (.int .i64 ((k + ts.length : Nat) : Int)) ∧ Below w.heap.size w w' := by
 have HC := hide (show ∀ j, j < ts.length → w.cell? ⟨b, off + j, none⟩ = some (.int .i64 ((k + j : Nat) : Int)) from fun j hj => by
  have hj' : j < (marksIntS k ts).length := by rw [marksIntS_len]; exact hj
  have := hc j hj'
  simpa [marksIntS] using this)
 clear hc
 generalize ts.length = n at *
 go_enter Tryz.func50, Tryz.ntmps50
 go_wp2_with fail
 go_loopw [1, 5] (fun kv i wr => ∃ j : Nat, j ≤ n ∧ i = .int .i64 j ∧ kv = .int .i64 ((k + j : Nat) : Int) ∧ Hid (Below w.heap.size w wr)) (fun _ i _ => n - (intOf i).toNat)
 case atStart => exact ⟨0, Nat.zero_le _, rfl, rfl, hide (Below.refl _ _)⟩
 case round =>
  obtain ⟨j, hj, rfl, rfl, HB⟩ := hrel
  by_cases hlt : j < n
  ·have c0 := ((unhide HB).cell (show b < w.heap.size from hb)).trans (unhide HC j hlt)
   have hK1 : (0 : Int) ≤ ((k + j : Nat) : Int) := by omega
   have hK2 : ((k + j : Nat) : Int) ≤ 10000000000000000 := by omega
   have HKE := hide (show (((k + j : Nat) : Int) + 1 : Int) = ((k + (j + 1) : Nat) : Int) by omega)
   generalize ((k + j : Nat) : Int) = K at *
   go_wp2_with fail
   clear c0
   go_roundw
   case rel => exact ⟨j + 1, by omega, by go_num, by rw [unhide HKE], HB⟩
   case measure => simp [intOf]; omega
  ·have e : j = n := by omega
   subst e
   go_wp2_with fail
   go_ret
   exact ⟨rfl, unhide HB⟩
theorem heldIntS_none (w : World) (a : Option Addr) (cap : Nat) (K : Int) : Calls Tryz.prog 50 #[.slice a 0 cap, .int .i64 K] w fun e w' => e = .returned (.int .i64 K) ∧ w' = w := by
 go_enter Tryz.func50, Tryz.ntmps50
 go_wp2
 refine wp_loop_rounds 1 ?_
 rw [rounds_succ]
 go_wp2
 go_ret
 exact ⟨rfl, rfl⟩
theorem heldIntS_kit (ts : List Int) (v : Value) (w : World) (k n : Nat) (K : Int) (hK : K = (k : Int)) (hn : nIntS ts = n) (hk : k ≤ 1000000000000000) (hs : SmallIntS ts) (h : IntSRd w v (marksIntS k ts)) :
  Calls Tryz.prog 50 #[v, .int .i64 K] w fun e w' => e = .returned (.int .i64 (K + (n : Int))) ∧ Below w.heap.size w w' := by
 subst hK hn
 obtain ⟨a, c, rfl, h⟩ := h
 rw [marksIntS_len]
 rcases h with h0 | ⟨b, off, rfl, hb, hc⟩
 ·have hn : ts = [] := List.eq_nil_of_length_eq_zero (by have := congrArg List.length h0; rwa [marksIntS_len] at this)
  subst hn
  refine (heldIntS_none w a c k).mono ?_
  rintro e w' ⟨rfl, rfl⟩
  exact ⟨by simp [nIntS], Below.refl _ _⟩
 ·refine (heldIntS_row w b off c ts k hk hs.1 hb hc).mono ?_
  rintro e w' ⟨rfl, b⟩
  exact ⟨by rw [show ((k + ts.length : Nat) : Int) = (k : Int) + ((nIntS ts : Nat) : Int) by unfold nIntS; omega], b⟩
end Go.Proofs.YtknkdbfgfcgkiaaGreatDoor

set_option linter.unusedVariables false
namespace Go.Proofs.YtknkdbfgfcgkiaaGreatDoor
open Go.RowKit Go.Maps Go.Deep Go.ChangeShapes Go.WideShapes Go.ChangeAt

def GatherP (S : List Nat) (w : World) (v : Value) (g : GatherV) : Prop := GatherFull S w v g ∧ GatherRoom v
theorem GatherP.rd {S : List Nat} {w : World} {v : Value} {g : GatherV} (h : GatherP S w v g) : GatherRd w v g := h.1.rd
theorem GatherP.lt {S : List Nat} {w : World} {v : Value} {g : GatherV} (h : GatherP S w v g) : ∀ k ∈ S, k < w.heap.size := h.1.lt
theorem GatherP.turn {S S' : List Nat} {w w' : World} {v : Value} {g : GatherV} (h : GatherP S w v g) (ht : Turn S' w w') (hS : ∀ k ∈ S, k ∉ S') : GatherP S w' v g := ⟨h.1.turn ht hS, h.2⟩
theorem GatherP.up {S : List Nat} {w w' : World} {v : Value} {g : GatherV} (h : GatherP S w v g) (hb : Below w.heap.size w w') : GatherP S w' v g := ⟨h.1.up hb, h.2⟩
theorem GatherP.own {S : List Nat} {w : World} {v : Value} {g : GatherV} (h : GatherP S w v g) : GatherOwn [] w v g := ⟨rfl, h.rd, h.2⟩
abbrev SmallGatherP := SmallGatherF
abbrev nGatherP := nGatherF
abbrev marksGatherP := marksGatherF
theorem nGatherP_le {g : GatherV} (h : SmallGatherP g) : nGatherP g ≤ 100000000 := nGatherF_le h
set_option maxHeartbeats 3200000 in
theorem toGatherP_kit (d : GatherV) (v : Value) (w : World) (hs : SmallGatherP d) (h : GatherRd w v d) :
  Calls Tryz.prog 7 #[v] w fun e w' => ∃ v S, e = .returned v ∧ Hid (GatherP S w' v d) ∧ Hid (∀ k ∈ S, w.heap.size ≤ k) ∧ Below w.heap.size w w' := by
 have HS := hide hs
 have HR := hide h
 obtain ⟨a0, n0, c0, a1, n1, c1, a2, n2, c2, rfl⟩ := h.form
 have HP := hide (fun W (b : Below w.heap.size w W) => show StringSRd W (.slice a0 n0 c0) d.ins ∧ ItemSSRd W (.slice a1 n1 c1) d.wins ∧ MarkSRd W (.slice a2 n2 c2) d.shown from by
  obtain ⟨v0, v1, v2, e, h0, h1, h2⟩ := (unhide HR).up b
  simp only [Value.agg.injEq, Array.mk.injEq, List.cons.injEq, and_true] at e
  obtain ⟨rfl, rfl, rfl⟩ := e
  exact ⟨h0, h1, h2⟩)
 clear h hs HR
 obtain ⟨x0, x1, x2, b0, hz⟩ := boxes3 w [.slice a0 n0 c0, .slice a1 n1 c1, .slice a2 n2 c2] [.slice none 0 0, .slice none 0 0, .slice none 0 0] [.slice none 0 0, .slice none 0 0, .slice none 0 0] 26 36 36
 go_enter Tryz.func7, Tryz.ntmps7
 go_wp2_with fail
 simp only [List.toArray] at x0 x1 x2 b0 hz
 generalize ((w.alloc (.cells #[.slice a0 n0 c0, .slice a1 n1 c1, .slice a2 n2 c2] 26)).alloc (.cells #[.slice none 0 0, .slice none 0 0, .slice none 0 0] 36)).alloc (.cells #[.slice none 0 0, .slice none 0 0, .slice none 0 0] 36) = W0 at *
 have X0 := hide x0
 have X1 := hide x1
 have X2 := hide x2
 have B0 := hide b0
 have HZ := hide hz
 clear x0 x1 x2 b0 hz
 refine (toStringS_hi d.ins _ W0 (unhide HS).1 (unhide HP _ (unhide B0)).1).mono ?_
 rintro e w1 ⟨rfl, O1, b1⟩
 have Y0 := hide ((unhide X0).up b1)
 have Y1 := hide ((unhide X1).up b1)
 have Y2 := hide ((unhide X2).up b1)
 have B1 := hide ((unhide B0).trans (b1.mono (unhide B0).size))
 have Z1 := hide b1.size
 clear b1 X0 X1 X2 B0
 obtain ⟨⟨p0, p1, p2⟩, -⟩ := (unhide Y0).three
 obtain ⟨⟨q0, q1, q2⟩, f0, f1, f2⟩ := (unhide Y2).three
 go_wp2_with fail
 clear p0 p1 p2 q0 q1 q2 f0 f1 f2
 have T1 : Turn [w.heap.size + 2] w1 (w1.setCell ⟨w.heap.size + 2, 0, none⟩ (.slice (some ⟨W0.heap.size, 0, none⟩) d.ins.length d.ins.length)) := (Turn.refl _ _).setCell (by simp) _ _
 have A0 := hide ((unhide Y0).turn T1 (by simp))
 have A1 := hide ((unhide Y1).turn T1 (by simp))
 have A2 := hide ((unhide Y2).set 0 (.slice (some ⟨W0.heap.size, 0, none⟩) d.ins.length d.ins.length) (by simp))
 have OA := hide ((unhide O1).turn T1 (fun k hk hm => by have := unhide HZ; simp at hk hm; omega))
 have BA := hide ((unhide B1).trans (T1.below (unhide B1).size (fun k hk => by simp at hk; omega)))
 have ZA := hide (Nat.le_trans (unhide Z1) T1.size)
 have ZZ := hide (show W0.heap.size + 1 ≤ (w1.setCell ⟨w.heap.size + 2, 0, none⟩ (.slice (some ⟨W0.heap.size, 0, none⟩) d.ins.length d.ins.length)).heap.size by have := (unhide O1).lt W0.heap.size (by simp); simp; omega)
 simp only [List.set] at A2
 clear T1 Y0 Y1 Y2 O1 B1 Z1
 generalize w1.setCell ⟨w.heap.size + 2, 0, none⟩ (.slice (some ⟨W0.heap.size, 0, none⟩) d.ins.length d.ins.length) = W1 at *
 refine (toItemSSF_kit d.wins _ W1 (unhide HS).2.1 (unhide HP _ (unhide BA)).2.1).mono ?_
 rintro e w2 ⟨iv, S2, rfl, O2, L2, b2⟩
 obtain ⟨ia, iN, ic, rfl⟩ := (unhide O2).rd.form
 have LT2 := hide (unhide O2).lt
 have ZW1 := hide b2.size
 have Y0 := hide ((unhide A0).up b2)
 have Y1 := hide ((unhide A1).up b2)
 have Y2 := hide ((unhide A2).up b2)
 have OB := hide ((unhide OA).up b2)
 have B2 := hide ((unhide BA).trans (b2.mono (unhide BA).size))
 have Z2 := hide (Nat.le_trans (unhide ZA) b2.size)
 clear b2 A0 A1 A2 OA BA
 obtain ⟨⟨p0, p1, p2⟩, -⟩ := (unhide Y0).three
 obtain ⟨⟨q0, q1, q2⟩, f0, f1, f2⟩ := (unhide Y2).three
 go_wp2_with fail
 clear p0 p1 p2 q0 q1 q2 f0 f1 f2
 have T2 : Turn [w.heap.size + 2] w2 (w2.setCell ⟨w.heap.size + 2, 1, none⟩ (.slice ia iN ic)) := (Turn.refl _ _).setCell (by simp) _ _
 have A0 := hide ((unhide Y0).turn T2 (by simp))
 have A1 := hide ((unhide Y1).turn T2 (by simp))
 have A2 := hide ((unhide Y2).set 1 (.slice ia iN ic) (by simp))
 have OC := hide ((unhide OB).turn T2 (fun k hk hm => by have := unhide HZ; simp at hk hm; omega))
 have O2b := hide ((unhide O2).turn T2 (fun k hk hm => by have := unhide L2 k hk; have := unhide HZ; have := unhide ZA; simp at hm; omega))
 have ZW2 := hide (show w2.heap.size ≤ (w2.setCell ⟨w.heap.size + 2, 1, none⟩ (.slice ia iN ic)).heap.size by simp)
 have BB := hide ((unhide B2).trans (T2.below (unhide B2).size (fun k hk => by simp at hk; omega)))
 have ZB := hide (Nat.le_trans (unhide Z2) T2.size)
 simp only [List.set] at A2
 clear T2 Y0 Y1 Y2 OB B2 Z2 O2
 generalize w2.setCell ⟨w.heap.size + 2, 1, none⟩ (.slice ia iN ic) = W2 at *
 refine (toMarkS_hi d.shown _ W2 (unhide HS).2.2 (unhide HP _ (unhide BB)).2.2).mono ?_
 rintro e w3 ⟨rfl, O3, b3⟩
 have Y1 := hide ((unhide A1).up b3)
 have Y2 := hide ((unhide A2).up b3)
 have OD := hide ((unhide OC).up b3)
 have O2c := hide ((unhide O2b).up b3)
 have B3 := hide ((unhide BB).trans (b3.mono (unhide BB).size))
 have Z3 := hide (Nat.le_trans (unhide ZB) b3.size)
 have O3L := hide (unhide ZB)
 clear b3 A0 A1 A2 OC BB O2b
 obtain ⟨⟨s0, s1, s2⟩, h0, h1, h2⟩ := (unhide Y1).three
 obtain ⟨⟨q0, q1, q2⟩, f0, f1, f2⟩ := (unhide Y2).three
 have hnl : w.heap.size + 2 ≠ w.heap.size + 1 := by omega
 go_wp2_with fail
 refine bodyPost_ret (v := .agg #[.slice (some ⟨W0.heap.size, 0, none⟩) d.ins.length d.ins.length, .slice ia iN ic, .slice (some ⟨W2.heap.size, 0, none⟩) d.shown.length d.shown.length]) (by simp [results, Tryz.results7, go_sem, s0, s1, s2]) rfl ?_
 have key : ∀ W, Turn [w.heap.size + 1, w.heap.size + 2] w3 W → ∃ v S, Ending.returned (.agg #[.slice (some ⟨W0.heap.size, 0, none⟩) d.ins.length d.ins.length, .slice ia iN ic, .slice (some ⟨W2.heap.size, 0, none⟩) d.shown.length d.shown.length]) = .returned v ∧ Hid (GatherP S W v d) ∧ Hid (∀ k ∈ S, w.heap.size ≤ k) ∧ Below w.heap.size w W := fun W ht => by
  have z0 := unhide HZ
  have zA := unhide ZA
  have zB := unhide ZB
  have z2 := unhide ZW2
  have zw1 := unhide ZW1
  have zz := unhide ZZ
  have far : ∀ k, W0.heap.size ≤ k → k ∉ [w.heap.size + 1, w.heap.size + 2] := fun k hk hm => by simp at hm; omega
  have l2 : ∀ k ∈ S2, W0.heap.size + 1 ≤ k ∧ k < w2.heap.size := fun k hk => ⟨by have := unhide L2 k hk; have := unhide ZZ; omega, unhide LT2 k hk⟩
  refine ⟨_, [W0.heap.size] ++ (S2 ++ [W2.heap.size]), rfl, hide ⟨⟨_, _, _, [W0.heap.size], S2, [W2.heap.size], rfl, rfl, (unhide OD).turn ht (fun k hk => far k (by simp at hk; omega)), (unhide O2c).turn ht (fun k hk => far k (by have := l2 k hk; omega)), (unhide O3).turn ht (fun k hk => far k (by simp at hk; omega)), fun k hk hm => ?_, fun k hk hm => ?_, fun k hk hm => ?_⟩, fun a n c v1 v2 e => ?_⟩, hide (fun k hk => ?_), (unhide B3).trans (ht.below (unhide B3).size (fun k hk => by simp at hk; omega))⟩
  ·simp at hk; subst hk; have := l2 _ hm; omega
  ·simp at hk hm; omega
  ·simp at hm; subst hm; have := l2 _ hk; omega
  ·simp only [Value.agg.injEq, Array.mk.injEq, List.cons.injEq, Value.slice.injEq] at e
   omega
  ·simp only [List.mem_append, List.mem_singleton] at hk
   rcases hk with hk | hk | hk
   ·omega
   ·have := l2 k hk; omega
   ·omega
 exact key _ (((((Turn.refl _ _).setCell (by simp) _ _).setCell (by simp) _ _).setCell (by simp) _ _).setCell (by simp) _ _)
theorem eqGatherP_kit (d : GatherV) (v v' : Value) (w : World) (hs : SmallGatherP d) (h : GatherRd w v d) (h' : GatherRd w v' d) :
  Calls Tryz.prog 10 #[v, v'] w fun e w' => e = .returned (.bool true) ∧ Below w.heap.size w w' := eqGatherF_kit d v v' w hs h h'
theorem markGatherP_kit (S : List Nat) (g : GatherV) (v : Value) (w : World) (k n : Nat) (K : Int) (hK : K = (k : Int)) (hn : nGatherP g = n) (hk : k ≤ 500000000) (hs : SmallGatherP g) (h : GatherP S w v g) :
  Calls Tryz.prog 13 #[v, .int .i64 K] w fun e w' => e = .returned (.int .i64 (K + (n : Int))) ∧ Hid (GatherP S w' v (marksGatherP k g) ∧ Turn S w w') :=
 (markGatherF_kit S g v w k n K hK hn hk hs h.1).mono fun _ _ hh => ⟨hh.1, hide ⟨⟨(unhide hh.2).1, h.2⟩, (unhide hh.2).2⟩⟩
end Go.Proofs.YtknkdbfgfcgkiaaGreatDoor

set_option linter.unusedVariables false
namespace Go.Proofs.YtknkdbfgfcgkiaaGreatDoor
open Go.RowKit Go.Maps Go.Deep Go.ChangeShapes Go.WideShapes Go.ChangeAt

def FeedOwn (S : List Nat) (w : World) (v : Value) (f : FeedV) : Prop := ∃ u, v = .agg #[.int .i64 f.inn, .int .i64 f.item.a0, u] ∧ MarkSOwn S w u f.item.a1
def FeedFit (f : FeedV) : Prop := IntFit f.inn ∧ ItemFit f.item
theorem FeedRd.form {w : World} {v : Value} {f : FeedV} (h : FeedRd w v f) : ∃ i z a n c, v = .agg #[.int .i64 i, .int .i64 z, .slice a n c] := by
 obtain ⟨u, rfl, h⟩ := h
 obtain ⟨a, n, c, rfl⟩ := h.form
 exact ⟨_, _, a, n, c, rfl⟩
theorem FeedOwn.rd {S : List Nat} {w : World} {v : Value} {f : FeedV} (h : FeedOwn S w v f) : FeedRd w v f := by
 obtain ⟨u, e, h⟩ := h
 exact ⟨u, e, h.rd⟩
theorem FeedOwn.lt {S : List Nat} {w : World} {v : Value} {f : FeedV} (h : FeedOwn S w v f) : ∀ k ∈ S, k < w.heap.size := by
 obtain ⟨u, e, h⟩ := h
 exact h.lt
theorem FeedOwn.turn {S S' : List Nat} {w w' : World} {v : Value} {f : FeedV} (h : FeedOwn S w v f) (ht : Turn S' w w') (hS : ∀ k ∈ S, k ∉ S') : FeedOwn S w' v f := by
 obtain ⟨u, e, h⟩ := h
 exact ⟨u, e, h.turn ht hS⟩
theorem FeedOwn.up {S : List Nat} {w w' : World} {v : Value} {f : FeedV} (h : FeedOwn S w v f) (hb : Below w.heap.size w w') : FeedOwn S w' v f := h.turn (Turn.of_below (S := []) hb) (by simp)
def nFeed (f : FeedV) : Nat := nItem f.item
def marksFeed (k : Nat) (f : FeedV) : FeedV := ⟨f.inn, marksItem k f.item⟩
theorem nFeed_le {f : FeedV} (h : SmallFeed f) : nFeed f ≤ 100000000 := nItem_le h.2
set_option maxHeartbeats 1600000 in
theorem szFeed_kitL (f : FeedV) (v : Value) (left : Int) (w : World) (h0 : 0 ≤ left) (h1 : left ≤ 1048576) (hf : FeedFit f) (h : FeedRd w v f) :
  Calls Tryz.prog 5 #[v, .int .i64 left] w fun e w' => ∃ q : Int, e = .returned (.int .i64 q) ∧ q ≤ left ∧ Hid (0 ≤ q → SmallFeed f) ∧ Below w.heap.size w w' := by
 obtain ⟨u, rfl, hm⟩ := h
 have HZ := hide (fun (W : World) (bW : Below w.heap.size w W) => szItem_kitL f.item (.agg #[.int .i64 f.item.a0, u]) left W h0 h1 hf.2 ⟨u, rfl, hm.up bW⟩)
 obtain ⟨a, n, c, rfl⟩ := hm.form
 have HF := hide hf.1
 have bx := boxF_new w [.int .i64 f.inn, .int .i64 f.item.a0, .slice a n c] 30
 have bb := (Below.refl w.heap.size w).alloc (Nat.le_refl _) (.cells #[.int .i64 f.inn, .int .i64 f.item.a0, .slice a n c] 30)
 simp only [List.toArray] at bx
 clear hm hf
 obtain ⟨inn, it⟩ := f
 obtain ⟨z, ms⟩ := it
 simp only at *
 go_enter Tryz.func5, Tryz.ntmps5
 go_wp2_with fail
 generalize w.alloc (.cells #[.int .i64 inn, .int .i64 z, .slice a n c] 30) = W at *
 obtain ⟨⟨x0, x1, x2⟩, -⟩ := BoxF.three bx
 go_wp2_with fail
 refine (unhide HZ _ bb).mono ?_
 rintro e w1 ⟨q, rfl, hq, HQ, b1⟩
 have B1 := hide (bb.trans (b1.mono bb.size))
 have HQ2 := hide (show 0 ≤ q → SmallFeed ⟨inn, ⟨z, ms⟩⟩ from fun h => ⟨unhide HF, unhide HQ h⟩)
 clear b1 bb bx HQ
 by_cases hneg : q < 0
 ·go_wp2_with fail
  go_ret
  exact ⟨-1, rfl, by omega, hide (fun h => by omega), unhide B1⟩
 ·go_wp2_with fail
  go_ret
  exact ⟨q, rfl, hq, HQ2, unhide B1⟩
set_option maxHeartbeats 1600000 in
theorem toFeed_kit (f : FeedV) (v : Value) (w : World) (hs : SmallFeed f) (h : FeedRd w v f) :
  Calls Tryz.prog 8 #[v] w fun e w' => ∃ v S, e = .returned v ∧ Hid (FeedOwn S w' v f) ∧ Hid (∀ k ∈ S, w.heap.size ≤ k) ∧ Below w.heap.size w w' := by
 obtain ⟨u, rfl, hm⟩ := h
 have HI := hide (fun (W : World) (bW : Below w.heap.size w W) => toItem_kit f.item (.agg #[.int .i64 f.item.a0, u]) W hs.2 ⟨u, rfl, hm.up bW⟩)
 obtain ⟨a, n, c, rfl⟩ := hm.form
 clear hm hs
 obtain ⟨inn, it⟩ := f
 obtain ⟨z, ms⟩ := it
 simp only at *
 obtain ⟨x0, x1, x2, b0, hz⟩ := boxes3 w [.int .i64 inn, .int .i64 z, .slice a n c] [.int .i64 0, .int .i64 0, .slice none 0 0] [.int .i64 inn, .int .i64 0, .slice none 0 0] 30 46 46
 simp only [List.toArray] at x0 x1 x2 b0 hz
 go_enter Tryz.func8, Tryz.ntmps8
 go_wp2_with fail
 generalize ((w.alloc (.cells #[.int .i64 inn, .int .i64 z, .slice a n c] 30)).alloc (.cells #[.int .i64 0, .int .i64 0, .slice none 0 0] 46)).alloc (.cells #[.int .i64 inn, .int .i64 0, .slice none 0 0] 46) = W at *
 refine (unhide HI _ b0).mono ?_
 rintro e w1 ⟨v1, S, rfl, HO, HL, b1⟩
 obtain ⟨uv, rfl, hO⟩ := unhide HO
 obtain ⟨ua, un, uc, rfl⟩ := hO.rd.form
 have B1 := hide (b0.trans (b1.mono b0.size))
 have X1 := (x1.up b1)
 have X2 := (x2.up b1)
 obtain ⟨⟨p0, p1, p2⟩, f0, f1, f2⟩ := BoxF.three X1
 obtain ⟨⟨q0, q1, q2⟩, g0, g1, g2⟩ := BoxF.three X2
 have hS : ∀ k ∈ S, w.heap.size + 3 ≤ k := fun k hk => by have := unhide HL k hk; omega
 have HO2 := hide hO
 have HS := hide hS
 clear b1 hO HO HL hS x0 x1 x2 b0
 go_wp2_with fail
 refine bodyPost_ret (v := .agg #[.int .i64 inn, .int .i64 z, .slice ua un uc]) (by simp [results, Tryz.results8, go_sem, p0, p1, p2]) rfl ?_
 have key : ∀ W', Turn [w.heap.size + 1, w.heap.size + 2] w1 W' → ∃ v S, Ending.returned (.agg #[.int .i64 inn, .int .i64 z, .slice ua un uc]) = .returned v ∧ Hid (FeedOwn S W' v ⟨inn, ⟨z, ms⟩⟩) ∧ Hid (∀ k ∈ S, w.heap.size ≤ k) ∧ Below w.heap.size w W' := fun W' ht =>
  ⟨_, S, rfl, hide ⟨_, rfl, (unhide HO2).turn ht (fun k hk hm => by have := unhide HS k hk; simp at hm; omega)⟩, hide (fun k hk => by have := unhide HS k hk; omega), (unhide B1).trans (ht.below (unhide B1).size (fun k hk => by simp at hk; omega))⟩
 exact key _ (by repeat (first | exact Turn.refl _ _ | refine Turn.setCell ?_ (by simp) _ _))
set_option maxHeartbeats 1600000 in
theorem eqFeed_kit (f : FeedV) (v v' : Value) (w : World) (hs : SmallFeed f) (h : FeedRd w v f) (h' : FeedRd w v' f) :
  Calls Tryz.prog 12 #[v, v'] w fun e w' => e = .returned (.bool true) ∧ Below w.heap.size w w' := by
 obtain ⟨u, rfl, hm⟩ := h
 obtain ⟨u', rfl, hm'⟩ := h'
 have HI := hide (fun (W : World) (bW : Below w.heap.size w W) => eqItem_kit f.item (.agg #[.int .i64 f.item.a0, u]) (.agg #[.int .i64 f.item.a0, u']) W hs.2 ⟨u, rfl, hm.up bW⟩ ⟨u', rfl, hm'.up bW⟩)
 obtain ⟨a, n, c, rfl⟩ := hm.form
 obtain ⟨a', n', c', rfl⟩ := hm'.form
 clear hm hm' hs
 obtain ⟨inn, it⟩ := f
 obtain ⟨z, ms⟩ := it
 simp only at *
 obtain ⟨x0, x1, b0, hz⟩ := boxesF2 w [.int .i64 inn, .int .i64 z, .slice a n c] [.int .i64 inn, .int .i64 z, .slice a' n' c'] 46 46
 simp only [List.toArray] at x0 x1 b0 hz
 go_enter Tryz.func12, Tryz.ntmps12
 go_wp2_with fail
 generalize (w.alloc (.cells #[.int .i64 inn, .int .i64 z, .slice a n c] 46)).alloc (.cells #[.int .i64 inn, .int .i64 z, .slice a' n' c'] 46) = W at *
 obtain ⟨⟨p0, p1, p2⟩, -⟩ := BoxF.three x0
 obtain ⟨⟨q0, q1, q2⟩, -⟩ := BoxF.three x1
 go_wp2_with fail
 refine (unhide HI _ b0).mono ?_
 rintro e w1 ⟨rfl, b1⟩
 go_wp2_with fail
 go_ret
 exact ⟨rfl, b0.trans (b1.mono b0.size)⟩
set_option maxHeartbeats 1600000 in
theorem markFeed_kit (S : List Nat) (f : FeedV) (v : Value) (w : World) (k n : Nat) (K : Int) (hK : K = (k : Int)) (hn : nFeed f = n) (hk : k ≤ 500000000) (hs : SmallFeed f) (h : FeedOwn S w v f) :
  Calls Tryz.prog 14 #[v, .int .i64 K] w fun e w' => e = .returned (.int .i64 (K + (n : Int))) ∧ Hid (FeedOwn S w' v (marksFeed k f) ∧ Turn S w w') := by
 obtain ⟨u, rfl, hm⟩ := h
 have HLT := hide hm.lt
 have HI := hide (fun (W : World) (bW : Below w.heap.size w W) => markItem_kit S f.item (.agg #[.int .i64 f.item.a0, u]) W k n K hK hn (by omega) hs.2 ⟨u, rfl, hm.up bW⟩)
 have hnl : n ≤ 100000000 := by rw [← hn]; exact nFeed_le hs
 obtain ⟨a, n', c, rfl⟩ := hm.rd.form
 clear hm hs hn
 obtain ⟨inn, it⟩ := f
 obtain ⟨z, ms⟩ := it
 simp only at *
 have bx := boxF_new w [.int .i64 inn, .int .i64 z, .slice a n' c] 46
 have bb := (Below.refl w.heap.size w).alloc (Nat.le_refl _) (.cells #[.int .i64 inn, .int .i64 z, .slice a n' c] 46)
 simp only [List.toArray] at bx
 subst hK
 go_enter Tryz.func14, Tryz.ntmps14
 go_wp2_with fail
 generalize w.alloc (.cells #[.int .i64 inn, .int .i64 z, .slice a n' c] 46) = W at *
 obtain ⟨⟨p0, p1, p2⟩, -⟩ := BoxF.three bx
 go_wp2_with fail
 refine (unhide HI _ bb).mono ?_
 rintro e w1 ⟨rfl, P⟩
 have P1 := hide (show FeedOwn S w1 (.agg #[.int .i64 inn, .int .i64 z, .slice a n' c]) (marksFeed k ⟨inn, ⟨z, ms⟩⟩) ∧ Turn S w w1 from by
  obtain ⟨⟨u2, e2, h2⟩, t2⟩ := unhide P
  simp only [Value.agg.injEq, Array.mk.injEq, List.cons.injEq, and_true] at e2
  exact ⟨⟨_, rfl, by rw [← e2.2] at h2; exact h2⟩, (Turn.of_below (S := S) bb).trans t2⟩)
 clear bx P
 go_wp2_with fail
 go_ret
 exact ⟨rfl, P1⟩
end Go.Proofs.YtknkdbfgfcgkiaaGreatDoor
