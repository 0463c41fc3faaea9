/-
  Lists of windows copied and compared.
-/
/-
  How much lists of windows hold in all.
-/
/-
  Marks over a list of marks, found again.
-/
/-
  One item's marks written, and found again.
-/
import Derived.Test.YtknkdbfgfcgkiaaGreatDoorMerged4
import Derived.Test.YtknkdbfgfcgkiaaGreatDoorMerged5
import Derived.Deep.RegionHeld3
set_option linter.unusedVariables false
namespace Go.Proofs.YtknkdbfgfcgkiaaGreatDoor
open Go.RowKit Go.Maps Go.Deep

theorem infoItemS : (Tryz.prog.info? 60).map (fun i => (i.zero, i.size, i.bytes)) = some (some (.slice none 0 0), 1, 24) := by kernel_rfl
theorem winsRow_cell {w : World} {B g n : Nat} {T : TypeId} {xs : List Value} (h : w.ownsRow B T 1 (.slice (some ⟨g, 0, none⟩) n n) n xs) (k : Nat) (hk : k < n) : ∃ v0, w.cell? ⟨g, k, none⟩ = some v0 ∧ w.frozen? ⟨g, k, none⟩ = false := by
 have hx := h.1
 refine ⟨xs[k]'(by omega), ?_, h.frozenAt _⟩
 rw [h.cellAt _ (by omega)]
 exact List.getElem?_eq_getElem _
set_option maxHeartbeats 1600000 in
theorem toItemSS_none (w : World) (a : Option Addr) (cap : Nat) :
  Calls Tryz.prog 30 #[.slice a 0 cap] w fun e w' => e = .returned (.slice (some ⟨w.heap.size, 0, none⟩) 0 0) ∧ w.heap.size < w'.heap.size ∧ Below w.heap.size w w' := by
 obtain ⟨i0, hi, hz0, hz1, hz2⟩ := info_parts1 infoItemS
 go_enter Tryz.func30, Tryz.ntmps30
 go_wp2_with (first
  | (at_make; refine wpList_make_full _ rfl _ _ 33 rfl w.heap.size 60 i0 _ 1 Tryz.underlying33 hi hz0 hz1 _ _ _ _ 0 rfl rfl rfl rfl (by rw [hz2]; omega) (by unfold maxLen; omega) (Nat.le_refl _) ?_; intro w1 hown hgrow)
  | go_in)
 have hlt1 : w.heap.size < w1.heap.size := by
  rcases hown.2 with ⟨h', _⟩ | ⟨g', cap', cur, h', _, hg, _⟩
  ·simp at h'
  ·simp only [Value.slice.injEq, Option.some.injEq, Addr.mk.injEq, and_true, true_and] at h'
   obtain ⟨rfl, rfl⟩ := h'
   exact (Array.getElem?_eq_some_iff.1 hg).1
 have hbw1 : Below w.heap.size w w1 := (Below.refl _ _).grown hgrow (Nat.le_refl _) (fun k hk => by cases hk)
 clear hown hgrow
 refine wp_loop_rounds 1 ?_
 rw [rounds_succ]
 go_wp2
 go_ret
 exact ⟨rfl, hlt1, hbw1⟩
set_option maxHeartbeats 3200000 in
theorem eqItemSS_row (w : World) (b off cap b' off' cap' : Nat) (ns : List (List ItemV)) (hs : SmallItemSS ns) (hc : WinsAt w b off ns) (hc' : WinsAt w b' off' ns) (hb : b < w.heap.size) (hb' : b' < w.heap.size) :
  Calls Tryz.prog 38 #[.slice (some ⟨b, off, none⟩) ns.length cap, .slice (some ⟨b', off', none⟩) ns.length cap'] w fun e w' => e = .returned (.bool true) ∧ Below w.heap.size w w' := by
 have HS := hide hs.2
 have hl := hs.1
 have HC := hide hc
 have HC' := hide hc'
 clear hs hc hc'
 go_enter Tryz.func38, Tryz.ntmps38
 go_wp2_with fail
 go_loopw [5] (fun i wr => ∃ (k : Nat), k ≤ ns.length ∧ i = .int .i64 k ∧ Hid (Below w.heap.size w wr)) (fun i _ => ns.length - (intOf i).toNat)
 case atStart => exact ⟨0, Nat.zero_le _, rfl, Below.refl _ _⟩
 case round =>
  obtain ⟨k, hk, rfl, HB⟩ := hrel
  by_cases hlt : k < ns.length
  ·obtain ⟨v, c0, hv⟩ := (unhide HC).up hb (unhide HB) k hlt
   obtain ⟨v', d0, hv'⟩ := (unhide HC').up hb' (unhide HB) k hlt
   have HV := hide (fun W (bW : Below wr.heap.size wr W) => eqItemS_kit ns[k] v v' W (unhide HS _ (List.getElem_mem hlt)) (hv.up bW) (hv'.up bW))
   obtain ⟨va, vn, vc, rfl⟩ := hv.form
   obtain ⟨va', vn', vc', rfl⟩ := hv'.form
   clear hv hv'
   generalize ns[k] = ms at *
   go_wp2_with fail
   go_region_with (go_at_call 76; refine (unhide HV _ ((Below.refl _ _).drew)).mono ?_; rintro e w2 ⟨rfl, hb2⟩)
   all_goals
    have hb3 := hide ((unhide HB).trans (Below.mono (((Below.refl wr.heap.size wr).drew).trans hb2) (unhide HB).size))
    clear c0 d0
    go_wp2_with fail
    go_roundw
    case rel => exact ⟨k + 1, by omega, by go_num, hb3⟩
    case measure => simp [intOf]; omega
  ·go_wp2_with fail
   go_ret
   exact ⟨rfl, unhide HB⟩
theorem eqItemSS_kit (ns : List (List ItemV)) (v v' : Value) (w : World) (hs : SmallItemSS ns) (h : ItemSSRd w v ns) (h' : ItemSSRd w v' ns) :
  Calls Tryz.prog 38 #[v, v'] w fun e w' => e = .returned (.bool true) ∧ Below w.heap.size w w' := by
 have none : ∀ a a' c c', Calls Tryz.prog 38 #[.slice a 0 c, .slice a' 0 c'] w fun e w' => e = .returned (.bool true) ∧ Below w.heap.size w w' := by
  intro a a' c c'
  go_enter Tryz.func38, Tryz.ntmps38
  go_wp2
  refine wp_loop_rounds 1 ?_
  rw [rounds_succ]
  go_wp2
  go_ret
  exact ⟨rfl, Below.refl _ _⟩
 obtain ⟨a, c, rfl, h⟩ := h
 obtain ⟨a', c', rfl, h'⟩ := h'
 rcases h with rfl | ⟨b, off, rfl, hb, hc⟩
 ·exact none _ _ _ _
 ·rcases h' with rfl | ⟨b', off', rfl, hb', hc'⟩
  ·exact none _ _ _ _
  ·exact eqItemSS_row w b off c b' off' c' ns hs hc hc' hb hb'
end Go.Proofs.YtknkdbfgfcgkiaaGreatDoor

set_option linter.unusedVariables false
namespace Go.Proofs.YtknkdbfgfcgkiaaGreatDoor
open Go.RowKit Go.Maps Go.Deep

def RetMarkW (ns : List MarkV) (left0 : Int) (e : Ending) : Prop := ∃ r : Int, e = .returned (.int .i64 r) ∧ r ≤ left0 ∧ (0 ≤ r → MarkSmall ns ∧ r + (ns.length : Int) ≤ left0)
set_option maxHeartbeats 1600000 in
theorem szMarkS_wt (w : World) (b off cap : Nat) (ns : List MarkV) (left0 : Int) (hf0 : 0 ≤ left0) (hf1 : left0 ≤ 1048576) (hl : ns.length ≤ 9223372036854775807) (hc : MarkAt w b off ns) (hb : b < w.heap.size) (hs : MarkOk ns) :
  Calls Tryz.prog 20 #[.slice (some ⟨b, off, none⟩) ns.length cap, .int .i64 left0] w fun e w' => RetMarkW ns left0 e ∧ Below w.heap.size w w' := by
 have HS := hide hs
 clear hs
 by_cases hlen : (ns.length : Int) ≤ left0
 ·go_enter Tryz.func20, Tryz.ntmps20
  go_wp2
  go_loopw [1, 5] (fun l i wr => ∃ (k : Nat) (left : Int), k ≤ ns.length ∧ i = .int .i64 k ∧ l = .int .i64 left ∧ 0 ≤ left ∧ left + (ns.length : Int) ≤ left0 ∧ (∀ j (h : j < ns.length), j < k → ns[j].a0.size ≤ 1048576) ∧ Below w.heap.size w wr) (fun _ i _ => ns.length - (intOf i).toNat)
  case atStart => exact ⟨0, _, Nat.zero_le _, rfl, rfl, by omega, by omega, fun j _ hj => absurd hj (Nat.not_lt_zero _), Below.refl _ _⟩
  case round =>
   obtain ⟨k, left, hk, rfl, rfl, hl0, hl1, hnames, hbel⟩ := hrel
   have HN := hide hnames
   clear hnames
   by_cases hlt : k < ns.length
   ·obtain ⟨c0, c1⟩ := hc k hlt
    rw [← hbel.cell (by exact hb)] at c0 c1
    have HF := hide (unhide HS _ (List.getElem_mem hlt))
    obtain ⟨r, hr⟩ : ∃ r : Int, r = r := ⟨0, rfl⟩
    clear r hr
    go_wp2_with (first
     | (go_at_call 52; refine (szMark_any _ _ _ _ (unhide HF).1 hl0 (by omega)).mono ?_; rintro e w1 ⟨r, he, hr, hb1⟩; obtain rfl := unhide he; by_cases hneg : r < 0)
     | go_in)
    ·go_ret
     exact ⟨⟨-1, rfl, by omega, fun h => by omega⟩, hbel.trans (hb1.mono hbel.size)⟩
    ·have hr' := unhide hr
     have hr2 := hr'.2 (by omega)
     have hr1 := hr'.1
     clear hr' hr
     go_roundw
     case rel =>
      refine ⟨k + 1, _, by omega, by go_num, rfl, by omega, by omega, fun j h hj => ?_, hbel.trans (hb1.mono hbel.size)⟩
      by_cases e : j = k
      ·subst e; omega
      ·exact unhide HN j h (by omega)
     case measure => simp [intOf]; omega
   ·go_wp2
    go_ret
    refine ⟨⟨_, rfl, by omega, fun _ => ⟨⟨by omega, fun x hx => ?_⟩, by omega⟩⟩, hbel⟩
    obtain ⟨j, hj, rfl⟩ := List.getElem_of_mem hx
    exact unhide HN j hj (by omega)
 ·go_enter Tryz.func20, Tryz.ntmps20
  go_wp2
  go_ret
  exact ⟨⟨-1, rfl, by omega, fun h => by omega⟩, Below.refl _ _⟩

theorem szMarkS_kitW (ns : List MarkV) (v : Value) (left : Int) (w : World) (h0 : 0 ≤ left) (h1 : left ≤ 1048576) (hf : MarkSFit ns) (h : MarkSRd w v ns) :
  Calls Tryz.prog 20 #[v, .int .i64 left] w fun e w' => ∃ q : Int, e = .returned (.int .i64 q) ∧ q ≤ left ∧ Hid (0 ≤ q → SmallMarkS ns ∧ q + (ns.length : Int) ≤ left) ∧ Below w.heap.size w w' := by
 obtain ⟨a, c, rfl, h⟩ := h
 rcases h with rfl | ⟨b, off, rfl, hb, hc⟩
 ·refine (szMarkS_none w a c left h0 h1).mono ?_
  rintro e w' ⟨rfl, rfl⟩
  exact ⟨_, rfl, Int.le_refl _, hide (fun _ => ⟨⟨⟨by simp, fun _ h => by cases h⟩, hf.2⟩, by simp⟩), Below.refl _ _⟩
 ·refine (szMarkS_wt w b off c ns left h0 h1 (by have := hf.1; unfold maxLen at this; omega) hc hb hf.2).mono ?_
  rintro e w' ⟨⟨r, rfl, h2, h3⟩, b⟩
  exact ⟨r, rfl, h2, hide (fun hr => ⟨⟨(h3 hr).1, hf.2⟩, (h3 hr).2⟩), b⟩
def wTo (ns : List ItemV) (k : Nat) : Nat := ((ns.take k).map (fun x => x.a1.length)).sum
theorem wTo_step (ns : List ItemV) (k : Nat) (h : k < ns.length) : wTo ns (k + 1) = wTo ns k + ns[k].a1.length := by
 unfold wTo
 rw [List.take_succ_eq_append_getElem h, List.map_append, List.sum_append]
 simp
def wItemS (ns : List ItemV) : Nat := ns.length + wTo ns ns.length
set_option maxHeartbeats 1600000 in
theorem szItem_wt (z0 : Int) (z1 : Value) (ms : List MarkV) (left : Int) (w : World) (hf : MarkSFit ms) (h : MarkSRd w z1 ms) (h0 : 0 ≤ left) (h1 : left ≤ 1048576) :
  Calls Tryz.prog 21 #[.agg #[.int .i64 z0, z1], .int .i64 left] w fun e w' => ∃ r : Int, e = .returned (.int .i64 r) ∧ r ≤ left ∧ Hid (0 ≤ r → SmallMarkS ms ∧ r + (ms.length : Int) ≤ left) ∧ Below w.heap.size w w' := by
 have HK := hide (fun W (b : Below w.heap.size w W) => szMarkS_kitW ms z1 left W h0 h1 hf (h.up b))
 obtain ⟨a, n, c, rfl⟩ := h.form
 clear h hf
 go_enter Tryz.func21, Tryz.ntmps21
 go_wp2_with fail
 refine (unhide HK _ (by go_grown)).mono ?_
 rintro e w1 ⟨q, rfl, hq, HQ, b1⟩
 have B1 := hide (Below.trans (by go_grown : Below w.heap.size w _) (b1.mono (by simp)))
 clear b1
 by_cases hneg : q < 0
 ·go_wp2_with fail
  go_ret
  exact ⟨-1, rfl, by omega, hide (fun h => absurd h (by omega)), unhide B1⟩
 ·go_wp2_with fail
  go_ret
  exact ⟨q, rfl, hq, HQ, unhide B1⟩

set_option maxHeartbeats 3200000 in
theorem szItemS_wt (w : World) (b off cap : Nat) (ns : List ItemV) (left0 : Int) (hf0 : 0 ≤ left0) (hf1 : left0 ≤ 1048576) (hl : ns.length ≤ maxLen) (hc : ItemAt w b off ns) (hb : b < w.heap.size) (hs : ∀ x ∈ ns, ItemFit x) :
  Calls Tryz.prog 51 #[.slice (some ⟨b, off, none⟩) ns.length cap, .int .i64 left0] w fun e w' => ∃ r : Int, e = .returned (.int .i64 r) ∧ r ≤ left0 ∧ Hid (0 ≤ r → SmallItemS ns ∧ r + (wItemS ns : Int) ≤ left0) ∧ Below w.heap.size w w' := by
 have HS := hide hs
 have HC := hide hc
 unfold maxLen at hl
 clear hs hc
 by_cases hlen : (ns.length : Int) ≤ left0
 ·go_enter Tryz.func51, Tryz.ntmps51
  go_wp2_with fail
  go_loopw [1, 5] (fun l i wr => ∃ (k : Nat) (left : Int), k ≤ ns.length ∧ i = .int .i64 k ∧ l = .int .i64 left ∧ 0 ≤ left ∧ left + (ns.length : Int) + (wTo ns k : Int) ≤ left0 ∧ Hid (∀ j (h : j < ns.length), j < k → SmallMarkS ns[j].a1) ∧ Hid (Below w.heap.size w wr)) (fun _ i _ => ns.length - (intOf i).toNat)
  case atStart => exact ⟨0, _, Nat.zero_le _, rfl, rfl, by omega, by simp [wTo], hide (fun j _ hj => absurd hj (Nat.not_lt_zero _)), Below.refl _ _⟩
  case round =>
   obtain ⟨k, left, hk, rfl, rfl, hl0, hl1, HN, HB⟩ := hrel
   by_cases hlt : k < ns.length
   ·obtain ⟨c0, v, c1, hv⟩ := (unhide HC).up hb (unhide HB) k hlt
    have HF := hide (unhide HS _ (List.getElem_mem hlt)).2
    have HV := hide (fun W (bW : Below wr.heap.size wr W) => szItem_wt ns[k].a0 v ns[k].a1 left W (unhide HF) (hv.up bW) hl0 (by omega))
    obtain ⟨va, vn, vc, rfl⟩ := hv.form
    have HN2 := hide (show SmallMarkS ns[k].a1 → ∀ j (h : j < ns.length), j < k + 1 → SmallMarkS ns[j].a1 from fun hk' j h hj => by
     by_cases e : j = k
     ·subst e; exact hk'
     ·exact unhide HN j h (by omega))
    have HW := hide (wTo_step ns k hlt)
    clear hv HF
    generalize ns[k].a0 = z0 at *
    generalize ns[k].a1 = ms at *
    go_wp2_with fail
    refine (unhide HV _ (by go_grown)).mono ?_
    rintro e w1 ⟨r, rfl, hr, HR, b1⟩
    have B1 := hide ((unhide HB).trans (b1.mono (unhide HB).size))
    clear b1 c0 c1
    by_cases hneg : r < 0
    ·go_wp2_with fail
     go_ret
     exact ⟨-1, rfl, by omega, hide (fun h => absurd h (by omega)), unhide B1⟩
    ·have HN3 := hide (unhide HN2 (unhide HR (by omega)).1)
     have hW2 : r + (ns.length : Int) + (wTo ns (k + 1) : Int) ≤ left0 := by have := (unhide HR (by omega)).2; have := unhide HW; omega
     have HW3 := hide hW2
     clear hW2
     go_wp2_with fail
     go_roundw
     case rel => exact ⟨k + 1, r, by omega, by go_num, rfl, by omega, unhide HW3, HN3, B1⟩
     case measure => simp [intOf]; omega
   ·have hkn : k = ns.length := by omega
    have HE := hide (show SmallItemS ns ∧ left + (wItemS ns : Int) ≤ left0 from ⟨⟨by omega, fun x hx => by
     obtain ⟨j, hj, rfl⟩ := List.getElem_of_mem hx
     exact ⟨(unhide HS _ hx).1, unhide HN j hj (by omega)⟩⟩, by unfold wItemS; rw [hkn] at hl1; omega⟩)
    clear hkn
    go_wp2_with fail
    go_ret
    exact ⟨_, rfl, by omega, hide (fun _ => unhide HE), unhide HB⟩
 ·go_enter Tryz.func51, Tryz.ntmps51
  go_wp2_with fail
  go_ret
  exact ⟨-1, rfl, by omega, hide (fun h => absurd h (by omega)), Below.refl _ _⟩
theorem szItemS_kitW (ns : List ItemV) (v : Value) (left : Int) (w : World) (h0 : 0 ≤ left) (h1 : left ≤ 1048576) (hf : ItemSFit ns) (h : ItemSRd w v ns) :
  Calls Tryz.prog 51 #[v, .int .i64 left] w fun e w' => ∃ q : Int, e = .returned (.int .i64 q) ∧ q ≤ left ∧ Hid (0 ≤ q → SmallItemS ns ∧ q + (wItemS ns : Int) ≤ left) ∧ Below w.heap.size w w' := by
 obtain ⟨a, c, rfl, h⟩ := h
 rcases h with rfl | ⟨b, off, rfl, hb, hc⟩
 ·refine (szItemS_none w a c left h0 h1).mono ?_
  rintro e w' ⟨rfl, rfl⟩
  exact ⟨_, rfl, Int.le_refl _, hide (fun _ => ⟨⟨by simp, fun _ h => by cases h⟩, by simp [wItemS, wTo]⟩), Below.refl _ _⟩
 ·exact szItemS_wt w b off c ns left h0 h1 hf.1 hc hb hf.2
def wwTo (ns : List (List ItemV)) (k : Nat) : Nat := ((ns.take k).map wItemS).sum
theorem wwTo_step (ns : List (List ItemV)) (k : Nat) (h : k < ns.length) : wwTo ns (k + 1) = wwTo ns k + wItemS ns[k] := by
 unfold wwTo
 rw [List.take_succ_eq_append_getElem h, List.map_append, List.sum_append]
 simp
def wItemSS (ns : List (List ItemV)) : Nat := ns.length + wwTo ns ns.length
set_option maxHeartbeats 3200000 in
theorem szItemSS_wt (w : World) (b off cap : Nat) (ns : List (List ItemV)) (left0 : Int) (hf0 : 0 ≤ left0) (hf1 : left0 ≤ 1048576) (hl : ns.length ≤ maxLen) (hc : WinsAt w b off ns) (hb : b < w.heap.size) (hs : ∀ x ∈ ns, ItemSFit x) :
  Calls Tryz.prog 19 #[.slice (some ⟨b, off, none⟩) ns.length cap, .int .i64 left0] w fun e w' => ∃ r : Int, e = .returned (.int .i64 r) ∧ r ≤ left0 ∧ Hid (0 ≤ r → SmallItemSS ns ∧ r + (wItemSS ns : Int) ≤ left0) ∧ Below w.heap.size w w' := by
 have HS := hide hs
 have HC := hide hc
 unfold maxLen at hl
 clear hs hc
 by_cases hlen : (ns.length : Int) ≤ left0
 ·go_enter Tryz.func19, Tryz.ntmps19
  go_wp2_with fail
  go_loopw [1, 5] (fun l i wr => ∃ (k : Nat) (left : Int), k ≤ ns.length ∧ i = .int .i64 k ∧ l = .int .i64 left ∧ 0 ≤ left ∧ left + (ns.length : Int) + (wwTo ns k : Int) ≤ left0 ∧ Hid (∀ j (h : j < ns.length), j < k → SmallItemS ns[j]) ∧ Hid (Below w.heap.size w wr)) (fun _ i _ => ns.length - (intOf i).toNat)
  case atStart => exact ⟨0, _, Nat.zero_le _, rfl, rfl, by omega, by simp [wwTo], hide (fun j _ hj => absurd hj (Nat.not_lt_zero _)), Below.refl _ _⟩
  case round =>
   obtain ⟨k, left, hk, rfl, rfl, hl0, hl1, HN, HB⟩ := hrel
   by_cases hlt : k < ns.length
   ·obtain ⟨v, c0, hv⟩ := (unhide HC).up hb (unhide HB) k hlt
    have HF := hide (unhide HS _ (List.getElem_mem hlt))
    have HV := hide (fun W (bW : Below wr.heap.size wr W) => szItemS_kitW ns[k] v left W hl0 (by omega) (unhide HF) (hv.up bW))
    obtain ⟨va, vn, vc, rfl⟩ := hv.form
    have HN2 := hide (show SmallItemS ns[k] → ∀ j (h : j < ns.length), j < k + 1 → SmallItemS ns[j] from fun hk' j h hj => by
     by_cases e : j = k
     ·subst e; exact hk'
     ·exact unhide HN j h (by omega))
    have HW := hide (wwTo_step ns k hlt)
    clear hv HF
    generalize ns[k] = ms at *
    go_wp2_with fail
    refine (unhide HV _ (by go_grown)).mono ?_
    rintro e w1 ⟨r, rfl, hr, HR, b1⟩
    have B1 := hide ((unhide HB).trans (b1.mono (unhide HB).size))
    clear b1 c0
    by_cases hneg : r < 0
    ·go_wp2_with fail
     go_ret
     exact ⟨-1, rfl, by omega, hide (fun h => absurd h (by omega)), unhide B1⟩
    ·have HN3 := hide (unhide HN2 (unhide HR (by omega)).1)
     have hW2 : r + (ns.length : Int) + (wwTo ns (k + 1) : Int) ≤ left0 := by have := (unhide HR (by omega)).2; have := unhide HW; omega
     have HW3 := hide hW2
     clear hW2
     go_wp2_with fail
     go_roundw
     case rel => exact ⟨k + 1, r, by omega, by go_num, rfl, by omega, unhide HW3, HN3, B1⟩
     case measure => simp [intOf]; omega
   ·have hkn : k = ns.length := by omega
    have HE := hide (show SmallItemSS ns ∧ left + (wItemSS ns : Int) ≤ left0 from ⟨⟨by omega, fun x hx => by
     obtain ⟨j, hj, rfl⟩ := List.getElem_of_mem hx
     exact unhide HN j hj (by omega)⟩, by unfold wItemSS; rw [hkn] at hl1; omega⟩)
    clear hkn
    go_wp2_with fail
    go_ret
    exact ⟨_, rfl, by omega, hide (fun _ => unhide HE), unhide HB⟩
 ·go_enter Tryz.func19, Tryz.ntmps19
  go_wp2_with fail
  go_ret
  exact ⟨-1, rfl, by omega, hide (fun h => absurd h (by omega)), Below.refl _ _⟩
def SmallItemSSF (ns : List (List ItemV)) : Prop := SmallItemSS ns ∧ wItemSS ns ≤ 1048576
end Go.Proofs.YtknkdbfgfcgkiaaGreatDoor

set_option linter.unusedVariables false
namespace Go.Proofs.YtknkdbfgfcgkiaaGreatDoor
open Go.RowKit Go.Maps Go.Deep

set_option maxHeartbeats 3200000 in
theorem heldMarkS_row (w : World) (b off cap n : Nat) (k : Nat) (hk : k ≤ 1000000000000000) (hl : n ≤ 1048576) (hb : b < w.heap.size) (hc : MarkAt w b off (msMark k n)) :
  Calls Tryz.prog 49 #[.slice (some ⟨b, off, none⟩) n cap, .int .i64 (k : Int)] w fun e w' => e = .returned (.int .i64 ((k + 2 * n : Nat) : Int)) ∧ Below w.heap.size w w' := by
 have HC := hide (show ∀ j, j < n → w.cell? ⟨b, off + j * 2, none⟩ = some (.string (mText ((k + 2 * j : Nat) : Int))) ∧ w.cell? ⟨b, off + j * 2 + 1, none⟩ = some (.int .i64 (((k + 2 * j : Nat) : Int) + 1)) from fun j hj => by
  have hj' : j < (msMark k n).length := by rw [msMark_len]; exact hj
  have := hc j hj'
  rw [msMark_get] at this
  exact this)
 clear hc
 go_enter Tryz.func49, Tryz.ntmps49
 go_wp2_with fail
 go_loopw [1, 5] (fun kv i wr => ∃ j : Nat, j ≤ n ∧ i = .int .i64 j ∧ kv = .int .i64 ((k + 2 * j : Nat) : Int) ∧ Hid (Below w.heap.size w wr)) (fun _ i _ => n - (intOf i).toNat)
 case atStart => exact ⟨0, Nat.zero_le _, rfl, rfl, hide (Below.refl _ _)⟩
 case round =>
  obtain ⟨j, hj, rfl, rfl, HB⟩ := hrel
  by_cases hlt : j < n
  ·have hkj : ((k + 2 * j : Nat) : Int) ≤ 999999999999999999 := by omega
   have HM := hide (fun W => markText_any ((k + 2 * j : Nat) : Int) hkj W)
   have HCJ := hide (fun (X : World) (bx : Below w.heap.size w X) => show X.cell? ⟨b, off + j * 2, none⟩ = some (.string (mText ((k + 2 * j : Nat) : Int))) ∧ X.cell? ⟨b, off + j * 2 + 1, none⟩ = some (.int .i64 (((k + 2 * j : Nat) : Int) + 1)) from ⟨(bx.cell (by exact hb)).trans (unhide HC j hlt).1, (bx.cell (by exact hb)).trans (unhide HC j hlt).2⟩)
   have hK1 : (0 : Int) ≤ ((k + 2 * j : Nat) : Int) := by omega
   have hK2 : ((k + 2 * j : Nat) : Int) ≤ 10000000000000000 := by omega
   have HKE := hide (show (((k + 2 * j : Nat) : Int) + 1 + 1 : Int) = ((k + 2 * (j + 1) : Nat) : Int) by omega)
   clear hkj
   generalize mText ((k + 2 * j : Nat) : Int) = mt at *
   generalize ((k + 2 * j : Nat) : Int) = K at *
   have HBD := hide (unhide HB).drew
   have KP := hide (show ∀ X : World, Below w.heap.size w X → X.cell? ⟨b, off + j * 2, none⟩ = some (.string mt) ∧ Hid (Below w.heap.size w X) from fun X h => ⟨(unhide HCJ X h).1, hide h⟩)
   obtain ⟨c0, c1⟩ := unhide HCJ wr (unhide HB)
   go_wp2_with fail
   go_region_held3 (fun X => X.cell? ⟨b, off + j * 2, none⟩ = some (.string mt) ∧ Hid (Below w.heap.size w X)) ((refine unhide KP _ ?_; exact unhide (by assumption)))
    (first | (go_at_call 78; refine (unhide HM _).mono ?_; rintro e w2 ⟨rfl, hb2⟩; have HB2 := hide ((unhide HBD).trans (hb2.mono (unhide HBD).size)); clear hb2))
   all_goals
    clear c0 c1
    obtain ⟨c0, c1⟩ := unhide HCJ w2 (unhide HB2)
    go_wp2_with fail
    go_roundw
    case rel => exact ⟨j + 1, by omega, by go_num, by rw [unhide HKE], HB2⟩
    case measure => simp [intOf]; omega
  ·have e : j = n := by omega
   subst e
   go_wp2_with fail
   go_ret
   exact ⟨rfl, unhide HB⟩
theorem heldMarkS_none (w : World) (a : Option Addr) (cap : Nat) (K : Int) : Calls Tryz.prog 49 #[.slice a 0 cap, .int .i64 K] w fun e w' => e = .returned (.int .i64 K) ∧ w' = w := by
 go_enter Tryz.func49, Tryz.ntmps49
 go_wp2
 refine wp_loop_rounds 1 ?_
 rw [rounds_succ]
 go_wp2
 go_ret
 exact ⟨rfl, rfl⟩
theorem heldMarkS_rd (w : World) (v : Value) (n k : Nat) (hk : k ≤ 1000000000000000) (hl : n ≤ 1048576) (h : MarkSRd w v (msMark k n)) :
  Calls Tryz.prog 49 #[v, .int .i64 (k : Int)] w fun e w' => e = .returned (.int .i64 ((k + 2 * n : Nat) : Int)) ∧ Below w.heap.size w w' := by
 obtain ⟨a, c, rfl, h⟩ := h
 rw [msMark_len]
 rcases h with h0 | ⟨b, off, rfl, hb, hc⟩
 ·have hn : n = 0 := by have := congrArg List.length h0; rwa [msMark_len] at this
  subst hn
  refine (heldMarkS_none w a c k).mono ?_
  rintro e w' ⟨rfl, rfl⟩
  exact ⟨by simp, Below.refl _ _⟩
 ·exact heldMarkS_row w b off c n k hk hl hb hc
theorem heldMarkS_kit (ns : List MarkV) (v : Value) (w : World) (k n : Nat) (K : Int) (hK : K = (k : Int)) (hn : nMarkS ns = n) (hk : k ≤ 1000000000000000) (hs : SmallMarkS ns) (h : MarkSRd w v (marksMarkS k ns)) :
  Calls Tryz.prog 49 #[v, .int .i64 K] w fun e w' => e = .returned (.int .i64 (K + (n : Int))) ∧ Below w.heap.size w w' := by
 subst hK hn
 have hl := hs.1.1
 refine (heldMarkS_rd w v ns.length k hk hl h).mono ?_
 rintro e w' ⟨rfl, hb⟩
 exact ⟨by rw [show ((k + 2 * ns.length : Nat) : Int) = (k : Int) + ((nMarkS ns : Nat) : Int) by unfold nMarkS; omega], hb⟩
end Go.Proofs.YtknkdbfgfcgkiaaGreatDoor

set_option linter.unusedVariables false
namespace Go.Proofs.YtknkdbfgfcgkiaaGreatDoor
open Go.RowKit Go.Maps Go.Deep

set_option maxHeartbeats 3200000 in
theorem markItem_any (S : List Nat) (z0 : Int) (z1 : Value) (ms : List MarkV) (w : World) (k : Nat) (hk : k ≤ 1000000000000000) (hs : SmallMarkS ms) (h : MarkSOwn S w z1 ms) :
  Calls Tryz.prog 45 #[.agg #[.int .i64 z0, z1], .int .i64 (k : Int)] w fun e w' => e = .returned (.int .i64 ((k : Int) + (nMarkS ms : Int))) ∧ Hid (MarkSOwn S w' z1 (marksMarkS k ms)) ∧ Turn S w w' := by
 have HA := hide (fun W (b : Below w.heap.size w W) => markMarkS_kit S ms z1 W k (nMarkS ms) (k : Int) rfl rfl hk hs (h.up b))
 obtain ⟨a, n, c, rfl⟩ := h.rd.form
 clear h hs
 go_enter Tryz.func45, Tryz.ntmps45
 go_wp2_with fail
 refine (unhide HA _ (by go_grown)).mono ?_
 rintro e w1 ⟨rfl, P⟩
 have O1 := hide (unhide P).1
 have T1 := hide ((Turn.of_alloc S w (.cells #[.int .i64 z0, .slice a n c] 44)).trans (unhide P).2)
 clear P
 go_wp2_with fail
 go_ret
 exact ⟨rfl, O1, unhide T1⟩
end Go.Proofs.YtknkdbfgfcgkiaaGreatDoor
