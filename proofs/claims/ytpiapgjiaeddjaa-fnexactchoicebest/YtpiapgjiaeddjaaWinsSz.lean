/-
  How much lists of windows hold in all.
-/
import Derived.Test.YtpiapgjiaeddjaaMerged14
set_option linter.unusedVariables false
namespace Go.Proofs.Ytpiapgjiaeddjaa
open Go.RowKit Go.Maps Go.Deep

def RetMarkW (ns : List MarkV) (left0 : Int) (e : Ending) : Prop := ∃ r : Int, e = .returned (.int .i64 r) ∧ r ≤ left0 ∧ (0 ≤ r → MarkSmall ns ∧ r + (ns.length : Int) ≤ left0)
set_option maxHeartbeats 1600000 in
theorem szMarkS_wt (w : World) (b off cap : Nat) (ns : List MarkV) (left0 : Int) (hf0 : 0 ≤ left0) (hf1 : left0 ≤ 1048576) (hl : ns.length ≤ 9223372036854775807) (hc : MarkAt w b off ns) (hb : b < w.heap.size) (hs : MarkOk ns) :
    Calls Try.prog 37 #[.slice (some ⟨b, off, none⟩) ns.length cap, .int .i64 left0] w fun e w' => RetMarkW ns left0 e ∧ Below w.heap.size w w' := by
  have HS := hide hs
  clear hs
  by_cases hlen : (ns.length : Int) ≤ left0
  · go_enter Try.func37, Try.ntmps37
    go_wp2
    go_loopw [1, 5] (fun l i wr => ∃ (k : Nat) (left : Int), k ≤ ns.length ∧ i = .int .i64 k ∧ l = .int .i64 left ∧ 0 ≤ left ∧ left + (ns.length : Int) ≤ left0 ∧ (∀ j (h : j < ns.length), j < k → ns[j].a0.size ≤ 1048576) ∧ Below w.heap.size w wr) (fun _ i _ => ns.length - (intOf i).toNat)
    case atStart => exact ⟨0, _, Nat.zero_le _, rfl, rfl, by omega, by omega, fun j _ hj => absurd hj (Nat.not_lt_zero _), Below.refl _ _⟩
    case round =>
      obtain ⟨k, left, hk, rfl, rfl, hl0, hl1, hnames, hbel⟩ := hrel
      have HN := hide hnames
      clear hnames
      by_cases hlt : k < ns.length
      · obtain ⟨c0, c1⟩ := hc k hlt
        rw [← hbel.cell (by exact hb)] at c0 c1
        have HF := hide (unhide HS _ (List.getElem_mem hlt))
        obtain ⟨r, hr⟩ : ∃ r : Int, r = r := ⟨0, rfl⟩
        clear r hr
        go_wp2_with (first
          | (go_at_call 53; refine (szMark_any _ _ _ _ (unhide HF).1 hl0 (by omega)).mono ?_; rintro e w1 ⟨r, he, hr, hb1⟩; obtain rfl := unhide he; by_cases hneg : r < 0)
          | go_in)
        · go_ret
          exact ⟨⟨-1, rfl, by omega, fun h => by omega⟩, hbel.trans (hb1.mono hbel.size)⟩
        · have hr' := unhide hr
          have hr2 := hr'.2 (by omega)
          have hr1 := hr'.1
          clear hr' hr
          go_roundw
          case rel =>
            refine ⟨k + 1, _, by omega, by go_num, rfl, by omega, by omega, fun j h hj => ?_, hbel.trans (hb1.mono hbel.size)⟩
            by_cases e : j = k
            · subst e; omega
            · exact unhide HN j h (by omega)
          case measure => simp [intOf]; omega
      · go_wp2
        go_ret
        refine ⟨⟨_, rfl, by omega, fun _ => ⟨⟨by omega, fun x hx => ?_⟩, by omega⟩⟩, hbel⟩
        obtain ⟨j, hj, rfl⟩ := List.getElem_of_mem hx
        exact unhide HN j hj (by omega)
  · go_enter Try.func37, Try.ntmps37
    go_wp2
    go_ret
    exact ⟨⟨-1, rfl, by omega, fun h => by omega⟩, Below.refl _ _⟩

theorem szMarkS_kitW (ns : List MarkV) (v : Value) (left : Int) (w : World) (h0 : 0 ≤ left) (h1 : left ≤ 1048576) (hf : MarkSFit ns) (h : MarkSRd w v ns) :
    Calls Try.prog 37 #[v, .int .i64 left] w fun e w' => ∃ q : Int, e = .returned (.int .i64 q) ∧ q ≤ left ∧ Hid (0 ≤ q → SmallMarkS ns ∧ q + (ns.length : Int) ≤ left) ∧ Below w.heap.size w w' := by
  obtain ⟨a, c, rfl, h⟩ := h
  rcases h with rfl | ⟨b, off, rfl, hb, hc⟩
  · refine (szMarkS_none w a c left h0 h1).mono ?_
    rintro e w' ⟨rfl, rfl⟩
    exact ⟨_, rfl, Int.le_refl _, hide (fun _ => ⟨⟨⟨by simp, fun _ h => by cases h⟩, hf.2⟩, by simp⟩), Below.refl _ _⟩
  · refine (szMarkS_wt w b off c ns left h0 h1 (by have := hf.1; unfold maxLen at this; omega) hc hb hf.2).mono ?_
    rintro e w' ⟨⟨r, rfl, h2, h3⟩, b⟩
    exact ⟨r, rfl, h2, hide (fun hr => ⟨⟨(h3 hr).1, hf.2⟩, (h3 hr).2⟩), b⟩
def wTo (ns : List ItemV) (k : Nat) : Nat := ((ns.take k).map (fun x => x.a1.length)).sum
theorem wTo_step (ns : List ItemV) (k : Nat) (h : k < ns.length) : wTo ns (k + 1) = wTo ns k + ns[k].a1.length := by
  unfold wTo
  rw [List.take_succ_eq_append_getElem h, List.map_append, List.sum_append]
  simp
def wItemS (ns : List ItemV) : Nat := ns.length + wTo ns ns.length
set_option maxHeartbeats 1600000 in
theorem szItem_wt (z0 : Int) (z1 : Value) (ms : List MarkV) (left : Int) (w : World) (hf : MarkSFit ms) (h : MarkSRd w z1 ms) (h0 : 0 ≤ left) (h1 : left ≤ 1048576) :
    Calls Try.prog 24 #[.agg #[.int .i64 z0, z1], .int .i64 left] w fun e w' => ∃ r : Int, e = .returned (.int .i64 r) ∧ r ≤ left ∧ Hid (0 ≤ r → SmallMarkS ms ∧ r + (ms.length : Int) ≤ left) ∧ Below w.heap.size w w' := by
  have HK := hide (fun W (b : Below w.heap.size w W) => szMarkS_kitW ms z1 left W h0 h1 hf (h.up b))
  obtain ⟨a, n, c, rfl⟩ := h.form
  clear h hf
  go_enter Try.func24, Try.ntmps24
  go_wp2_with fail
  refine (unhide HK _ (by go_grown)).mono ?_
  rintro e w1 ⟨q, rfl, hq, HQ, b1⟩
  have B1 := hide (Below.trans (by go_grown : Below w.heap.size w _) (b1.mono (by simp)))
  clear b1
  by_cases hneg : q < 0
  · go_wp2_with fail
    go_ret
    exact ⟨-1, rfl, by omega, hide (fun h => absurd h (by omega)), unhide B1⟩
  · go_wp2_with fail
    go_ret
    exact ⟨q, rfl, hq, HQ, unhide B1⟩

set_option maxHeartbeats 3200000 in
theorem szItemS_wt (w : World) (b off cap : Nat) (ns : List ItemV) (left0 : Int) (hf0 : 0 ≤ left0) (hf1 : left0 ≤ 1048576) (hl : ns.length ≤ maxLen) (hc : ItemAt w b off ns) (hb : b < w.heap.size) (hs : ∀ x ∈ ns, ItemFit x) :
    Calls Try.prog 13 #[.slice (some ⟨b, off, none⟩) ns.length cap, .int .i64 left0] w fun e w' => ∃ r : Int, e = .returned (.int .i64 r) ∧ r ≤ left0 ∧ Hid (0 ≤ r → SmallItemS ns ∧ r + (wItemS ns : Int) ≤ left0) ∧ Below w.heap.size w w' := by
  have HS := hide hs
  have HC := hide hc
  unfold maxLen at hl
  clear hs hc
  by_cases hlen : (ns.length : Int) ≤ left0
  · go_enter Try.func13, Try.ntmps13
    go_wp2_with fail
    go_loopw [1, 5] (fun l i wr => ∃ (k : Nat) (left : Int), k ≤ ns.length ∧ i = .int .i64 k ∧ l = .int .i64 left ∧ 0 ≤ left ∧ left + (ns.length : Int) + (wTo ns k : Int) ≤ left0 ∧ Hid (∀ j (h : j < ns.length), j < k → SmallMarkS ns[j].a1) ∧ Hid (Below w.heap.size w wr)) (fun _ i _ => ns.length - (intOf i).toNat)
    case atStart => exact ⟨0, _, Nat.zero_le _, rfl, rfl, by omega, by simp [wTo], hide (fun j _ hj => absurd hj (Nat.not_lt_zero _)), Below.refl _ _⟩
    case round =>
      obtain ⟨k, left, hk, rfl, rfl, hl0, hl1, HN, HB⟩ := hrel
      by_cases hlt : k < ns.length
      · obtain ⟨c0, v, c1, hv⟩ := (unhide HC).up hb (unhide HB) k hlt
        have HF := hide (unhide HS _ (List.getElem_mem hlt)).2
        have HV := hide (fun W (bW : Below wr.heap.size wr W) => szItem_wt ns[k].a0 v ns[k].a1 left W (unhide HF) (hv.up bW) hl0 (by omega))
        obtain ⟨va, vn, vc, rfl⟩ := hv.form
        have HN2 := hide (show SmallMarkS ns[k].a1 → ∀ j (h : j < ns.length), j < k + 1 → SmallMarkS ns[j].a1 from fun hk' j h hj => by
          by_cases e : j = k
          · subst e; exact hk'
          · exact unhide HN j h (by omega))
        have HW := hide (wTo_step ns k hlt)
        clear hv HF
        generalize ns[k].a0 = z0 at *
        generalize ns[k].a1 = ms at *
        go_wp2_with fail
        refine (unhide HV _ (by go_grown)).mono ?_
        rintro e w1 ⟨r, rfl, hr, HR, b1⟩
        have B1 := hide ((unhide HB).trans (b1.mono (unhide HB).size))
        clear b1 c0 c1
        by_cases hneg : r < 0
        · go_wp2_with fail
          go_ret
          exact ⟨-1, rfl, by omega, hide (fun h => absurd h (by omega)), unhide B1⟩
        · have HN3 := hide (unhide HN2 (unhide HR (by omega)).1)
          have hW2 : r + (ns.length : Int) + (wTo ns (k + 1) : Int) ≤ left0 := by have := (unhide HR (by omega)).2; have := unhide HW; omega
          have HW3 := hide hW2
          clear hW2
          go_wp2_with fail
          go_roundw
          case rel => exact ⟨k + 1, r, by omega, by go_num, rfl, by omega, unhide HW3, HN3, B1⟩
          case measure => simp [intOf]; omega
      · have hkn : k = ns.length := by omega
        have HE := hide (show SmallItemS ns ∧ left + (wItemS ns : Int) ≤ left0 from ⟨⟨by omega, fun x hx => by
          obtain ⟨j, hj, rfl⟩ := List.getElem_of_mem hx
          exact ⟨(unhide HS _ hx).1, unhide HN j hj (by omega)⟩⟩, by unfold wItemS; rw [hkn] at hl1; omega⟩)
        clear hkn
        go_wp2_with fail
        go_ret
        exact ⟨_, rfl, by omega, hide (fun _ => unhide HE), unhide HB⟩
  · go_enter Try.func13, Try.ntmps13
    go_wp2_with fail
    go_ret
    exact ⟨-1, rfl, by omega, hide (fun h => absurd h (by omega)), Below.refl _ _⟩
theorem szItemS_kitW (ns : List ItemV) (v : Value) (left : Int) (w : World) (h0 : 0 ≤ left) (h1 : left ≤ 1048576) (hf : ItemSFit ns) (h : ItemSRd w v ns) :
    Calls Try.prog 13 #[v, .int .i64 left] w fun e w' => ∃ q : Int, e = .returned (.int .i64 q) ∧ q ≤ left ∧ Hid (0 ≤ q → SmallItemS ns ∧ q + (wItemS ns : Int) ≤ left) ∧ Below w.heap.size w w' := by
  obtain ⟨a, c, rfl, h⟩ := h
  rcases h with rfl | ⟨b, off, rfl, hb, hc⟩
  · refine (szItemS_none w a c left h0 h1).mono ?_
    rintro e w' ⟨rfl, rfl⟩
    exact ⟨_, rfl, Int.le_refl _, hide (fun _ => ⟨⟨by simp, fun _ h => by cases h⟩, by simp [wItemS, wTo]⟩), Below.refl _ _⟩
  · exact szItemS_wt w b off c ns left h0 h1 hf.1 hc hb hf.2
def wwTo (ns : List (List ItemV)) (k : Nat) : Nat := ((ns.take k).map wItemS).sum
theorem wwTo_step (ns : List (List ItemV)) (k : Nat) (h : k < ns.length) : wwTo ns (k + 1) = wwTo ns k + wItemS ns[k] := by
  unfold wwTo
  rw [List.take_succ_eq_append_getElem h, List.map_append, List.sum_append]
  simp
def wItemSS (ns : List (List ItemV)) : Nat := ns.length + wwTo ns ns.length
set_option maxHeartbeats 3200000 in
theorem szItemSS_wt (w : World) (b off cap : Nat) (ns : List (List ItemV)) (left0 : Int) (hf0 : 0 ≤ left0) (hf1 : left0 ≤ 1048576) (hl : ns.length ≤ maxLen) (hc : WinsAt w b off ns) (hb : b < w.heap.size) (hs : ∀ x ∈ ns, ItemSFit x) :
    Calls Try.prog 4 #[.slice (some ⟨b, off, none⟩) ns.length cap, .int .i64 left0] w fun e w' => ∃ r : Int, e = .returned (.int .i64 r) ∧ r ≤ left0 ∧ Hid (0 ≤ r → SmallItemSS ns ∧ r + (wItemSS ns : Int) ≤ left0) ∧ Below w.heap.size w w' := by
  have HS := hide hs
  have HC := hide hc
  unfold maxLen at hl
  clear hs hc
  by_cases hlen : (ns.length : Int) ≤ left0
  · go_enter Try.func4, Try.ntmps4
    go_wp2_with fail
    go_loopw [1, 5] (fun l i wr => ∃ (k : Nat) (left : Int), k ≤ ns.length ∧ i = .int .i64 k ∧ l = .int .i64 left ∧ 0 ≤ left ∧ left + (ns.length : Int) + (wwTo ns k : Int) ≤ left0 ∧ Hid (∀ j (h : j < ns.length), j < k → SmallItemS ns[j]) ∧ Hid (Below w.heap.size w wr)) (fun _ i _ => ns.length - (intOf i).toNat)
    case atStart => exact ⟨0, _, Nat.zero_le _, rfl, rfl, by omega, by simp [wwTo], hide (fun j _ hj => absurd hj (Nat.not_lt_zero _)), Below.refl _ _⟩
    case round =>
      obtain ⟨k, left, hk, rfl, rfl, hl0, hl1, HN, HB⟩ := hrel
      by_cases hlt : k < ns.length
      · obtain ⟨v, c0, hv⟩ := (unhide HC).up hb (unhide HB) k hlt
        have HF := hide (unhide HS _ (List.getElem_mem hlt))
        have HV := hide (fun W (bW : Below wr.heap.size wr W) => szItemS_kitW ns[k] v left W hl0 (by omega) (unhide HF) (hv.up bW))
        obtain ⟨va, vn, vc, rfl⟩ := hv.form
        have HN2 := hide (show SmallItemS ns[k] → ∀ j (h : j < ns.length), j < k + 1 → SmallItemS ns[j] from fun hk' j h hj => by
          by_cases e : j = k
          · subst e; exact hk'
          · exact unhide HN j h (by omega))
        have HW := hide (wwTo_step ns k hlt)
        clear hv HF
        generalize ns[k] = ms at *
        go_wp2_with fail
        refine (unhide HV _ (by go_grown)).mono ?_
        rintro e w1 ⟨r, rfl, hr, HR, b1⟩
        have B1 := hide ((unhide HB).trans (b1.mono (unhide HB).size))
        clear b1 c0
        by_cases hneg : r < 0
        · go_wp2_with fail
          go_ret
          exact ⟨-1, rfl, by omega, hide (fun h => absurd h (by omega)), unhide B1⟩
        · have HN3 := hide (unhide HN2 (unhide HR (by omega)).1)
          have hW2 : r + (ns.length : Int) + (wwTo ns (k + 1) : Int) ≤ left0 := by have := (unhide HR (by omega)).2; have := unhide HW; omega
          have HW3 := hide hW2
          clear hW2
          go_wp2_with fail
          go_roundw
          case rel => exact ⟨k + 1, r, by omega, by go_num, rfl, by omega, unhide HW3, HN3, B1⟩
          case measure => simp [intOf]; omega
      · have hkn : k = ns.length := by omega
        have HE := hide (show SmallItemSS ns ∧ left + (wItemSS ns : Int) ≤ left0 from ⟨⟨by omega, fun x hx => by
          obtain ⟨j, hj, rfl⟩ := List.getElem_of_mem hx
          exact unhide HN j hj (by omega)⟩, by unfold wItemSS; rw [hkn] at hl1; omega⟩)
        clear hkn
        go_wp2_with fail
        go_ret
        exact ⟨_, rfl, by omega, hide (fun _ => unhide HE), unhide HB⟩
  · go_enter Try.func4, Try.ntmps4
    go_wp2_with fail
    go_ret
    exact ⟨-1, rfl, by omega, hide (fun h => absurd h (by omega)), Below.refl _ _⟩
def SmallItemSSF (ns : List (List ItemV)) : Prop := SmallItemSS ns ∧ wItemSS ns ≤ 1048576
theorem szItemSSF_kit (ns : List (List ItemV)) (v : Value) (w : World) (hf : ItemSSFit ns) (h : ItemSSRd w v ns) :
    Calls Try.prog 4 #[v, .int .i64 1048576] w fun e w' => ∃ q : Int, e = .returned (.int .i64 q) ∧ Hid (0 ≤ q → SmallItemSSF ns) ∧ Below w.heap.size w w' := by
  obtain ⟨a, c, rfl, h⟩ := h
  rcases h with rfl | ⟨b, off, rfl, hb, hc⟩
  · refine (szItemSS_none w a c 1048576 (by omega) (by omega)).mono ?_
    rintro e w' ⟨rfl, rfl⟩
    exact ⟨_, rfl, hide (fun _ => ⟨⟨by simp, fun _ h => by cases h⟩, by simp [wItemSS, wwTo]⟩), Below.refl _ _⟩
  · refine (szItemSS_wt w b off c ns 1048576 (by omega) (by omega) hf.1 hc hb hf.2).mono ?_
    rintro e w' ⟨r, rfl, _, h2, b⟩
    exact ⟨r, rfl, hide (fun hr => ⟨(unhide h2 hr).1, by have := (unhide h2 hr).2; omega⟩), b⟩
end Go.Proofs.Ytpiapgjiaeddjaa
