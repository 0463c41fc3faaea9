/-
  Lists of items copied and compared.
-/
/-
  Lists of items of one's own: the row's block, and a block for each one's marks; copied so.
-/
import Derived.Test.YtknkdbfgfcgkiaaGreatDoorMerged4
set_option linter.unusedVariables false
namespace Go.Proofs.YtknkdbfgfcgkiaaGreatDoor
open Go.RowKit Go.Maps Go.Deep

theorem infoItem : (Tryz.prog.info? 44).map (fun i => (i.zero, i.size, i.bytes)) = some (some (.agg #[.int .i64 0, .slice none 0 0]), 2, 32) := by kernel_rfl
set_option maxHeartbeats 1600000 in
theorem toItemS_none (w : World) (a : Option Addr) (cap : Nat) :
    Calls Tryz.prog 63 #[.slice a 0 cap] w fun e w' => e = .returned (.slice (some ⟨w.heap.size, 0, none⟩) 0 0) ∧ w.heap.size < w'.heap.size ∧ Below w.heap.size w w' := by
  obtain ⟨i0, hi, hz0, hz1, hz2⟩ := info_parts1 infoItem
  go_enter Tryz.func63, Tryz.ntmps63
  go_wp2_with (first
    | (at_make; refine wpList_make_full _ rfl _ _ 60 rfl w.heap.size 44 i0 _ 2 Tryz.underlying60 hi hz0 hz1 _ _ _ _ 0 rfl rfl rfl rfl (by rw [hz2]; omega) (by unfold maxLen; omega) (Nat.le_refl _) ?_; intro w1 hown hgrow)
    | go_in)
  have hlt1 : w.heap.size < w1.heap.size := by
    rcases hown.2 with ⟨h', _⟩ | ⟨g', cap', cur, h', _, hg, _⟩
    · simp at h'
    · simp only [Value.slice.injEq, Option.some.injEq, Addr.mk.injEq, and_true, true_and] at h'
      obtain ⟨rfl, rfl⟩ := h'
      exact (Array.getElem?_eq_some_iff.1 hg).1
  have hbw1 : Below w.heap.size w w1 := (Below.refl _ _).grown hgrow (Nat.le_refl _) (fun k hk => by cases hk)
  clear hown hgrow
  refine wp_loop_rounds 1 ?_
  rw [rounds_succ]
  go_wp2
  go_ret
  exact ⟨rfl, hlt1, hbw1⟩
set_option maxHeartbeats 3200000 in
theorem eqItemS_row (w : World) (b off cap b' off' cap' : Nat) (ns : List ItemV) (hs : SmallItemS ns) (hc : ItemAt w b off ns) (hc' : ItemAt w b' off' ns) (hb : b < w.heap.size) (hb' : b' < w.heap.size) :
    Calls Tryz.prog 76 #[.slice (some ⟨b, off, none⟩) ns.length cap, .slice (some ⟨b', off', none⟩) ns.length cap'] w fun e w' => e = .returned (.bool true) ∧ Below w.heap.size w w' := by
  have HS := hide hs.2
  have hl := hs.1
  have HC := hide hc
  have HC' := hide hc'
  clear hs hc hc'
  go_enter Tryz.func76, Tryz.ntmps76
  go_wp2_with fail
  go_loopw [5] (fun i wr => ∃ (k : Nat), k ≤ ns.length ∧ i = .int .i64 k ∧ Hid (Below w.heap.size w wr)) (fun i _ => ns.length - (intOf i).toNat)
  case atStart => exact ⟨0, Nat.zero_le _, rfl, Below.refl _ _⟩
  case round =>
    obtain ⟨k, hk, rfl, HB⟩ := hrel
    by_cases hlt : k < ns.length
    · obtain ⟨c0, v, c1, hv⟩ := (unhide HC).up hb (unhide HB) k hlt
      obtain ⟨d0, v', d1, hv'⟩ := (unhide HC').up hb' (unhide HB) k hlt
      have HV := hide (fun W (bW : Below wr.heap.size wr W) => eqItem_any ns[k].a0 v v' ns[k].a1 W (unhide HS _ (List.getElem_mem hlt)).2 (hv.up bW) (hv'.up bW))
      obtain ⟨va, vn, vc, rfl⟩ := hv.form
      obtain ⟨va', vn', vc', rfl⟩ := hv'.form
      clear hv hv'
      generalize ns[k].a0 = z0 at *
      generalize ns[k].a1 = ms at *
      go_wp2_with fail
      go_region_with (go_at_call 41; refine (unhide HV _ ((Below.refl _ _).drew)).mono ?_; rintro e w2 ⟨rfl, hb2⟩)
      all_goals
        have hb3 := hide ((unhide HB).trans (Below.mono (((Below.refl wr.heap.size wr).drew).trans hb2) (unhide HB).size))
        clear c0 c1 d0 d1
        go_wp2_with fail
        go_roundw
        case rel => exact ⟨k + 1, by omega, by go_num, hb3⟩
        case measure => simp [intOf]; omega
    · go_wp2_with fail
      go_ret
      exact ⟨rfl, unhide HB⟩
theorem eqItemS_kit (ns : List ItemV) (v v' : Value) (w : World) (hs : SmallItemS ns) (h : ItemSRd w v ns) (h' : ItemSRd w v' ns) :
    Calls Tryz.prog 76 #[v, v'] w fun e w' => e = .returned (.bool true) ∧ Below w.heap.size w w' := by
  have none : ∀ a a' c c', Calls Tryz.prog 76 #[.slice a 0 c, .slice a' 0 c'] w fun e w' => e = .returned (.bool true) ∧ Below w.heap.size w w' := by
    intro a a' c c'
    go_enter Tryz.func76, Tryz.ntmps76
    go_wp2
    refine wp_loop_rounds 1 ?_
    rw [rounds_succ]
    go_wp2
    go_ret
    exact ⟨rfl, Below.refl _ _⟩
  obtain ⟨a, c, rfl, h⟩ := h
  obtain ⟨a', c', rfl, h'⟩ := h'
  rcases h with rfl | ⟨b, off, rfl, hb, hc⟩
  · exact none _ _ _ _
  · rcases h' with rfl | ⟨b', off', rfl, hb', hc'⟩
    · exact none _ _ _ _
    · exact eqItemS_row w b off c b' off' c' ns hs hc hc' hb hb'
end Go.Proofs.YtknkdbfgfcgkiaaGreatDoor

set_option linter.unusedVariables false
namespace Go.Proofs.YtknkdbfgfcgkiaaGreatDoor
open Go.RowKit Go.Maps Go.Deep

/-- they lie one behind the other; each one's marks lie in blocks of their own, which are not the row's -/
def ItemOwnAt (w : World) (b off : Nat) (ns : List ItemV) (G : Nat → List Nat) : Prop :=
  ∀ i (h : i < ns.length), w.cell? ⟨b, off + i * 2, none⟩ = some (.int .i64 ns[i].a0) ∧ b ∉ G i ∧ ∃ v, w.cell? ⟨b, off + i * 2 + 1, none⟩ = some v ∧ MarkSOwn (G i) w v ns[i].a1
def ApartG (G : Nat → List Nat) (n : Nat) : Prop := ∀ i j, i < n → j < n → i ≠ j → ∀ k ∈ G i, k ∉ G j
/-- a row of items in the blocks S -/
structure ItemRowOwn (S : List Nat) (w : World) (b off : Nat) (ns : List ItemV) (G : Nat → List Nat) : Prop where
  mem : b ∈ S
  sub : ∀ i, i < ns.length → ∀ k ∈ G i, k ∈ S
  fz : ∀ i, i < ns.length * 2 → w.frozen? ⟨b, off + i, none⟩ = false
  apart : ApartG G ns.length
  at' : ItemOwnAt w b off ns G
def ItemSFull (S : List Nat) (w : World) (v : Value) (ns : List ItemV) : Prop :=
  ∃ a c, v = .slice a ns.length c ∧ ns.length ≤ c ∧ (∀ k ∈ S, k < w.heap.size) ∧ (ns = [] ∨ ∃ b off G, a = some ⟨b, off, none⟩ ∧ ItemRowOwn S w b off ns G)
theorem ItemOwnAt.rd {w : World} {b off : Nat} {ns : List ItemV} {G : Nat → List Nat} (h : ItemOwnAt w b off ns G) : ItemAt w b off ns := by
  intro i hi
  obtain ⟨c0, _, v, c1, hv⟩ := h i hi
  exact ⟨c0, v, c1, hv.rd⟩
theorem ItemSFull.rd {S : List Nat} {w : World} {v : Value} {ns : List ItemV} (h : ItemSFull S w v ns) : ItemSRd w v ns := by
  obtain ⟨a, c, rfl, _, hl, h⟩ := h
  rcases h with h | ⟨b, off, G, rfl, h⟩
  · exact ⟨a, c, rfl, .inl h⟩
  · exact ⟨_, c, rfl, .inr ⟨b, off, rfl, hl b h.mem, h.at'.rd⟩⟩
theorem ItemSFull.lt {S : List Nat} {w : World} {v : Value} {ns : List ItemV} (h : ItemSFull S w v ns) : ∀ k ∈ S, k < w.heap.size := by
  obtain ⟨a, c, rfl, _, hl, h⟩ := h
  exact hl
theorem ItemSFull.turn {S S' : List Nat} {w w' : World} {v : Value} {ns : List ItemV} (h : ItemSFull S w v ns) (ht : Turn S' w w') (hS : ∀ k ∈ S, k ∉ S') : ItemSFull S w' v ns := by
  obtain ⟨a, c, rfl, hc, hl, h⟩ := h
  refine ⟨a, c, rfl, hc, fun k hk => Nat.lt_of_lt_of_le (hl k hk) ht.size, ?_⟩
  rcases h with h | ⟨b, off, G, rfl, h⟩
  · exact .inl h
  · have hb := hl b h.mem
    have hn := hS b h.mem
    refine .inr ⟨b, off, G, rfl, h.mem, h.sub, fun i hi => (ht.frozen hb hn).trans (h.fz i hi), h.apart, ?_⟩
    intro i hi
    obtain ⟨c0, hg, v, c1, hv⟩ := h.at' i hi
    exact ⟨(ht.cell hb hn).trans c0, hg, v, (ht.cell hb hn).trans c1, hv.turn ht (fun k hk => hS k (h.sub i hi k hk))⟩
theorem ItemSFull.up {S : List Nat} {w w' : World} {v : Value} {ns : List ItemV} (h : ItemSFull S w v ns) (hb : Below w.heap.size w w') : ItemSFull S w' v ns := h.turn (Turn.of_below (S := []) hb) (by simp)
/-- the first k of a row's cells are these; each one's marks lie in a block of their own, one behind the other, behind the row's and ahead of N -/
def ItemToF (B N : Nat) (w : World) (xs : List Value) (ns : List ItemV) (k : Nat) : Prop :=
  ∃ G : Nat → Nat, (∀ i (h : i < ns.length), i < k → xs[i * 2]? = some (.int .i64 ns[i].a0) ∧ B < G i ∧ ∃ v, xs[i * 2 + 1]? = some v ∧ MarkSOwn [G i] w v ns[i].a1) ∧ (∀ i j, i < j → j < k → G i < G j) ∧ ∀ i, i < k → G i < N
theorem ItemToF.turn {B N : Nat} {w w' : World} {xs : List Value} {ns : List ItemV} {k : Nat} (h : ItemToF B N w xs ns k) (ht : Turn [B] w w') : ItemToF B N w' xs ns k := by
  obtain ⟨G, h, hm⟩ := h
  refine ⟨G, fun i hi hk => ?_, hm⟩
  obtain ⟨c0, hg, v, c1, hv⟩ := h i hi hk
  exact ⟨c0, hg, v, c1, hv.turn ht (fun j hj hm => by simp at hj hm; omega)⟩
theorem itemToF_step {B N N' : Nat} {w : World} {xs : List Value} {ns : List ItemV} {k g : Nat} {v : Value} (hk : k < ns.length) (hx : xs.length = ns.length * 2) (h : ItemToF B N w xs ns k) (hg : B < g) (hN : N ≤ g) (hN' : g < N') (hv : MarkSOwn [g] w v ns[k].a1) :
    ItemToF B N' w ((xs.set (k * 2) (.int .i64 ns[k].a0)).set (k * 2 + 1) v) ns (k + 1) := by
  obtain ⟨G, h, hm, hn⟩ := h
  refine ⟨fun i => if i = k then g else G i, fun i hi hik => ?_, fun i j hij hj => ?_, fun i hi => ?_⟩
  · by_cases e : i = k
    · subst e
      simp only [if_true]
      refine ⟨?_, hg, v, ?_, hv⟩
      · simp [List.getElem?_set, hx]; omega
      · simp [List.getElem?_set, hx]; omega
    · obtain ⟨c0, hg', v', c1, hv'⟩ := h i hi (by omega)
      simp only [if_neg e]
      refine ⟨?_, hg', v', ?_, hv'⟩ <;> (repeat rw [List.getElem?_set_ne (by omega)]) <;> assumption
  · have e1 : ¬ i = k := by omega
    simp only [if_neg e1]
    by_cases e2 : j = k
    · rw [if_pos e2]; have := hn i (by omega); omega
    · rw [if_neg e2]; exact hm i j hij (by omega)
  · by_cases e : i = k
    · simp only [if_pos e]; exact hN'
    · simp only [if_neg e]; have := hn i (by omega); omega
theorem itemFullOfRow {w : World} {base : Nat} {e : TypeId} {g n : Nat} {xs : List Value} {ns : List ItemV} (h : w.ownsRow base e 2 (.slice (some ⟨g, 0, none⟩) n n) n xs) (hn : ns.length = n) (hg : g < w.heap.size) (hfz : ∀ i, i < n * 2 → w.frozen? ⟨g, i, none⟩ = false) {N : Nat} (ht : ItemToF g N w xs ns n) : ∃ S, ItemSFull S w (.slice (some ⟨g, 0, none⟩) n n) ns ∧ ∀ k ∈ S, g ≤ k := by
  subst hn
  obtain ⟨G, ht, hm, _⟩ := ht
  refine ⟨g :: (List.range ns.length).map G, ⟨_, _, rfl, Nat.le_refl _, ?_, ?_⟩, ?_⟩
  · intro k hk
    simp at hk
    rcases hk with rfl | ⟨i, hi, rfl⟩
    · exact hg
    · obtain ⟨_, _, v, _, hv⟩ := ht i hi hi
      exact hv.lt _ (by simp)
  · refine .inr ⟨g, 0, fun i => [G i], rfl, by simp, ?_, ?_, ?_, ?_⟩
    · intro i hi k hk
      simp at hk ⊢
      exact .inr ⟨i, hi, hk.symm⟩
    · intro i hi
      rw [Nat.zero_add]
      exact hfz i hi
    · intro i j hi hj hij k hk hk'
      simp at hk hk'
      rcases Nat.lt_or_gt_of_ne hij with hl | hl
      · have := hm i j hl hj; omega
      · have := hm j i hl hi; omega
    · intro i hi
      obtain ⟨c0, hB, v, c1, hv⟩ := ht i hi hi
      refine ⟨?_, by simp; omega, v, ?_, hv⟩
      all_goals
        rw [Nat.zero_add, h.cellAt _ (by omega)]
        assumption
  · intro k hk
    simp at hk
    rcases hk with rfl | ⟨i, hi, rfl⟩
    · exact Nat.le_refl _
    · exact Nat.le_of_lt (ht i hi hi).2.1
theorem rowFrozen {w : World} {base : Nat} {e : TypeId} {g n cap : Nat} {xs : List Value} (h : w.ownsRow base e 2 (.slice (some ⟨g, 0, none⟩) n cap) n xs) : ∀ i, i < n * 2 → w.frozen? ⟨g, i, none⟩ = false := by
  intro i hi
  obtain ⟨v0, v1, d0, d1, f0, f1⟩ := markCells h (i / 2) (by omega)
  rcases Nat.mod_two_eq_zero_or_one i with e | e
  · have : i / 2 * 2 = i := by omega
    rw [this] at f0
    exact f0
  · have : i / 2 * 2 + 1 = i := by omega
    rw [this] at f1
    exact f1
set_option maxHeartbeats 3200000 in
theorem toItemF_row (w : World) (b off cap : Nat) (ns : List ItemV) (hs : SmallItemS ns) (hc : ItemAt w b off ns) (hb : b < w.heap.size) :
    Calls Tryz.prog 63 #[.slice (some ⟨b, off, none⟩) ns.length cap] w fun e w' => e = .returned (.slice (some ⟨w.heap.size, 0, none⟩) ns.length ns.length) ∧ Hid (∃ S, ItemSFull S w' (.slice (some ⟨w.heap.size, 0, none⟩) ns.length ns.length) ns ∧ ∀ k ∈ S, w.heap.size ≤ k) ∧ Below w.heap.size w w' := by
  have HS := hide hs.2
  have hl := hs.1
  have HC := hide hc
  clear hs hc
  obtain ⟨i0, hi, hz0, hz1, hz2⟩ := info_parts1 infoItem
  go_enter Tryz.func63, Tryz.ntmps63
  go_wp2_with (first
    | (at_make; refine wpList_make_full _ rfl _ _ 60 rfl w.heap.size 44 i0 _ 2 Tryz.underlying60 hi hz0 hz1 _ _ _ _ ns.length rfl rfl rfl rfl (by rw [hz2]; omega) (by unfold maxLen; omega) (Nat.le_refl _) ?_; intro w1 hown hgrow)
    | go_in)
  clear hz0 hz1 hz2 hi
  have hlt1 : w.heap.size < w1.heap.size := by
    rcases hown.2 with ⟨h', _⟩ | ⟨g', cap', cur, h', _, hg, _⟩
    · simp at h'
    · simp only [Value.slice.injEq, Option.some.injEq, Addr.mk.injEq, and_true, true_and] at h'
      obtain ⟨rfl, rfl⟩ := h'
      exact (Array.getElem?_eq_some_iff.1 hg).1
  have hbw1 : Below w.heap.size w w1 := (Below.refl _ _).grown hgrow (Nat.le_refl _) (fun k hk => by cases hk)
  go_loopw [4] (fun i wr => ∃ (k : Nat) (xs : List Value), k ≤ ns.length ∧ i = .int .i64 k ∧ wr.ownsRow w.heap.size 44 2 (.slice (some ⟨w.heap.size, 0, none⟩) ns.length ns.length) ns.length xs ∧ Hid (ItemToF w.heap.size wr.heap.size wr xs ns k) ∧ w.heap.size < wr.heap.size ∧ Below w.heap.size w wr) (fun i _ => ns.length - (intOf i).toNat)
  case atStart => exact ⟨0, _, Nat.zero_le _, rfl, hown, hide ⟨fun _ => 0, fun j _ hj => absurd hj (Nat.not_lt_zero _), fun i j _ hj => absurd hj (Nat.not_lt_zero _), fun i hi => absurd hi (Nat.not_lt_zero _)⟩, hlt1, hbw1⟩
  case round =>
    obtain ⟨k, xs, hk, rfl, hrow, HT, hsz, hbel⟩ := hrel
    by_cases hlt : k < ns.length
    · obtain ⟨c0, v, c1, hv⟩ := (unhide HC).up hb hbel k hlt
      have HV := hide (fun W (bW : Below wr.heap.size wr W) => toItem_any ns[k].a0 v ns[k].a1 W (unhide HS _ (List.getElem_mem hlt)).2 (hv.up bW))
      have HST := hide (fun (W : World) (N N' g : Nat) (v : Value) (h : ItemToF w.heap.size N W xs ns k) (hg : w.heap.size < g) (hN : N ≤ g) (hN' : g < N') (hv : MarkSOwn [g] W v ns[k].a1) => itemToF_step (k := k) hlt hrow.1 h hg hN hN' hv)
      obtain ⟨va, vn, vc, rfl⟩ := hv.form
      clear hv
      generalize ns[k].a0 = z0 at *
      generalize ns[k].a1 = ms at *
      go_wp2_with fail
      refine (unhide HV _ (by go_grown)).mono ?_
      rintro e w2 ⟨g, rfl, hg, hm, hb2⟩
      have hrow2 := ownsRowMark_below hrow hb2 hsz
      obtain ⟨v0, v1, d0, d1, f0, f1⟩ := markCells hrow2 k hlt
      have hb3 : Below w.heap.size w w2 := hbel.trans (hb2.mono (Nat.le_of_lt hsz))
      have hs2 : w.heap.size < w2.heap.size := Nat.lt_of_lt_of_le hsz hb2.size
      have hg2 : g < w2.heap.size := hm.lt g (by simp)
      have HT2 := hide ((unhide HT).turn (Turn.of_below (S := [w.heap.size]) hb2))
      have HM := hide hm
      clear hm hb2 c0 c1
      go_wp2_with fail
      have hrow3 := markStore hrow2 k (.int .i64 z0) (.slice (some ⟨g, 0, none⟩) ms.length ms.length)
      have TT := hide (show Turn [w.heap.size] w2 ((w2.setCell ⟨w.heap.size, k * 2, none⟩ (.int .i64 z0)).setCell ⟨w.heap.size, k * 2 + 1, none⟩ (.slice (some ⟨g, 0, none⟩) ms.length ms.length)) from ((Turn.refl _ _).setCell (by simp) _ _).setCell (by simp) _ _)
      have HT3 := hide (unhide HST _ _ ((w2.setCell ⟨w.heap.size, k * 2, none⟩ (.int .i64 z0)).setCell ⟨w.heap.size, k * 2 + 1, none⟩ (.slice (some ⟨g, 0, none⟩) ms.length ms.length)).heap.size g _ ((unhide HT2).turn (unhide TT)) (by omega) hg (by simpa using hg2) ((unhide HM).turn (unhide TT) (fun j hj hm => by simp at hj hm; omega)))
      clear d0 d1 f0 f1
      go_roundw
      case rel =>
        exact ⟨k + 1, _, by omega, by go_num, hrow3, HT3, by simpa using hs2, ((hb3.setCell (Nat.le_refl _) _).setCell (Nat.le_refl _) _)⟩
      case measure => simp [intOf]; omega
    · go_wp2_with fail
      go_ret
      have e : k = ns.length := by omega
      subst e
      obtain ⟨S, h1, h2⟩ := itemFullOfRow hrow rfl hsz (rowFrozen hrow) (unhide HT)
      exact ⟨rfl, hide ⟨S, h1, h2⟩, hbel⟩
theorem toItemF_kit (ns : List ItemV) (v : Value) (w : World) (hs : SmallItemS ns) (h : ItemSRd w v ns) :
    Calls Tryz.prog 63 #[v] w fun e w' => ∃ v S, e = .returned v ∧ Hid (ItemSFull S w' v ns) ∧ Hid (∀ k ∈ S, w.heap.size ≤ k) ∧ Below w.heap.size w w' := by
  obtain ⟨a, c, rfl, h⟩ := h
  rcases h with rfl | ⟨b, off, rfl, hb, hc⟩
  · refine (toItemS_none w a c).mono ?_
    rintro e w' ⟨rfl, h2, h3⟩
    exact ⟨_, [], rfl, hide ⟨_, 0, rfl, Nat.le_refl _, by simp, .inl rfl⟩, hide (by simp), h3⟩
  · refine (toItemF_row w b off c ns hs hc hb).mono ?_
    rintro e w' ⟨rfl, h1, h3⟩
    obtain ⟨S, h1, h2⟩ := unhide h1
    exact ⟨_, S, rfl, hide h1, hide h2, h3⟩
end Go.Proofs.YtknkdbfgfcgkiaaGreatDoor
