/-
  Lists of items copied and compared.
-/
import Derived.Test.YtpiapgjiaeddjaaMerged19
set_option linter.unusedVariables false
namespace Go.Proofs.Ytpiapgjiaeddjaa
open Go.RowKit Go.Maps Go.Deep

theorem infoItem : (Try.prog.info? 55).map (fun i => (i.zero, i.size, i.bytes)) = some (some (.agg #[.int .i64 0, .slice none 0 0]), 2, 32) := by kernel_rfl
/-- the first k of a row's cells are these; each one's marks lie in a block of their own, which is not the row's -/
def ItemTo (B : Nat) (w : World) (xs : List Value) (ns : List ItemV) (k : Nat) : Prop :=
  ∀ i (h : i < ns.length), i < k → xs[i * 2]? = some (.int .i64 ns[i].a0) ∧ ∃ g v, xs[i * 2 + 1]? = some v ∧ B < g ∧ MarkSOwn [g] w v ns[i].a1
theorem ItemTo.turn {B : Nat} {w w' : World} {xs : List Value} {ns : List ItemV} {k : Nat} (h : ItemTo B w xs ns k) (ht : Turn [B] w w') : ItemTo B w' xs ns k := by
  intro i hi hk
  obtain ⟨c0, g, v, c1, hg, hv⟩ := h i hi hk
  exact ⟨c0, g, v, c1, hg, hv.turn ht (fun j hj hm => by simp at hj hm; omega)⟩
theorem itemTo_step {B : Nat} {w : World} {xs : List Value} {ns : List ItemV} {k g : Nat} {v : Value} (hk : k < ns.length) (hx : xs.length = ns.length * 2) (h : ItemTo B w xs ns k) (hg : B < g) (hv : MarkSOwn [g] w v ns[k].a1) :
    ItemTo B w ((xs.set (k * 2) (.int .i64 ns[k].a0)).set (k * 2 + 1) v) ns (k + 1) := by
  intro i hi hik
  by_cases e : i = k
  · subst e
    refine ⟨?_, g, v, ?_, hg, hv⟩
    · simp [List.getElem?_set, hx]; omega
    · simp [List.getElem?_set, hx]; omega
  · obtain ⟨c0, g', v', c1, hg', hv'⟩ := h i hi (by omega)
    refine ⟨?_, g', v', ?_, hg', hv'⟩ <;> (repeat rw [List.getElem?_set_ne (by omega)]) <;> assumption
theorem itemOfRow {w : World} {base : Nat} {e : TypeId} {g n cap B : Nat} {xs : List Value} {ns : List ItemV} (h : w.ownsRow base e 2 (.slice (some ⟨g, 0, none⟩) n cap) n xs) (hn : ns.length = n) (ht : ItemTo B w xs ns n) : ItemAt w g 0 ns := by
  intro i hi
  obtain ⟨c0, g', v, c1, _, hv⟩ := ht i hi (by omega)
  refine ⟨?_, v, ?_, hv.rd⟩
  all_goals
    rw [Nat.zero_add, h.cellAt _ (by omega)]
    assumption
set_option maxHeartbeats 3200000 in
theorem toItemS_row (w : World) (b off cap : Nat) (ns : List ItemV) (hs : SmallItemS ns) (hc : ItemAt w b off ns) (hb : b < w.heap.size) :
    Calls Try.prog 16 #[.slice (some ⟨b, off, none⟩) ns.length cap] w fun e w' => e = .returned (.slice (some ⟨w.heap.size, 0, none⟩) ns.length ns.length) ∧ ItemAt w' w.heap.size 0 ns ∧ w.heap.size < w'.heap.size ∧ Below w.heap.size w w' := by
  have HS := hide hs.2
  have hl := hs.1
  have HC := hide hc
  clear hs hc
  obtain ⟨i0, hi, hz0, hz1, hz2⟩ := info_parts1 infoItem
  go_enter Try.func16, Try.ntmps16
  go_wp2_with (first
    | (at_make; refine wpList_make_full _ rfl _ _ 39 rfl w.heap.size 55 i0 _ 2 Try.underlying39 hi hz0 hz1 _ _ _ _ ns.length rfl rfl rfl rfl (by rw [hz2]; omega) (by unfold maxLen; omega) (Nat.le_refl _) ?_; intro w1 hown hgrow)
    | go_in)
  clear hz0 hz1 hz2 hi
  have hlt1 : w.heap.size < w1.heap.size := by
    rcases hown.2 with ⟨h', _⟩ | ⟨g', cap', cur, h', _, hg, _⟩
    · simp at h'
    · simp only [Value.slice.injEq, Option.some.injEq, Addr.mk.injEq, and_true, true_and] at h'
      obtain ⟨rfl, rfl⟩ := h'
      exact (Array.getElem?_eq_some_iff.1 hg).1
  have hbw1 : Below w.heap.size w w1 := (Below.refl _ _).grown hgrow (Nat.le_refl _) (fun k hk => by cases hk)
  go_loopw [4] (fun i wr => ∃ (k : Nat) (xs : List Value), k ≤ ns.length ∧ i = .int .i64 k ∧ wr.ownsRow w.heap.size 55 2 (.slice (some ⟨w.heap.size, 0, none⟩) ns.length ns.length) ns.length xs ∧ Hid (ItemTo w.heap.size wr xs ns k) ∧ w.heap.size < wr.heap.size ∧ Below w.heap.size w wr) (fun i _ => ns.length - (intOf i).toNat)
  case atStart => exact ⟨0, _, Nat.zero_le _, rfl, hown, hide (fun j _ hj => absurd hj (Nat.not_lt_zero _)), hlt1, hbw1⟩
  case round =>
    obtain ⟨k, xs, hk, rfl, hrow, HT, hsz, hbel⟩ := hrel
    by_cases hlt : k < ns.length
    · obtain ⟨c0, v, c1, hv⟩ := (unhide HC).up hb hbel k hlt
      have HV := hide (fun W (bW : Below wr.heap.size wr W) => toItem_any ns[k].a0 v ns[k].a1 W (unhide HS _ (List.getElem_mem hlt)).2 (hv.up bW))
      have HST := hide (fun (W : World) (g : Nat) (v : Value) (hg : w.heap.size < g) (h : ItemTo w.heap.size W xs ns k) (hv : MarkSOwn [g] W v ns[k].a1) => itemTo_step (k := k) hlt hrow.1 h hg hv)
      obtain ⟨va, vn, vc, rfl⟩ := hv.form
      clear hv
      generalize ns[k].a0 = z0 at *
      generalize ns[k].a1 = ms at *
      go_wp2_with fail
      refine (unhide HV _ (by go_grown)).mono ?_
      rintro e w2 ⟨g, rfl, hg, hm, hb2⟩
      have hrow2 := ownsRowMark_below hrow hb2 hsz
      obtain ⟨v0, v1, d0, d1, f0, f1⟩ := markCells hrow2 k hlt
      have hb3 : Below w.heap.size w w2 := hbel.trans (hb2.mono (Nat.le_of_lt hsz))
      have hs2 : w.heap.size < w2.heap.size := Nat.lt_of_lt_of_le hsz hb2.size
      have HT2 := hide ((unhide HT).turn (Turn.of_below (S := [w.heap.size]) hb2))
      have HM := hide hm
      clear hm hb2 c0 c1
      go_wp2_with fail
      have hrow3 := markStore hrow2 k (.int .i64 z0) (.slice (some ⟨g, 0, none⟩) ms.length ms.length)
      have TT := hide (show Turn [w.heap.size] w2 ((w2.setCell ⟨w.heap.size, k * 2, none⟩ (.int .i64 z0)).setCell ⟨w.heap.size, k * 2 + 1, none⟩ (.slice (some ⟨g, 0, none⟩) ms.length ms.length)) from ((Turn.refl _ _).setCell (by simp) _ _).setCell (by simp) _ _)
      have HT3 := hide (unhide HST _ g _ (by omega) ((unhide HT2).turn (unhide TT)) ((unhide HM).turn (unhide TT) (fun j hj hm => by simp at hj hm; omega)))
      clear d0 d1 f0 f1
      go_roundw
      case rel =>
        exact ⟨k + 1, _, by omega, by go_num, hrow3, HT3, by simpa using hs2, ((hb3.setCell (Nat.le_refl _) _).setCell (Nat.le_refl _) _)⟩
      case measure => simp [intOf]; omega
    · go_wp2_with fail
      go_ret
      have e : k = ns.length := by omega
      subst e
      exact ⟨rfl, itemOfRow hrow rfl (unhide HT), hsz, hbel⟩
set_option maxHeartbeats 1600000 in
theorem toItemS_none (w : World) (a : Option Addr) (cap : Nat) :
    Calls Try.prog 16 #[.slice a 0 cap] w fun e w' => e = .returned (.slice (some ⟨w.heap.size, 0, none⟩) 0 0) ∧ w.heap.size < w'.heap.size ∧ Below w.heap.size w w' := by
  obtain ⟨i0, hi, hz0, hz1, hz2⟩ := info_parts1 infoItem
  go_enter Try.func16, Try.ntmps16
  go_wp2_with (first
    | (at_make; refine wpList_make_full _ rfl _ _ 39 rfl w.heap.size 55 i0 _ 2 Try.underlying39 hi hz0 hz1 _ _ _ _ 0 rfl rfl rfl rfl (by rw [hz2]; omega) (by unfold maxLen; omega) (Nat.le_refl _) ?_; intro w1 hown hgrow)
    | go_in)
  have hlt1 : w.heap.size < w1.heap.size := by
    rcases hown.2 with ⟨h', _⟩ | ⟨g', cap', cur, h', _, hg, _⟩
    · simp at h'
    · simp only [Value.slice.injEq, Option.some.injEq, Addr.mk.injEq, and_true, true_and] at h'
      obtain ⟨rfl, rfl⟩ := h'
      exact (Array.getElem?_eq_some_iff.1 hg).1
  have hbw1 : Below w.heap.size w w1 := (Below.refl _ _).grown hgrow (Nat.le_refl _) (fun k hk => by cases hk)
  clear hown hgrow
  refine wp_loop_rounds 1 ?_
  rw [rounds_succ]
  go_wp2
  go_ret
  exact ⟨rfl, hlt1, hbw1⟩
/-- for laws that mark nothing: what was copied may be read -/
def ItemSOwn (S : List Nat) (w : World) (v : Value) (ns : List ItemV) : Prop := S = [] ∧ ItemSRd w v ns
theorem ItemSOwn.rd {S : List Nat} {w : World} {v : Value} {ns : List ItemV} (h : ItemSOwn S w v ns) : ItemSRd w v ns := h.2
theorem ItemSOwn.up {S : List Nat} {w w' : World} {v : Value} {ns : List ItemV} (h : ItemSOwn S w v ns) (hb : Below w.heap.size w w') : ItemSOwn S w' v ns := ⟨h.1, h.2.up hb⟩
theorem ItemSOwn.lt {S : List Nat} {w : World} {v : Value} {ns : List ItemV} (h : ItemSOwn S w v ns) : ∀ k ∈ S, k < w.heap.size := by rw [h.1]; simp
def nItemS (ns : List ItemV) : Nat := ns.length
theorem nItemS_le {ns : List ItemV} (h : SmallItemS ns) : nItemS ns ≤ 100000000 := by have := h.1; unfold nItemS; omega
theorem toItemS_kit (ns : List ItemV) (v : Value) (w : World) (hs : SmallItemS ns) (h : ItemSRd w v ns) :
    Calls Try.prog 16 #[v] w fun e w' => ∃ v S, e = .returned v ∧ Hid (ItemSOwn S w' v ns) ∧ Hid (∀ k ∈ S, w.heap.size ≤ k) ∧ Below w.heap.size w w' := by
  obtain ⟨a, c, rfl, h⟩ := h
  rcases h with rfl | ⟨b, off, rfl, hb, hc⟩
  · refine (toItemS_none w a c).mono ?_
    rintro e w' ⟨rfl, h2, h3⟩
    exact ⟨_, [], rfl, hide ⟨rfl, _, 0, rfl, .inl rfl⟩, hide (by simp), h3⟩
  · refine (toItemS_row w b off c ns hs hc hb).mono ?_
    rintro e w' ⟨rfl, h1, h2, h3⟩
    exact ⟨_, [], rfl, hide ⟨rfl, _, _, rfl, .inr ⟨_, _, rfl, h2, h1⟩⟩, hide (by simp), h3⟩
set_option maxHeartbeats 3200000 in
theorem eqItemS_row (w : World) (b off cap b' off' cap' : Nat) (ns : List ItemV) (hs : SmallItemS ns) (hc : ItemAt w b off ns) (hc' : ItemAt w b' off' ns) (hb : b < w.heap.size) (hb' : b' < w.heap.size) :
    Calls Try.prog 22 #[.slice (some ⟨b, off, none⟩) ns.length cap, .slice (some ⟨b', off', none⟩) ns.length cap'] w fun e w' => e = .returned (.bool true) ∧ Below w.heap.size w w' := by
  have HS := hide hs.2
  have hl := hs.1
  have HC := hide hc
  have HC' := hide hc'
  clear hs hc hc'
  go_enter Try.func22, Try.ntmps22
  go_wp2_with fail
  go_loopw [5] (fun i wr => ∃ (k : Nat), k ≤ ns.length ∧ i = .int .i64 k ∧ Hid (Below w.heap.size w wr)) (fun i _ => ns.length - (intOf i).toNat)
  case atStart => exact ⟨0, Nat.zero_le _, rfl, Below.refl _ _⟩
  case round =>
    obtain ⟨k, hk, rfl, HB⟩ := hrel
    by_cases hlt : k < ns.length
    · obtain ⟨c0, v, c1, hv⟩ := (unhide HC).up hb (unhide HB) k hlt
      obtain ⟨d0, v', d1, hv'⟩ := (unhide HC').up hb' (unhide HB) k hlt
      have HV := hide (fun W (bW : Below wr.heap.size wr W) => eqItem_any ns[k].a0 v v' ns[k].a1 W (unhide HS _ (List.getElem_mem hlt)).2 (hv.up bW) (hv'.up bW))
      obtain ⟨va, vn, vc, rfl⟩ := hv.form
      obtain ⟨va', vn', vc', rfl⟩ := hv'.form
      clear hv hv'
      generalize ns[k].a0 = z0 at *
      generalize ns[k].a1 = ms at *
      go_wp2_with fail
      go_region_with (go_at_call 35; refine (unhide HV _ ((Below.refl _ _).drew)).mono ?_; rintro e w2 ⟨rfl, hb2⟩)
      all_goals
        have hb3 := hide ((unhide HB).trans (Below.mono (((Below.refl wr.heap.size wr).drew).trans hb2) (unhide HB).size))
        clear c0 c1 d0 d1
        go_wp2_with fail
        go_roundw
        case rel => exact ⟨k + 1, by omega, by go_num, hb3⟩
        case measure => simp [intOf]; omega
    · go_wp2_with fail
      go_ret
      exact ⟨rfl, unhide HB⟩
theorem eqItemS_kit (ns : List ItemV) (v v' : Value) (w : World) (hs : SmallItemS ns) (h : ItemSRd w v ns) (h' : ItemSRd w v' ns) :
    Calls Try.prog 22 #[v, v'] w fun e w' => e = .returned (.bool true) ∧ Below w.heap.size w w' := by
  have none : ∀ a a' c c', Calls Try.prog 22 #[.slice a 0 c, .slice a' 0 c'] w fun e w' => e = .returned (.bool true) ∧ Below w.heap.size w w' := by
    intro a a' c c'
    go_enter Try.func22, Try.ntmps22
    go_wp2
    refine wp_loop_rounds 1 ?_
    rw [rounds_succ]
    go_wp2
    go_ret
    exact ⟨rfl, Below.refl _ _⟩
  obtain ⟨a, c, rfl, h⟩ := h
  obtain ⟨a', c', rfl, h'⟩ := h'
  rcases h with rfl | ⟨b, off, rfl, hb, hc⟩
  · exact none _ _ _ _
  · rcases h' with rfl | ⟨b', off', rfl, hb', hc'⟩
    · exact none _ _ _ _
    · exact eqItemS_row w b off c b' off' c' ns hs hc hc' hb hb'
end Go.Proofs.Ytpiapgjiaeddjaa
