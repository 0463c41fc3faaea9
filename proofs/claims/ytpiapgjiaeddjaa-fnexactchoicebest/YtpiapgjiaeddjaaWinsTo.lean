/-
  Lists of windows copied and compared.
-/
import Derived.Test.YtpiapgjiaeddjaaMerged14
import Derived.Test.YtpiapgjiaeddjaaItemFull
set_option linter.unusedVariables false
namespace Go.Proofs.Ytpiapgjiaeddjaa
open Go.RowKit Go.Maps Go.Deep

theorem infoItemS : (Try.prog.info? 39).map (fun i => (i.zero, i.size, i.bytes)) = some (some (.slice none 0 0), 1, 24) := by kernel_rfl
/-- the first k of a row's cells are these; each may be read, and hangs on no cell of the row's block, or of a block ahead of it -/
def WinsTo (B : Nat) (w : World) (xs : List Value) (ns : List (List ItemV)) (k : Nat) : Prop :=
  ∀ i (h : i < ns.length), i < k → ∃ v, xs[i]? = some v ∧ ∀ W S, (∀ j ∈ S, j ≤ B) → Turn S w W → ItemSRd W v ns[i]
theorem WinsTo.turn {B : Nat} {w w' : World} {xs : List Value} {ns : List (List ItemV)} {k : Nat} (h : WinsTo B w xs ns k) (ht : Turn [B] w w') : WinsTo B w' xs ns k := by
  intro i hi hk
  obtain ⟨v, c, hv⟩ := h i hi hk
  refine ⟨v, c, fun W S hS hW => hv W (B :: S) (by simpa using hS) ?_⟩
  exact (ht.mono (fun k hk => .inl (by simp at hk; simp [hk]))).trans (hW.mono (fun k hk => .inl (by simp [hk])))
theorem winsTo_step {B : Nat} {w : World} {xs : List Value} {ns : List (List ItemV)} {k : Nat} {v : Value} (hk : k < ns.length) (hx : xs.length = ns.length) (h : WinsTo B w xs ns k) (hv : ∀ W S, (∀ j ∈ S, j ≤ B) → Turn S w W → ItemSRd W v ns[k]) :
    WinsTo B w (xs.set k v) ns (k + 1) := by
  intro i hi hik
  by_cases e : i = k
  · subst e
    exact ⟨v, List.getElem?_set_self (by omega), hv⟩
  · obtain ⟨v', c, hv'⟩ := h i hi (by omega)
    exact ⟨v', by rw [List.getElem?_set_ne (by omega)]; exact c, hv'⟩
theorem winsOfRow {w : World} {base : Nat} {e : TypeId} {g n cap B : Nat} {xs : List Value} {ns : List (List ItemV)} (h : w.ownsRow base e 1 (.slice (some ⟨g, 0, none⟩) n cap) n xs) (hn : ns.length = n) (ht : WinsTo B w xs ns n) (hg : g < w.heap.size) (hB : g = B) : ∀ W S, (∀ j ∈ S, j < B) → Turn S w W → WinsAt W g 0 ns := by
  intro W S hS hW i hi
  obtain ⟨v, c, hv⟩ := ht i hi (by omega)
  refine ⟨v, ?_, hv W S (fun j hj => Nat.le_of_lt (hS j hj)) hW⟩
  rw [Nat.zero_add, hW.cell hg (fun hm => by have := hS _ hm; omega), h.cellAt _ (by omega)]
  exact c
theorem winsRow_cell {w : World} {B g n : Nat} {T : TypeId} {xs : List Value} (h : w.ownsRow B T 1 (.slice (some ⟨g, 0, none⟩) n n) n xs) (k : Nat) (hk : k < n) : ∃ v0, w.cell? ⟨g, k, none⟩ = some v0 ∧ w.frozen? ⟨g, k, none⟩ = false := by
  have hx := h.1
  refine ⟨xs[k]'(by omega), ?_, h.frozenAt _⟩
  rw [h.cellAt _ (by omega)]
  exact List.getElem?_eq_getElem _
set_option maxHeartbeats 3200000 in
theorem toItemSS_row (w : World) (b off cap : Nat) (ns : List (List ItemV)) (hs : SmallItemSS ns) (hc : WinsAt w b off ns) (hb : b < w.heap.size) :
    Calls Try.prog 6 #[.slice (some ⟨b, off, none⟩) ns.length cap] w fun e w' => e = .returned (.slice (some ⟨w.heap.size, 0, none⟩) ns.length ns.length) ∧ Hid (∀ W S, (∀ j ∈ S, j < w.heap.size) → Turn S w' W → WinsAt W w.heap.size 0 ns) ∧ w.heap.size < w'.heap.size ∧ Below w.heap.size w w' := by
  have HS := hide hs.2
  have hl := hs.1
  have HC := hide hc
  clear hs hc
  obtain ⟨i0, hi, hz0, hz1, hz2⟩ := info_parts1 infoItemS
  go_enter Try.func6, Try.ntmps6
  go_wp2_with (first
    | (at_make; refine wpList_make_full _ rfl _ _ 27 rfl w.heap.size 39 i0 _ 1 Try.underlying27 hi hz0 hz1 _ _ _ _ ns.length rfl rfl rfl rfl (by rw [hz2]; omega) (by unfold maxLen; omega) (Nat.le_refl _) ?_; intro w1 hown hgrow)
    | go_in)
  clear hz0 hz1 hz2 hi
  have hlt1 : w.heap.size < w1.heap.size := by
    rcases hown.2 with ⟨h', _⟩ | ⟨g', cap', cur, h', _, hg, _⟩
    · simp at h'
    · simp only [Value.slice.injEq, Option.some.injEq, Addr.mk.injEq, and_true, true_and] at h'
      obtain ⟨rfl, rfl⟩ := h'
      exact (Array.getElem?_eq_some_iff.1 hg).1
  have hbw1 : Below w.heap.size w w1 := (Below.refl _ _).grown hgrow (Nat.le_refl _) (fun k hk => by cases hk)
  go_loopw [4] (fun i wr => ∃ (k : Nat) (xs : List Value), k ≤ ns.length ∧ i = .int .i64 k ∧ Hid (wr.ownsRow w.heap.size 39 1 (.slice (some ⟨w.heap.size, 0, none⟩) ns.length ns.length) ns.length xs) ∧ Hid (WinsTo w.heap.size wr xs ns k) ∧ w.heap.size < wr.heap.size ∧ Hid (Below w.heap.size w wr)) (fun i _ => ns.length - (intOf i).toNat)
  case atStart => exact ⟨0, _, Nat.zero_le _, rfl, hown, hide (fun j _ hj => absurd hj (Nat.not_lt_zero _)), hlt1, hbw1⟩
  case round =>
    obtain ⟨k, xs, hk, rfl, HR, HT, hsz, HB⟩ := hrel
    by_cases hlt : k < ns.length
    · obtain ⟨v, c0, hv⟩ := (unhide HC).up hb (unhide HB) k hlt
      have HV := hide (fun W (bW : Below wr.heap.size wr W) => toItemF_kit ns[k] v W (unhide HS _ (List.getElem_mem hlt)) (hv.up bW))
      have HST := hide (fun (W : World) (v : Value) (h : WinsTo w.heap.size W xs ns k) (hv : ∀ X S, (∀ j ∈ S, j ≤ w.heap.size) → Turn S W X → ItemSRd X v ns[k]) => winsTo_step (k := k) hlt (by simpa using (unhide HR).1) h hv)
      obtain ⟨va, vn, vc, rfl⟩ := hv.form
      clear hv
      generalize ns[k] = ms at *
      go_wp2_with fail
      refine (unhide HV _ (by go_grown)).mono ?_
      rintro e w2 ⟨v2, S, rfl, O2, L2, hb2⟩
      have R2 := hide (ownsRowMark_below (unhide HR) hb2 hsz)
      obtain ⟨v0, d0, f0⟩ := winsRow_cell (unhide R2) k hlt
      obtain ⟨fa, fn, fc, rfl⟩ := (unhide O2).rd.form
      have HS3 := hide ((unhide R2).stored k (.slice fa fn fc)).1
      have B3 := hide (show Below w.heap.size w w2 from (unhide HB).trans (hb2.mono (Nat.le_of_lt hsz)))
      have B4 := hide ((unhide B3).setCell (p := ⟨w.heap.size, k, none⟩) (Nat.le_refl _) (.slice fa fn fc))
      have hs2 : w.heap.size < w2.heap.size := Nat.lt_of_lt_of_le hsz hb2.size
      have T4 := hide (show Turn [w.heap.size] w2 (w2.setCell ⟨w.heap.size, k, none⟩ (.slice fa fn fc)) from (Turn.refl _ _).setCell (by simp) _ _)
      have HT4 := hide (unhide HST _ (.slice fa fn fc) (((unhide HT).turn (Turn.of_below (S := [w.heap.size]) hb2)).turn (unhide T4)) (fun X SX hSX hX => (((unhide O2).turn (unhide T4) (fun j hj hm => by have := unhide L2 j hj; simp at hm; omega)).turn hX (fun j hj hm => by have := unhide L2 j hj; have := hSX j hm; omega)).rd))
      clear hb2 c0 HST HV O2 L2 HR HT
      go_wp2_with fail
      clear d0 f0
      go_roundw
      case rel => exact ⟨k + 1, _, by omega, by go_num, HS3, HT4, by simpa using hs2, B4⟩
      case measure => simp [intOf]; omega
    · go_wp2_with fail
      go_ret
      have e : k = ns.length := by omega
      subst e
      exact ⟨rfl, hide (winsOfRow (unhide HR) rfl (unhide HT) hsz rfl), hsz, unhide HB⟩
set_option maxHeartbeats 1600000 in
theorem toItemSS_none (w : World) (a : Option Addr) (cap : Nat) :
    Calls Try.prog 6 #[.slice a 0 cap] w fun e w' => e = .returned (.slice (some ⟨w.heap.size, 0, none⟩) 0 0) ∧ w.heap.size < w'.heap.size ∧ Below w.heap.size w w' := by
  obtain ⟨i0, hi, hz0, hz1, hz2⟩ := info_parts1 infoItemS
  go_enter Try.func6, Try.ntmps6
  go_wp2_with (first
    | (at_make; refine wpList_make_full _ rfl _ _ 27 rfl w.heap.size 39 i0 _ 1 Try.underlying27 hi hz0 hz1 _ _ _ _ 0 rfl rfl rfl rfl (by rw [hz2]; omega) (by unfold maxLen; omega) (Nat.le_refl _) ?_; intro w1 hown hgrow)
    | go_in)
  have hlt1 : w.heap.size < w1.heap.size := by
    rcases hown.2 with ⟨h', _⟩ | ⟨g', cap', cur, h', _, hg, _⟩
    · simp at h'
    · simp only [Value.slice.injEq, Option.some.injEq, Addr.mk.injEq, and_true, true_and] at h'
      obtain ⟨rfl, rfl⟩ := h'
      exact (Array.getElem?_eq_some_iff.1 hg).1
  have hbw1 : Below w.heap.size w w1 := (Below.refl _ _).grown hgrow (Nat.le_refl _) (fun k hk => by cases hk)
  clear hown hgrow
  refine wp_loop_rounds 1 ?_
  rw [rounds_succ]
  go_wp2
  go_ret
  exact ⟨rfl, hlt1, hbw1⟩
/-- for laws that mark nothing: what was copied may be read -/
def ItemSSOwn (S : List Nat) (w : World) (v : Value) (ns : List (List ItemV)) : Prop := S = [] ∧ ItemSSRd w v ns
theorem ItemSSOwn.rd {S : List Nat} {w : World} {v : Value} {ns : List (List ItemV)} (h : ItemSSOwn S w v ns) : ItemSSRd w v ns := h.2
theorem ItemSSOwn.up {S : List Nat} {w w' : World} {v : Value} {ns : List (List ItemV)} (h : ItemSSOwn S w v ns) (hb : Below w.heap.size w w') : ItemSSOwn S w' v ns := ⟨h.1, h.2.up hb⟩
theorem ItemSSOwn.lt {S : List Nat} {w : World} {v : Value} {ns : List (List ItemV)} (h : ItemSSOwn S w v ns) : ∀ k ∈ S, k < w.heap.size := by rw [h.1]; simp
def nItemSS (ns : List (List ItemV)) : Nat := ns.length
theorem nItemSS_le {ns : List (List ItemV)} (h : SmallItemSS ns) : nItemSS ns ≤ 100000000 := by have := h.1; unfold nItemSS; omega
theorem toItemSS_hi (ns : List (List ItemV)) (v : Value) (w : World) (hs : SmallItemSS ns) (h : ItemSSRd w v ns) :
    Calls Try.prog 6 #[v] w fun e w' => ∃ a n c, e = .returned (.slice a n c) ∧ Hid (∀ W S, (∀ j ∈ S, j < w.heap.size) → Turn S w' W → ItemSSRd W (.slice a n c) ns) ∧ Below w.heap.size w w' := by
  obtain ⟨a, c, rfl, h⟩ := h
  rcases h with rfl | ⟨b, off, rfl, hb, hc⟩
  · refine (toItemSS_none w a c).mono ?_
    rintro e w' ⟨rfl, h2, h3⟩
    exact ⟨_, _, _, rfl, hide (fun W S _ _ => ⟨_, 0, rfl, .inl rfl⟩), h3⟩
  · refine (toItemSS_row w b off c ns hs hc hb).mono ?_
    rintro e w' ⟨rfl, h1, h2, h3⟩
    exact ⟨_, _, _, rfl, hide (fun W S hS hW => ⟨_, _, rfl, .inr ⟨_, _, rfl, Nat.lt_of_lt_of_le h2 hW.size, unhide h1 W S hS hW⟩⟩), h3⟩
theorem toItemSS_kit (ns : List (List ItemV)) (v : Value) (w : World) (hs : SmallItemSS ns) (h : ItemSSRd w v ns) :
    Calls Try.prog 6 #[v] w fun e w' => ∃ v S, e = .returned v ∧ Hid (ItemSSOwn S w' v ns) ∧ Hid (∀ k ∈ S, w.heap.size ≤ k) ∧ Below w.heap.size w w' := by
  refine (toItemSS_hi ns v w hs h).mono ?_
  rintro e w' ⟨a, n, c, rfl, h1, h2⟩
  exact ⟨_, [], rfl, hide ⟨rfl, unhide h1 w' [] (by simp) (Turn.refl _ _)⟩, hide (by simp), h2⟩
set_option maxHeartbeats 3200000 in
theorem eqItemSS_row (w : World) (b off cap b' off' cap' : Nat) (ns : List (List ItemV)) (hs : SmallItemSS ns) (hc : WinsAt w b off ns) (hc' : WinsAt w b' off' ns) (hb : b < w.heap.size) (hb' : b' < w.heap.size) :
    Calls Try.prog 9 #[.slice (some ⟨b, off, none⟩) ns.length cap, .slice (some ⟨b', off', none⟩) ns.length cap'] w fun e w' => e = .returned (.bool true) ∧ Below w.heap.size w w' := by
  have HS := hide hs.2
  have hl := hs.1
  have HC := hide hc
  have HC' := hide hc'
  clear hs hc hc'
  go_enter Try.func9, Try.ntmps9
  go_wp2_with fail
  go_loopw [5] (fun i wr => ∃ (k : Nat), k ≤ ns.length ∧ i = .int .i64 k ∧ Hid (Below w.heap.size w wr)) (fun i _ => ns.length - (intOf i).toNat)
  case atStart => exact ⟨0, Nat.zero_le _, rfl, Below.refl _ _⟩
  case round =>
    obtain ⟨k, hk, rfl, HB⟩ := hrel
    by_cases hlt : k < ns.length
    · obtain ⟨v, c0, hv⟩ := (unhide HC).up hb (unhide HB) k hlt
      obtain ⟨v', d0, hv'⟩ := (unhide HC').up hb' (unhide HB) k hlt
      have HV := hide (fun W (bW : Below wr.heap.size wr W) => eqItemS_kit ns[k] v v' W (unhide HS _ (List.getElem_mem hlt)) (hv.up bW) (hv'.up bW))
      obtain ⟨va, vn, vc, rfl⟩ := hv.form
      obtain ⟨va', vn', vc', rfl⟩ := hv'.form
      clear hv hv'
      generalize ns[k] = ms at *
      go_wp2_with fail
      go_region_with (go_at_call 22; refine (unhide HV _ ((Below.refl _ _).drew)).mono ?_; rintro e w2 ⟨rfl, hb2⟩)
      all_goals
        have hb3 := hide ((unhide HB).trans (Below.mono (((Below.refl wr.heap.size wr).drew).trans hb2) (unhide HB).size))
        clear c0 d0
        go_wp2_with fail
        go_roundw
        case rel => exact ⟨k + 1, by omega, by go_num, hb3⟩
        case measure => simp [intOf]; omega
    · go_wp2_with fail
      go_ret
      exact ⟨rfl, unhide HB⟩
theorem eqItemSS_kit (ns : List (List ItemV)) (v v' : Value) (w : World) (hs : SmallItemSS ns) (h : ItemSSRd w v ns) (h' : ItemSSRd w v' ns) :
    Calls Try.prog 9 #[v, v'] w fun e w' => e = .returned (.bool true) ∧ Below w.heap.size w w' := by
  have none : ∀ a a' c c', Calls Try.prog 9 #[.slice a 0 c, .slice a' 0 c'] w fun e w' => e = .returned (.bool true) ∧ Below w.heap.size w w' := by
    intro a a' c c'
    go_enter Try.func9, Try.ntmps9
    go_wp2
    refine wp_loop_rounds 1 ?_
    rw [rounds_succ]
    go_wp2
    go_ret
    exact ⟨rfl, Below.refl _ _⟩
  obtain ⟨a, c, rfl, h⟩ := h
  obtain ⟨a', c', rfl, h'⟩ := h'
  rcases h with rfl | ⟨b, off, rfl, hb, hc⟩
  · exact none _ _ _ _
  · rcases h' with rfl | ⟨b', off', rfl, hb', hc'⟩
    · exact none _ _ _ _
    · exact eqItemSS_row w b off c b' off' c' ns hs hc hc' hb hb'
end Go.Proofs.Ytpiapgjiaeddjaa
