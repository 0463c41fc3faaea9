/-
  Windows: the last item of the program's ring.
-/
/-
  Windows: an item is put into the program's ring.
-/
/-
  Names outside bodies: one to eight bytes, each a letter, a digit or '-'; both sides ask so.
-/
import Derived.Test.YtknkdbfgfcgkiaaGreatDoorWinIter
import Derived.RangeFuncBox
import Derived.Deep.RegionHeld3
import Derived.Test.YtknkdbfgfcgkiaaGreatDoorMerged3
import Derived.Lib.ConvBytes
set_option linter.unusedVariables false
namespace Go.Proofs.YtknkdbfgfcgkiaaGreatDoor
open Go.RowKit Go.Maps Go.Shelf

attribute [local go_sem] Oper.semAt_some

theorem ownFrom_sizeW {α : Type} (B n : Nat) : OwnFrom B (fun (_ : α) W => n ≤ W.heap.size) := fun s W W' row hs hg hr => Nat.le_trans hs hg.size
def lastOr (xs : List RawI) : RawI := xs.getLast?.getD ringX0
theorem lastL_one {xs : List RawI} {y : Nat × RawI} {k : Nat} (hk : k ≤ xs.length) (h : [y] = lastL xs k) : xs ≠ [] ∧ y.2 = lastOr xs := by
 have hl := congrArg List.length h
 rw [lastL_len] at hl
 simp at hl
 subst hl
 have hne : xs ≠ [] := by rintro rfl; simp at hk
 refine ⟨hne, ?_⟩
 simp [lastL] at h
 rw [h]
 simp [lastOr, List.getLast?_eq_getElem?]
theorem lastL_nil {xs : List RawI} (h : ([] : List (Nat × RawI)) = lastL xs xs.length) : xs = [] := by
 have hl := congrArg List.length h
 rw [lastL_len] at hl
 exact List.eq_nil_of_length_eq_zero hl.symm

theorem set3 {W : World} {g : Nat} {a b c : Value} (h0 : W.cell? ⟨g, 0, none⟩ = some a) (h1 : W.cell? ⟨g, 1, none⟩ = some b) (h2 : W.cell? ⟨g + 1, 0, none⟩ = some c) (x y z : Value) :
  (((W.setCell ⟨g, 0, none⟩ x).setCell ⟨g, 1, none⟩ y).setCell ⟨g + 1, 0, none⟩ z).cell? ⟨g, 0, none⟩ = some x ∧ (((W.setCell ⟨g, 0, none⟩ x).setCell ⟨g, 1, none⟩ y).setCell ⟨g + 1, 0, none⟩ z).cell? ⟨g, 1, none⟩ = some y ∧ (((W.setCell ⟨g, 0, none⟩ x).setCell ⟨g, 1, none⟩ y).setCell ⟨g + 1, 0, none⟩ z).cell? ⟨g + 1, 0, none⟩ = some z := by
 have n1 : (⟨g, 0, none⟩ : Addr) ≠ ⟨g, 1, none⟩ := by intro e; cases e
 have n2 : (⟨g, 0, none⟩ : Addr) ≠ ⟨g + 1, 0, none⟩ := by intro e; have := congrArg Addr.block e; simp at this
 have n3 : (⟨g, 1, none⟩ : Addr) ≠ ⟨g + 1, 0, none⟩ := by intro e; have := congrArg Addr.block e; simp at this
 refine ⟨?_, ?_, ?_⟩
 ·rw [World.cell?_setCell_other _ _ _ _ (Ne.symm n2), World.cell?_setCell_other _ _ _ _ (Ne.symm n1)]
  exact World.cell?_setCell_same _ _ _ h0
 ·rw [World.cell?_setCell_other _ _ _ _ (Ne.symm n3)]
  exact World.cell?_setCell_same _ _ _ (by rw [World.cell?_setCell_other _ _ _ _ n1]; exact h1)
 ·exact World.cell?_setCell_same _ _ _ (by rw [World.cell?_setCell_other _ _ _ _ n3, World.cell?_setCell_other _ _ _ _ n2]; exact h2)

set_option maxRecDepth 100000 in
set_option maxHeartbeats 4000000 in
theorem last_in (g st : Nat) (xs : List RawI) (w : World) (hr : RingAt w g st xs) :
  CallsIn Fence.wide 3 Tryz.prog 106 #[.pointer (some ⟨g, 0, none⟩)] w fun e w' => e = .returned (.tuple #[.agg #[.int .i64 (lastOr xs).z, .slice (lastOr xs).a (lastOr xs).n (lastOr xs).c], .bool (decide (xs ≠ []))]) ∧ Below w.heap.size w w' := by
 have hgl := hr.lt
 have bI := (boxI_new w ringX0)
 have bl := (Below.refl w.heap.size w).alloc (Nat.le_refl _) (.cells #[.int .i64 0, .slice none 0 0] 44)
 have bB := Boxed.new (w.alloc (.cells #[.int .i64 0, .slice none 0 0] 44)) 4 (.bool false)
 have bl2 := bl.alloc (by simp) (.cells #[.bool false] 4)
 have bI2 := boxI_alloc bI (.cells #[.bool false] 4)
 rw [World.size_alloc] at bB
 refine callsIn_of_wp_marks Tryz.func106 rfl trivial ?_ rfl
 simp only [Tryz.ntmps106, List.size_toArray, List.length_cons, List.length_nil, Nat.reduceAdd, Nat.reduceSub, Array.replicate_succ, Array.replicate_zero, List.push_toArray, List.append_toArray, List.nil_append, List.cons_append]
 gi_wp2_with fail
 refine ⟨trivial, ?_⟩
 change BoxI ((w.alloc (.cells #[.int .i64 0, .slice none 0 0] 44)).alloc (.cells #[.bool false] 4)) _ _ at bI2
 have hz : ((w.alloc (.cells #[.int .i64 0, .slice none 0 0] 44)).alloc (.cells #[.bool false] 4)).heap.size = w.heap.size + 2 := by simp
 generalize (w.alloc (.cells #[.int .i64 0, .slice none 0 0] 44)).alloc (.cells #[.bool false] 4) = W1 at *
 clear bl bI
 refine (ringSeq_in 2 g W1).mono ?_
 rintro e W0 ⟨rfl, hW0⟩
 have bA := (Boxed.new W1 187 (.pointer (some ⟨g, 0, none⟩))).cell
 rw [← hW0] at bA
 have hs0 : W0.heap.size = w.heap.size + 3 := by rw [hW0]; simp; omega
 have b0 : Below W1.heap.size W1 W0 := by rw [hW0]; exact (Below.refl _ _).alloc (Nat.le_refl _) _
 have bI0 := boxI_up bI2 b0
 have bB0 : Boxed W0 (w.heap.size + 1) 4 (.bool false) := (b0.block _ bB.lt).trans bB
 have bl0 := bl2.trans (b0.mono (by omega))
 rw [hz] at bA
 rw [hz]
 clear hW0 b0 bI2 bB bl2
 gi_wp2_with fail
 refine wpIn_rangeFunc_ownH rfl (by omega) (gf := 122) (lb := #[.pointer (some ⟨w.heap.size + 2, 0, none⟩)]) rfl trivial (enters_of Tryz.func122 (by kernel_rfl) rfl)
  (last_stops 2 (by omega) (w.heap.size + 2) (w.heap.size + 3) g st xs [] (by omega) (by omega) (by simp) (by simp) W0 (by omega) bA (hr.up bl0)) keepK_t (keepK_b (by omega)) (Below.refl _ _) (fun _ => rfl)
  (fun pre W => ((pre = [] ∧ BoxI W w.heap.size ringX0) ∧ Boxed W (w.heap.size + 1) 4 (.bool false)) ∧ Below w.heap.size w W ∧ w.heap.size + 3 ≤ W.heap.size)
  (fun c pre W => (c = .ret ∧ ∃ last : RIt xs, pre = [last] ∧ (W.cell? ⟨w.heap.size, 0, none⟩ = some (.int .i64 last.1.2.z) ∧ W.cell? ⟨w.heap.size, 1, none⟩ = some (.slice last.1.2.a last.1.2.n last.1.2.c)) ∧ W.cell? ⟨w.heap.size + 1, 0, none⟩ = some (.bool true)) ∧ Below w.heap.size w W)
  (OwnFrom.and (OwnFrom.and (OwnFrom.and (ownFrom_pure _ _) (Own.from (fun _ X Y row hs hg hrow => boxI_own w.heap.size ringX0 () X Y row hs hg hrow) _)) (Own.from (boxed_own _ _ _) _)) (OwnFrom.and (ownFrom_below (Nat.le_refl _) (by omega)) (ownFrom_sizeW _ _)))
  (fun c => OwnFrom.and (Own.from (fun s A B row hs hg hr => by obtain ⟨hc, last, e1, ⟨e2, e3⟩, e4⟩ := hs; exact ⟨hc, last, e1, ⟨cell_kept e2 hg hr, cell_kept e3 hg hr⟩, cell_kept e4 hg hr⟩) _) (ownFrom_below (Nat.le_refl _) (by omega)))
  ⟨⟨⟨rfl, bI0⟩, bB0⟩, bl0, by omega⟩
  (fun x a' W => ∃ Bx, w.heap.size + 1 < Bx ∧ BoxI W Bx x.1.2 ∧ a' = { tmps := #[.pointer (some ⟨g, 0, none⟩), undef, .pointer (some ⟨w.heap.size, 0, none⟩), .pointer (some ⟨w.heap.size + 1, 0, none⟩), undef, .pointer (some ⟨Bx, 0, none⟩), undef, .pointer (some ⟨g, 0, none⟩), .func (.func 122) #[] #[.pointer (some ⟨w.heap.size + 2, 0, none⟩)], .int .i64 (x.1.1 : Int), .agg #[.int .i64 x.1.2.z, .slice x.1.2.a x.1.2.n x.1.2.c], undef, undef], defers := [] })
  (fun x a' _ X Y row hs hg hr => by obtain ⟨Bx, e1, e2, e3⟩ := hs; exact ⟨Bx, e1, boxI_own Bx x.1.2 () X Y row e2 hg (fun r e => (hr r e).2), e3⟩)
  ?assign ?body ?done ?stop
 case assign =>
  rintro l pre x W K ⟨⟨⟨hp, bI1⟩, bB1⟩, hB1, hz0⟩ hK
  simp only [encI, RawI.v]
  gi_wp2
  exact hK _ _ ((KeepsOthers.alloc _ _).from _) ((Keep.refl _ _ W).alloc (by omega) _) ⟨⟨⟨hp, boxI_alloc bI1 _⟩, bB1.alloc _⟩, hB1.alloc (by omega) _, by simp; omega⟩ ⟨W.heap.size, by omega, boxI_new W _, rfl⟩
 case body =>
  rintro l pre x a' W hl ⟨r, hr⟩ ⟨⟨⟨hp, bI1⟩, bB1⟩, hB1, hz0⟩ ⟨Bx, hBx, bX, rfl⟩ hlt
  have cR := bB1.cell
  have fR := bB1.frozen
  obtain ⟨x0, x1⟩ := boxI_cells bX
  obtain ⟨y0, y1⟩ := boxI_cells bI1
  have f0 := boxI_frozen bI1 0
  have f1 := boxI_frozen bI1 1
  subst hp
  gi_wp2
  obtain ⟨s0, s1, s2⟩ := set3 (g := w.heap.size) y0 y1 cR (.int .i64 x.1.2.z) (.slice x.1.2.a x.1.2.n x.1.2.c) (.bool true)
  exact ⟨(((KeepsOthers.setCell _ _ _).trans (KeepsOthers.setCell _ _ _)).trans (KeepsOthers.setCell _ _ _)).from _, ⟨rfl, x, rfl, ⟨s0, s1⟩, s2⟩, ((hB1.setCell (p := ⟨w.heap.size, 0, none⟩) (by simp) _).setCell (p := ⟨w.heap.size, 1, none⟩) (by simp) _).setCell (p := ⟨w.heap.size + 1, 0, none⟩) (by simp) _⟩
 case done =>
  rintro D ys W hD hys ⟨⟨⟨hp, bI1⟩, bB1⟩, hB1, hz0⟩ hK
  subst hp
  have hxs := lastL_nil hys
  subst hxs
  have bB2 := bB1.alloc (.cells #[.int .i64 0, .slice none 0 0] 44)
  have bI2 := boxI_alloc bI1 (.cells #[.int .i64 0, .slice none 0 0] 44)
  have cR := bB2.cell
  have fR := bB2.frozen
  obtain ⟨y0, y1⟩ := boxI_cells bI2
  have f0 := boxI_frozen bI2 0
  have f1 := boxI_frozen bI2 1
  have hK2 := ((KeepsOthers.alloc W (.cells #[.int .i64 0, .slice none 0 0] 44))).same D _ hK rfl
  have hB2 := hB1.alloc (by omega) (.cells #[.int .i64 0, .slice none 0 0] 44)
  have HX := hide bI1
  clear bI1 bB1 bI2 bB2 hr hys
  gi_wp2
  obtain ⟨s0, s1, s2⟩ := set3 (g := w.heap.size) y0 y1 cR (.int .i64 0) (.slice none 0 0) (.bool false)
  have hB3 := ((hB2.setCell (p := ⟨w.heap.size, 0, none⟩) (by simp) (.int .i64 0)).setCell (p := ⟨w.heap.size, 1, none⟩) (by simp) (.slice none 0 0)).setCell (p := ⟨w.heap.size + 1, 0, none⟩) (by simp) (.bool false)
  have hK3 := (((KeepsOthers.setCell (W.alloc (.cells #[.int .i64 0, .slice none 0 0] 44)) ⟨w.heap.size, 0, none⟩ (.int .i64 0)).trans (KeepsOthers.setCell _ ⟨w.heap.size, 1, none⟩ (.slice none 0 0))).trans (KeepsOthers.setCell _ ⟨w.heap.size + 1, 0, none⟩ (.bool false))).same D _ hK2 rfl
  refine ⟨by simp, .inl ⟨_, _, rfl, run_takeDeferred hK3, ?_⟩⟩
  have q0 := cell_kept s0 (grownBy_putObj' _ D (.deferred none)) (fun r e => by cases e; exact ⟨_, hK3, rfl⟩)
  have q1 := cell_kept s1 (grownBy_putObj' _ D (.deferred none)) (fun r e => by cases e; exact ⟨_, hK3, rfl⟩)
  have q2 := cell_kept s2 (grownBy_putObj' _ D (.deferred none)) (fun r e => by cases e; exact ⟨_, hK3, rfl⟩)
  refine ⟨.tuple #[.agg #[.int .i64 0, .slice none 0 0], .bool false], ?_, by simp [lastOr, ringX0], hB3.trans (belowK_b (w := w) (Nat.le_refl _) _ D _ _ (by omega) hK3 rfl rfl)⟩
  simp [results, Tryz.f106, go_sem, q0, q1, q2]
 case stop =>
  rintro D c pre W hD ⟨k, hk, hpre⟩ ⟨⟨rfl, last, rfl, ⟨e1, e2⟩, e3⟩, hB⟩ hK
  obtain ⟨hne, hla⟩ := lastL_one hk hpre
  gi_wp2
  refine ⟨by simp, .inl ⟨_, _, rfl, run_takeDeferred hK, ?_⟩⟩
  have q0 := cell_kept e1 (grownBy_putObj' _ D (.deferred none)) (fun r e => by cases e; exact ⟨_, hK, rfl⟩)
  have q1 := cell_kept e2 (grownBy_putObj' _ D (.deferred none)) (fun r e => by cases e; exact ⟨_, hK, rfl⟩)
  have q2 := cell_kept e3 (grownBy_putObj' _ D (.deferred none)) (fun r e => by cases e; exact ⟨_, hK, rfl⟩)
  refine ⟨.tuple #[.agg #[.int .i64 last.1.2.z, .slice last.1.2.a last.1.2.n last.1.2.c], .bool true], ?_, by rw [hla], hB.trans (belowK_b (w := w) (Nat.le_refl _) W D _ _ (by omega) hK rfl rfl)⟩
  simp [results, Tryz.f106, go_sem, q0, q1, q2]
/-- the ring's last item, and whether there is one -/
theorem last_any (g st : Nat) (xs : List RawI) (w : World) (hr : RingAt w g st xs) :
  Calls Tryz.prog 106 #[.pointer (some ⟨g, 0, none⟩)] w fun e w' => e = .returned (.tuple #[.agg #[.int .i64 (lastOr xs).z, .slice (lastOr xs).a (lastOr xs).n (lastOr xs).c], .bool (decide (xs ≠ []))]) ∧ Below w.heap.size w w' :=
 (callsIn_wide (n := 3)).1 (last_in g st xs w hr)
end Go.Proofs.YtknkdbfgfcgkiaaGreatDoor

set_option linter.unusedVariables false
namespace Go.Proofs.YtknkdbfgfcgkiaaGreatDoor
open Go.RowKit Go.Maps Go.Shelf

/-- a ring that may be written -/
def RingF (w : World) (g st : Nat) (xs : List RawI) : Prop := RingAt w g st xs ∧ ∀ i, i < 10 → w.frozen? ⟨g, i, none⟩ = false ∧ ∃ v, w.cell? ⟨g, i, none⟩ = some v
theorem RingF.up {w w' : World} {g st : Nat} {xs : List RawI} (h : RingF w g st xs) (hb : Below w.heap.size w w') : RingF w' g st xs :=
 ⟨h.1.up hb, fun i hi => ⟨(hb.frozen (by exact h.1.lt)).trans (h.2 i hi).1, by obtain ⟨v, hv⟩ := (h.2 i hi).2; exact ⟨v, (hb.cell (by exact h.1.lt)).trans hv⟩⟩⟩
theorem RingF.turn {S : List Nat} {w w' : World} {g st : Nat} {xs : List RawI} (h : RingF w g st xs) (ht : Turn S w w') (hS : g ∉ S) : RingF w' g st xs :=
 ⟨h.1.turn ht hS, fun i hi => ⟨(ht.frozen h.1.lt hS).trans (h.2 i hi).1, by obtain ⟨v, hv⟩ := (h.2 i hi).2; exact ⟨v, (ht.cell h.1.lt hS).trans hv⟩⟩⟩
theorem set_cell {w : World} {g i : Nat} {v u : Value} (h : w.cell? ⟨g, i, none⟩ = some u) : (w.setCell ⟨g, i, none⟩ v).cell? ⟨g, i, none⟩ = some v := World.cell?_setCell_same _ _ _ h
theorem set_off {w : World} {g i j : Nat} {v : Value} (h : i ≠ j) : (w.setCell ⟨g, j, none⟩ v).cell? ⟨g, i, none⟩ = w.cell? ⟨g, i, none⟩ := World.cell?_setCell_other _ _ _ _ (by intro e; have := congrArg Addr.off e; simp only at this; omega)
/-- three cells of a ring are written -/
theorem RingF.set3 {w : World} {g st : Nat} {xs : List RawI} (h : RingF w g st xs) {i j k : Nat} (hi : i < 10) (hj : j < 10) (hk : k < 10) (hij : i ≠ j) (hik : i ≠ k) (hjk : j ≠ k) (a b c : Value) :
  let W := ((w.setCell ⟨g, i, none⟩ a).setCell ⟨g, j, none⟩ b).setCell ⟨g, k, none⟩ c
  W.cell? ⟨g, i, none⟩ = some a ∧ W.cell? ⟨g, j, none⟩ = some b ∧ W.cell? ⟨g, k, none⟩ = some c ∧ (∀ m, m ≠ i → m ≠ j → m ≠ k → W.cell? ⟨g, m, none⟩ = w.cell? ⟨g, m, none⟩) ∧ (∀ m, m < 10 → W.frozen? ⟨g, m, none⟩ = false ∧ ∃ v, W.cell? ⟨g, m, none⟩ = some v) ∧ Turn [g] w W := by
 obtain ⟨u, hu⟩ := (h.2 i hi).2
 obtain ⟨v, hv⟩ := (h.2 j hj).2
 obtain ⟨x, hx⟩ := (h.2 k hk).2
 have e1 : (((w.setCell ⟨g, i, none⟩ a).setCell ⟨g, j, none⟩ b).setCell ⟨g, k, none⟩ c).cell? ⟨g, i, none⟩ = some a := by
  rw [set_off hik, set_off hij]; exact set_cell hu
 have e2 : (((w.setCell ⟨g, i, none⟩ a).setCell ⟨g, j, none⟩ b).setCell ⟨g, k, none⟩ c).cell? ⟨g, j, none⟩ = some b := by
  rw [set_off hjk]; exact set_cell (by rw [set_off (Ne.symm hij)]; exact hv)
 have e3 : (((w.setCell ⟨g, i, none⟩ a).setCell ⟨g, j, none⟩ b).setCell ⟨g, k, none⟩ c).cell? ⟨g, k, none⟩ = some c :=
  set_cell (by rw [set_off (Ne.symm hjk), set_off (Ne.symm hik)]; exact hx)
 have e4 : ∀ m, m ≠ i → m ≠ j → m ≠ k → (((w.setCell ⟨g, i, none⟩ a).setCell ⟨g, j, none⟩ b).setCell ⟨g, k, none⟩ c).cell? ⟨g, m, none⟩ = w.cell? ⟨g, m, none⟩ := fun m h1 h2 h3 => by
  rw [set_off h3, set_off h2, set_off h1]
 refine ⟨e1, e2, e3, e4, fun m hm => ⟨?_, ?_⟩, (((Turn.refl _ _).setCell (by simp) _ _).setCell (by simp) _ _).setCell (by simp) _ _⟩
 ·rw [World.frozen?_setCell, World.frozen?_setCell, World.frozen?_setCell]
  exact (h.2 m hm).1
 ·by_cases q1 : m = i
  ·subst q1; exact ⟨_, e1⟩
  ·by_cases q2 : m = j
   ·subst q2; exact ⟨_, e2⟩
   ·by_cases q3 : m = k
    ·subst q3; exact ⟨_, e3⟩
    ·rw [e4 m q1 q2 q3]; exact (h.2 m hm).2
/-- there is room -/
theorem ring_grow {w : World} {g st : Nat} {xs : List RawI} (h : RingF w g st xs) (x : RawI) (hl : xs.length < 4) :
  RingF (((w.setCell ⟨g, (st + xs.length) % 4 * 2, none⟩ (.int .i64 x.z)).setCell ⟨g, (st + xs.length) % 4 * 2 + 1, none⟩ x.v).setCell ⟨g, 9, none⟩ (.int .i64 ((xs.length : Int) + 1))) g st (xs ++ [x]) := by
 have h4 : (st + xs.length) % 4 < 4 := Nat.mod_lt _ (by omega)
 obtain ⟨e1, e2, e3, e4, e5, t⟩ := h.set3 (i := (st + xs.length) % 4 * 2) (j := (st + xs.length) % 4 * 2 + 1) (k := 9) (by omega) (by omega) (by omega) (by omega) (by omega) (by omega) (.int .i64 x.z) x.v (.int .i64 ((xs.length : Int) + 1))
 have hs := h.1.s4
 refine ⟨⟨Nat.lt_of_lt_of_le h.1.lt t.size, h.1.s4, by simp; omega, ?_, ?_, fun i hi => ?_⟩, e5⟩
 ·rw [e4 8 (by omega) (by omega) (by omega)]; exact h.1.c8
 ·rw [e3]; simp
 ·simp at hi
  by_cases q : i = xs.length
  ·subst q
   simp only [List.getElem_append_right (Nat.le_refl _), Nat.sub_self, List.getElem_cons_zero]
   exact ⟨e1, e2⟩
  ·have hi' : i < xs.length := by omega
   simp only [List.getElem_append_left hi']
   have hne : (st + i) % 4 ≠ (st + xs.length) % 4 := by omega
   have h4' : (st + i) % 4 < 4 := Nat.mod_lt _ (by omega)
   rw [e4 _ (by omega) (by omega) (by omega), e4 _ (by omega) (by omega) (by omega)]
   exact h.1.has i hi'
/-- there is none: the first one goes -/
theorem ring_over {w : World} {g st : Nat} {xs : List RawI} (h : RingF w g st xs) (x : RawI) (hl : xs.length = 4) :
  RingF (((w.setCell ⟨g, (st + xs.length) % 4 * 2, none⟩ (.int .i64 x.z)).setCell ⟨g, (st + xs.length) % 4 * 2 + 1, none⟩ x.v).setCell ⟨g, 8, none⟩ (.int .i64 (((st + 1) % 4 : Nat) : Int))) g ((st + 1) % 4) (xs.drop 1 ++ [x]) := by
 have h4 : (st + xs.length) % 4 < 4 := Nat.mod_lt _ (by omega)
 obtain ⟨e1, e2, e3, e4, e5, t⟩ := h.set3 (i := (st + xs.length) % 4 * 2) (j := (st + xs.length) % 4 * 2 + 1) (k := 8) (by omega) (by omega) (by omega) (by omega) (by omega) (by omega) (.int .i64 x.z) x.v (.int .i64 (((st + 1) % 4 : Nat) : Int))
 have hs := h.1.s4
 refine ⟨⟨Nat.lt_of_lt_of_le h.1.lt t.size, Nat.mod_lt _ (by omega), by simp; omega, e3, ?_, fun i hi => ?_⟩, e5⟩
 ·rw [e4 9 (by omega) (by omega) (by omega), h.1.c9]
  simp [hl]
 ·simp at hi
  by_cases q : i = 3
  ·subst q
   have hd : (xs.drop 1).length = 3 := by simp; omega
   have hg : (xs.drop 1 ++ [x])[3]'(by simp; omega) = x := by
    rw [List.getElem_append_right (by omega)]
    simp
   rw [hg]
   have hk : ((st + 1) % 4 + 3) % 4 = (st + xs.length) % 4 := by omega
   rw [hk]
   exact ⟨e1, e2⟩
  ·have hi' : i + 1 < xs.length := by omega
   have hg : (xs.drop 1 ++ [x])[i]'(by simp; omega) = xs[i + 1] := by
    rw [List.getElem_append_left (by simp; omega), List.getElem_drop]
    congr 1
    omega
   rw [hg]
   have hk : ((st + 1) % 4 + i) % 4 = (st + (i + 1)) % 4 := by omega
   rw [hk]
   have hne : (st + (i + 1)) % 4 ≠ (st + xs.length) % 4 := by omega
   have h4' : (st + (i + 1)) % 4 < 4 := Nat.mod_lt _ (by omega)
   rw [e4 _ (by omega) (by omega) (by omega), e4 _ (by omega) (by omega) (by omega)]
   exact h.1.has (i + 1) hi'
/-- what the ring is behind a put -/
def putSt (st : Nat) (xs : List RawI) : Nat := if xs.length < 4 then st else (st + 1) % 4
def putL (xs : List RawI) (x : RawI) : List RawI := if xs.length < 4 then xs ++ [x] else xs.drop 1 ++ [x]

set_option maxRecDepth 100000 in
set_option maxHeartbeats 4000000 in
theorem put_any (g st : Nat) (xs : List RawI) (x : RawI) (w : World) (hr : RingF w g st xs) :
  Calls Tryz.prog 108 #[.pointer (some ⟨g, 0, none⟩), .agg #[.int .i64 x.z, .slice x.a x.n x.c]] w fun e w' => (∃ v, e = .returned v) ∧ Hid (RingF w' g (putSt st xs) (putL xs x)) ∧ Hid (Turn [g] w w') := by
 have hgl := hr.1.lt
 have hlen := hr.1.len
 have HR := hide (hr.up ((Below.refl w.heap.size w).alloc (Nat.le_refl _) (.cells #[.int .i64 x.z, .slice x.a x.n x.c] 44)))
 have T1 := hide (Turn.of_alloc [g] w (.cells #[.int .i64 x.z, .slice x.a x.n x.c] 44))
 have bI := boxI_cells (boxI_new w x)
 have hz : w.heap.size < (w.alloc (.cells #[.int .i64 x.z, .slice x.a x.n x.c] 44)).heap.size := by simp
 clear hr
 go_enter Tryz.func108, Tryz.ntmps108
 go_wp2_with fail
 have hne : w.heap.size ≠ g := by omega
 generalize w.alloc (.cells #[.int .i64 x.z, .slice x.a x.n x.c] 44) = W at *
 generalize w.heap.size = Bx at *
 have HSL := hide (slot_any W.drew g st xs.length (unhide HR).1.c8 (unhide HR).1.s4 hlen)
 have h4 : (st + xs.length) % 4 < 4 := Nat.mod_lt _ (by omega)
 have HG := hide (fun hl => ring_grow ((unhide HR).up (Below.refl _ _).drew) x hl)
 have HO := hide (fun hl => ring_over ((unhide HR).up (Below.refl _ _).drew) x hl)
 have fr := fun i hi => ((unhide HR).2 i hi).1
 have c8 := (unhide HR).1.c8
 have c9 := (unhide HR).1.c9
 obtain ⟨x0, x1⟩ := bI
 have fr0 := fr ((st + xs.length) % 4 * 2) (by omega)
 have fr1 := fr ((st + xs.length) % 4 * 2 + 1) (by omega)
 have fr8 := fr 8 (by omega)
 have fr9 := fr 9 (by omega)
 obtain ⟨o0, p0⟩ := ((unhide HR).2 ((st + xs.length) % 4 * 2) (by omega)).2
 obtain ⟨o1, p1⟩ := ((unhide HR).2 ((st + xs.length) % 4 * 2 + 1) (by omega)).2
 clear fr
 generalize (st + xs.length) % 4 = k at *
 have hk' : (k : Int) < 4 := by omega
 have K0 := hide (show W.drew.cell? ⟨g, 8, none⟩ = some (.int .i64 (st : Int)) ∧ W.drew.cell? ⟨g, 9, none⟩ = some (.int .i64 (xs.length : Int)) ∧ W.drew.cell? ⟨Bx, 0, none⟩ = some (.int .i64 x.z) ∧ W.drew.cell? ⟨Bx, 1, none⟩ = some (.slice x.a x.n x.c) from ⟨c8, c9, x0, x1⟩)
 have K1 := hide (show ∀ X : World, X = (W.drew.setCell ⟨g, k * 2, none⟩ (.int .i64 x.z)).setCell ⟨g, k * 2 + 1, none⟩ (.slice x.a x.n x.c) → X.cell? ⟨g, 8, none⟩ = some (.int .i64 (st : Int)) ∧ X.cell? ⟨g, 9, none⟩ = some (.int .i64 (xs.length : Int)) ∧ X.cell? ⟨Bx, 0, none⟩ = some (.int .i64 x.z) ∧ X.cell? ⟨Bx, 1, none⟩ = some (.slice x.a x.n x.c) from by
  rintro X rfl
  have far : ∀ (Y : World) (i j : Nat) (v : Value), (Y.setCell ⟨g, i, none⟩ v).cell? ⟨Bx, j, none⟩ = Y.cell? ⟨Bx, j, none⟩ := fun Y i j v => World.cell?_setCell_other _ _ _ _ (by intro e; have := congrArg Addr.block e; simp only at this; omega)
  refine ⟨?_, ?_, ?_, ?_⟩
  ·rw [set_off (by omega), set_off (by omega)]; exact c8
  ·rw [set_off (by omega), set_off (by omega)]; exact c9
  ·rw [far, far]; exact x0
  ·rw [far, far]; exact x1)
 go_region_held3 (fun (X : World) => X.cell? ⟨g, 8, none⟩ = some (.int .i64 (st : Int)) ∧ X.cell? ⟨g, 9, none⟩ = some (.int .i64 (xs.length : Int)) ∧ X.cell? ⟨Bx, 0, none⟩ = some (.int .i64 x.z) ∧ X.cell? ⟨Bx, 1, none⟩ = some (.slice x.a x.n x.c))
  ((first | exact unhide K0 | exact unhide K1 _ rfl))
  ((go_at_call 121; refine (unhide HSL).mono ?_; rintro e w5 ⟨rfl, hw5⟩; rw [hw5]; clear hw5))
 obtain ⟨q8, q9, _, _⟩ := unhide K1 _ rfl
 have fr8' : ((W.drew.setCell ⟨g, k * 2, none⟩ (.int .i64 x.z)).setCell ⟨g, k * 2 + 1, none⟩ (.slice x.a x.n x.c)).frozen? ⟨g, 8, none⟩ = false := by rw [World.frozen?_setCell, World.frozen?_setCell]; exact fr8
 have fr9' : ((W.drew.setCell ⟨g, k * 2, none⟩ (.int .i64 x.z)).setCell ⟨g, k * 2 + 1, none⟩ (.slice x.a x.n x.c)).frozen? ⟨g, 9, none⟩ = false := by rw [World.frozen?_setCell, World.frozen?_setCell]; exact fr9
 have T2 := hide (show Turn [g] w ((W.drew.setCell ⟨g, k * 2, none⟩ (.int .i64 x.z)).setCell ⟨g, k * 2 + 1, none⟩ (.slice x.a x.n x.c)) from (((unhide T1).trans (Turn.of_below (Below.refl _ _).drew)).setCell (by simp) _ _).setCell (by simp) _ _)
 have HSL2 := hide (slot_any ((W.drew.setCell ⟨g, k * 2, none⟩ (.int .i64 x.z)).setCell ⟨g, k * 2 + 1, none⟩ (.slice x.a x.n x.c)) g st 1 q8 (unhide HR).1.s4 (by omega))
 rw [show ((1 : Nat) : Int) = 1 from rfl] at HSL2
 unfold RawI.v at HG HO
 rw [show ((W.setCell ⟨g, k * 2, none⟩ (.int .i64 x.z)).setCell ⟨g, k * 2 + 1, none⟩ (.slice x.a x.n x.c)).drew = (W.drew.setCell ⟨g, k * 2, none⟩ (.int .i64 x.z)).setCell ⟨g, k * 2 + 1, none⟩ (.slice x.a x.n x.c) from rfl]
 clear K0 K1 HSL p0 p1 fr0 fr1 fr8 fr9 c8 c9 x0 x1 T1 HR
 generalize (W.drew.setCell ⟨g, k * 2, none⟩ (.int .i64 x.z)).setCell ⟨g, k * 2 + 1, none⟩ (.slice x.a x.n x.c) = W2 at *
 by_cases hl : xs.length < 4
 ·have hl' : (xs.length : Int) < 4 := by omega
  have HG2 := hide (unhide HG hl)
  have HE := hide (show putSt st xs = st ∧ putL xs x = xs ++ [x] from ⟨by simp [putSt, hl], by simp [putL, hl]⟩)
  clear HG HO hl
  go_wp2_with fail
  refine bodyPost_ret (results_none rfl _ _ _) rfl ?_
  refine ⟨⟨_, rfl⟩, ?_, hide ((unhide T2).setCell (by simp) _ _)⟩
  rw [(unhide HE).1, (unhide HE).2]
  exact HG2
 ·have hl' : ¬ (xs.length : Int) < 4 := by omega
  have HG2 := hide (unhide HO (by omega))
  have HE := hide (show putSt st xs = (st + 1) % 4 ∧ putL xs x = xs.drop 1 ++ [x] from ⟨by simp [putSt, hl], by simp [putL, hl]⟩)
  clear HG HO hl
  go_wp2_with fail
  refine (unhide HSL2).mono ?_
  rintro e w5 ⟨rfl, hw5⟩
  rw [hw5]
  clear hw5
  go_wp2_with fail
  go_end0
  refine ⟨⟨_, rfl⟩, ?_, hide ((unhide T2).setCell (by simp) _ _)⟩
  rw [(unhide HE).1, (unhide HE).2]
  exact HG2
end Go.Proofs.YtknkdbfgfcgkiaaGreatDoor

set_option linter.unusedVariables false
namespace Go.Proofs.YtknkdbfgfcgkiaaGreatDoor
open Go.RowKit Go.Maps Go.Deep

def plainN (x : Nat) : Bool := (decide (97 ≤ x) && decide (x ≤ 122)) || (decide (48 ≤ x) && decide (x ≤ 57)) || decide (x = 45)
def plainB (s : ByteArray) : Bool := decide (1 ≤ s.size) && decide (s.size ≤ 8) && s.data.toList.all fun c => plainN c.toNat
/-- what the tests of a byte come to, by whether it may stand in a name -/
theorem plain_cases (n : Nat) : (plainN n = true ∧ ((97 ≤ (n : Int) ∧ (n : Int) ≤ 122) ∨ ((n : Int) < 97 ∧ 48 ≤ (n : Int) ∧ (n : Int) ≤ 57) ∨ ((n : Int) < 97 ∧ (n : Int) < 48 ∧ ((n : Int) != 45) = false))) ∨
  (plainN n = false ∧ ((n : Int) != 45) = true ∧ (((n : Int) < 97 ∧ (n : Int) < 48) ∨ ((n : Int) < 97 ∧ 48 ≤ (n : Int) ∧ 57 < (n : Int)) ∨ (97 ≤ (n : Int) ∧ 122 < (n : Int) ∧ 48 ≤ (n : Int) ∧ 57 < (n : Int)))) := by
 unfold plainN
 simp
 omega
def PlainTo (s : ByteArray) (k : Nat) : Prop := ∀ i (h : i < s.size), i < k → plainN s[i].toNat = true
theorem plain_short (s : ByteArray) (h : ¬ 1 ≤ s.size) : plainB s = false := by simp [plainB, h]
theorem plain_long (s : ByteArray) (h : ¬ s.size ≤ 8) : plainB s = false := by simp [plainB, h]
theorem plain_bad (s : ByteArray) (i : Nat) (h : i < s.size) (hf : plainN s[i].toNat = false) : plainB s = false := by
 have : (s.data.toList.all fun c => plainN c.toNat) = false := by
  rw [List.all_eq_false]
  exact ⟨s[i], by simp [ByteArray.getElem_eq_getElem_data], by simpa using hf⟩
 simp [plainB, this]
theorem plain_good (s : ByteArray) (h1 : 1 ≤ s.size) (h8 : s.size ≤ 8) (h : PlainTo s s.size) : plainB s = true := by
 have : (s.data.toList.all fun c => plainN c.toNat) = true := by
  rw [List.all_eq_true]
  intro c hc
  obtain ⟨i, hi, rfl⟩ := List.getElem_of_mem hc
  exact h i (by simpa using hi) (by simpa using hi)
 simp [plainB, this, h1, h8]
theorem PlainTo.step {s : ByteArray} {k : Nat} (h : PlainTo s k) (hk : k < s.size) (hp : plainN s[k].toNat = true) : PlainTo s (k + 1) := by
 intro i hi hik
 by_cases e : i = k
 ·subst e; exact hp
 ·exact h i hi (by omega)

set_option maxHeartbeats 1600000 in
theorem specPlain13_any (s : ByteArray) (w : World) (hs : s.size ≤ maxLen) : Calls Tryz.prog 81 #[.string s] w fun e w' => e = .returned (.bool (plainB s)) ∧ w' = w := by
 unfold maxLen at hs
 by_cases h1 : 1 ≤ s.size
 ·by_cases h8 : s.size ≤ 8
  ·have g1 : ¬ (s.size : Int) < 1 := by omega
   have g8 : ¬ (8 : Int) < (s.size : Int) := by omega
   go_enter Tryz.func81, Tryz.ntmps81
   go_wp2_with fail
   go_loop [3] (fun i => ∃ k : Nat, k ≤ s.size ∧ i = .int .i64 k ∧ Hid (PlainTo s k)) (fun i => s.size - (intOf i).toNat)
   case atStart => exact ⟨0, Nat.zero_le _, rfl, fun j _ hj => absurd hj (Nat.not_lt_zero _)⟩
   case round =>
    obtain ⟨k, hk, rfl, HP⟩ := hrel
    by_cases hlt : k < s.size
    ·rcases plain_cases s[k].toNat with ⟨hp, hc⟩ | ⟨hp, hne, hc⟩
     ·have HP2 := hide ((unhide HP).step hlt hp)
      clear hp
      rcases hc with ⟨c1, c2⟩ | ⟨c1, c2, c3⟩ | ⟨c1, c2, c3⟩
      all_goals
       go_wp2_with fail
       go_round
       case rel => exact ⟨k + 1, by omega, by go_num, HP2⟩
       case measure => simp [intOf]; omega
     ·have HB := hide (plain_bad s k hlt hp)
      clear hp
      rcases hc with ⟨c1, c2⟩ | ⟨c1, c2, c3⟩ | ⟨c1, c2, c3, c4⟩
      all_goals
       go_wp2_with fail
       go_ret
       exact ⟨ret_bool (unhide HB).symm, rfl⟩
    ·have HG := hide (plain_good s h1 h8 (fun i hi _ => unhide HP i hi (by omega)))
     go_wp2_with fail
     go_ret
     exact ⟨ret_bool (unhide HG).symm, rfl⟩
  ·have HB := hide (plain_long s h8)
   go_enter Tryz.func81, Tryz.ntmps81
   go_wp2_with fail
   go_ret
   exact ⟨ret_bool (unhide HB).symm, rfl⟩
 ·have HB := hide (plain_short s h1)
  go_enter Tryz.func81, Tryz.ntmps81
  go_wp2_with fail
  go_ret
  exact ⟨ret_bool (unhide HB).symm, rfl⟩
theorem conv_below (w : World) (e : TypeId) (s : ByteArray) : Below w.heap.size w (Lib.bytesWorld w e s) := by
 refine ⟨rfl, rfl, rfl, by rw [Lib.bytesWorld_size]; omega, fun k hk => Lib.bytesWorld_at_old w e s k hk⟩
theorem conv_cell (w : World) (e : TypeId) (s : ByteArray) (j : Nat) (hj : j < s.size) : (Lib.bytesWorld w e s).cell? ⟨w.heap.size, j, none⟩ = some (.int .u8 (s[j].toNat : Int)) := by
 rw [Lib.bytesWorld_cell w e s j hj]
 have : s.data.toList.getD j 0 = s[j] := by
  rw [List.getD_eq_getElem?_getD, List.getElem?_eq_getElem (by simpa using hj)]
  rfl
 rw [this]

set_option maxHeartbeats 1600000 in
theorem implPlain_any (s : ByteArray) (w : World) (hs : s.size ≤ maxLen) : Calls Tryz.prog 102 #[.string s] w fun e w' => e = .returned (.bool (plainB s)) ∧ Below w.heap.size w w' := by
 unfold maxLen at hs
 by_cases h1 : 1 ≤ s.size
 ·by_cases h8 : s.size ≤ 8
  ·have g1 : ¬ (s.size : Int) < 1 := by omega
   have g8 : ¬ (8 : Int) < (s.size : Int) := by omega
   have hcv := Lib.run_convert_string_bytes (P := Tryz.prog) w 9 166 5 s Tryz.underlying9 Tryz.underlying166 Tryz.underlying5
   have HB := hide (conv_below w 5 s)
   have HC := hide (conv_cell w 5 s)
   generalize Lib.bytesWorld w 5 s = w1 at *
   go_enter Tryz.func102, Tryz.ntmps102
   go_wp2_with fail
   clear hcv
   go_loop [16] (fun i => ∃ k : Nat, k ≤ s.size ∧ i = .int .i64 k ∧ Hid (PlainTo s k)) (fun i => s.size - (intOf i).toNat)
   case atStart => exact ⟨0, Nat.zero_le _, rfl, fun j _ hj => absurd hj (Nat.not_lt_zero _)⟩
   case round =>
    obtain ⟨k, hk, rfl, HP⟩ := hrel
    by_cases hlt : k < s.size
    ·have c0 := unhide HC k hlt
     rcases plain_cases s[k].toNat with ⟨hp, hc⟩ | ⟨hp, hne, hc⟩
     ·have HP2 := hide ((unhide HP).step hlt hp)
      clear hp
      rcases hc with ⟨c1, c2⟩ | ⟨c1, c2, c3⟩ | ⟨c1, c2, c3⟩
      all_goals
       go_wp2_with fail
       go_round
       case rel => exact ⟨k + 1, by omega, by go_num, HP2⟩
       case measure => simp [intOf]; omega
     ·have HBD := hide (plain_bad s k hlt hp)
      clear hp
      rcases hc with ⟨c1, c2⟩ | ⟨c1, c2, c3⟩ | ⟨c1, c2, c3, c4⟩
      all_goals
       go_wp2_with fail
       go_ret
       exact ⟨ret_bool (unhide HBD).symm, unhide HB⟩
    ·have HG := hide (plain_good s h1 h8 (fun i hi _ => unhide HP i hi (by omega)))
     go_wp2_with fail
     go_ret
     exact ⟨ret_bool (unhide HG).symm, unhide HB⟩
  ·have HB := hide (plain_long s h8)
   go_enter Tryz.func102, Tryz.ntmps102
   go_wp2_with fail
   go_ret
   exact ⟨ret_bool (unhide HB).symm, Below.refl _ _⟩
 ·have HB := hide (plain_short s h1)
  go_enter Tryz.func102, Tryz.ntmps102
  go_wp2_with fail
  go_ret
  exact ⟨ret_bool (unhide HB).symm, Below.refl _ _⟩
end Go.Proofs.YtknkdbfgfcgkiaaGreatDoor
