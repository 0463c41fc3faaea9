/-
  Windows: the last item of the program's ring.
-/
import Derived.Test.YtpiapgjiaeddjaaWinIter
import Derived.RangeFuncBox
set_option linter.unusedVariables false
namespace Go.Proofs.Ytpiapgjiaeddjaa
open Go.RowKit Go.Maps Go.Shelf

attribute [local go_sem] Oper.semAt_some

theorem ownFrom_sizeW {α : Type} (B n : Nat) : OwnFrom B (fun (_ : α) W => n ≤ W.heap.size) := fun s W W' row hs hg hr => Nat.le_trans hs hg.size
def lastOr (xs : List RawI) : RawI := xs.getLast?.getD ringX0
theorem lastL_one {xs : List RawI} {y : Nat × RawI} {k : Nat} (hk : k ≤ xs.length) (h : [y] = lastL xs k) : xs ≠ [] ∧ y.2 = lastOr xs := by
  have hl := congrArg List.length h
  rw [lastL_len] at hl
  simp at hl
  subst hl
  have hne : xs ≠ [] := by rintro rfl; simp at hk
  refine ⟨hne, ?_⟩
  simp [lastL] at h
  rw [h]
  simp [lastOr, List.getLast?_eq_getElem?]
theorem lastL_nil {xs : List RawI} (h : ([] : List (Nat × RawI)) = lastL xs xs.length) : xs = [] := by
  have hl := congrArg List.length h
  rw [lastL_len] at hl
  exact List.eq_nil_of_length_eq_zero hl.symm

theorem set3 {W : World} {g : Nat} {a b c : Value} (h0 : W.cell? ⟨g, 0, none⟩ = some a) (h1 : W.cell? ⟨g, 1, none⟩ = some b) (h2 : W.cell? ⟨g + 1, 0, none⟩ = some c) (x y z : Value) :
    (((W.setCell ⟨g, 0, none⟩ x).setCell ⟨g, 1, none⟩ y).setCell ⟨g + 1, 0, none⟩ z).cell? ⟨g, 0, none⟩ = some x ∧ (((W.setCell ⟨g, 0, none⟩ x).setCell ⟨g, 1, none⟩ y).setCell ⟨g + 1, 0, none⟩ z).cell? ⟨g, 1, none⟩ = some y ∧ (((W.setCell ⟨g, 0, none⟩ x).setCell ⟨g, 1, none⟩ y).setCell ⟨g + 1, 0, none⟩ z).cell? ⟨g + 1, 0, none⟩ = some z := by
  have n1 : (⟨g, 0, none⟩ : Addr) ≠ ⟨g, 1, none⟩ := by intro e; cases e
  have n2 : (⟨g, 0, none⟩ : Addr) ≠ ⟨g + 1, 0, none⟩ := by intro e; have := congrArg Addr.block e; simp at this
  have n3 : (⟨g, 1, none⟩ : Addr) ≠ ⟨g + 1, 0, none⟩ := by intro e; have := congrArg Addr.block e; simp at this
  refine ⟨?_, ?_, ?_⟩
  · rw [World.cell?_setCell_other _ _ _ _ (Ne.symm n2), World.cell?_setCell_other _ _ _ _ (Ne.symm n1)]
    exact World.cell?_setCell_same _ _ _ h0
  · rw [World.cell?_setCell_other _ _ _ _ (Ne.symm n3)]
    exact World.cell?_setCell_same _ _ _ (by rw [World.cell?_setCell_other _ _ _ _ n1]; exact h1)
  · exact World.cell?_setCell_same _ _ _ (by rw [World.cell?_setCell_other _ _ _ _ n3, World.cell?_setCell_other _ _ _ _ n2]; exact h2)

set_option maxRecDepth 100000 in
set_option maxHeartbeats 4000000 in
theorem last_in (g st : Nat) (xs : List RawI) (w : World) (hr : RingAt w g st xs) :
    CallsIn Fence.wide 3 Try.prog 68 #[.pointer (some ⟨g, 0, none⟩)] w fun e w' => e = .returned (.tuple #[.agg #[.int .i64 (lastOr xs).z, .slice (lastOr xs).a (lastOr xs).n (lastOr xs).c], .bool (decide (xs ≠ []))]) ∧ Below w.heap.size w w' := by
  have hgl := hr.lt
  have bI := (boxI_new w ringX0)
  have bl := (Below.refl w.heap.size w).alloc (Nat.le_refl _) (.cells #[.int .i64 0, .slice none 0 0] 55)
  have bB := Boxed.new (w.alloc (.cells #[.int .i64 0, .slice none 0 0] 55)) 4 (.bool false)
  have bl2 := bl.alloc (by simp) (.cells #[.bool false] 4)
  have bI2 := boxI_alloc bI (.cells #[.bool false] 4)
  rw [World.size_alloc] at bB
  refine callsIn_of_wp_marks Try.func68 rfl trivial ?_ rfl
  simp only [Try.ntmps68, List.size_toArray, List.length_cons, List.length_nil, Nat.reduceAdd, Nat.reduceSub, Array.replicate_succ, Array.replicate_zero, List.push_toArray, List.append_toArray, List.nil_append, List.cons_append]
  gi_wp2_with fail
  refine ⟨trivial, ?_⟩
  change BoxI ((w.alloc (.cells #[.int .i64 0, .slice none 0 0] 55)).alloc (.cells #[.bool false] 4)) _ _ at bI2
  have hz : ((w.alloc (.cells #[.int .i64 0, .slice none 0 0] 55)).alloc (.cells #[.bool false] 4)).heap.size = w.heap.size + 2 := by simp
  generalize (w.alloc (.cells #[.int .i64 0, .slice none 0 0] 55)).alloc (.cells #[.bool false] 4) = W1 at *
  clear bl bI
  refine (ringSeq_in 2 g W1).mono ?_
  rintro e W0 ⟨rfl, hW0⟩
  have bA := (Boxed.new W1 121 (.pointer (some ⟨g, 0, none⟩))).cell
  rw [← hW0] at bA
  have hs0 : W0.heap.size = w.heap.size + 3 := by rw [hW0]; simp; omega
  have b0 : Below W1.heap.size W1 W0 := by rw [hW0]; exact (Below.refl _ _).alloc (Nat.le_refl _) _
  have bI0 := boxI_up bI2 b0
  have bB0 : Boxed W0 (w.heap.size + 1) 4 (.bool false) := (b0.block _ bB.lt).trans bB
  have bl0 := bl2.trans (b0.mono (by omega))
  rw [hz] at bA
  rw [hz]
  clear hW0 b0 bI2 bB bl2
  gi_wp2_with fail
  refine wpIn_rangeFunc_ownH rfl (by omega) (gf := 95) (lb := #[.pointer (some ⟨w.heap.size + 2, 0, none⟩)]) rfl trivial (enters_of Try.func95 (by kernel_rfl) rfl)
    (last_stops 2 (by omega) (w.heap.size + 2) (w.heap.size + 3) g st xs [] (by omega) (by omega) (by simp) (by simp) W0 (by omega) bA (hr.up bl0)) keepK_t (keepK_b (by omega)) (Below.refl _ _) (fun _ => rfl)
    (fun pre W => ((pre = [] ∧ BoxI W w.heap.size ringX0) ∧ Boxed W (w.heap.size + 1) 4 (.bool false)) ∧ Below w.heap.size w W ∧ w.heap.size + 3 ≤ W.heap.size)
    (fun c pre W => (c = .ret ∧ ∃ last : RIt xs, pre = [last] ∧ (W.cell? ⟨w.heap.size, 0, none⟩ = some (.int .i64 last.1.2.z) ∧ W.cell? ⟨w.heap.size, 1, none⟩ = some (.slice last.1.2.a last.1.2.n last.1.2.c)) ∧ W.cell? ⟨w.heap.size + 1, 0, none⟩ = some (.bool true)) ∧ Below w.heap.size w W)
    (OwnFrom.and (OwnFrom.and (OwnFrom.and (ownFrom_pure _ _) (Own.from (fun _ X Y row hs hg hrow => boxI_own w.heap.size ringX0 () X Y row hs hg hrow) _)) (Own.from (boxed_own _ _ _) _)) (OwnFrom.and (ownFrom_below (Nat.le_refl _) (by omega)) (ownFrom_sizeW _ _)))
    (fun c => OwnFrom.and (Own.from (fun s A B row hs hg hr => by obtain ⟨hc, last, e1, ⟨e2, e3⟩, e4⟩ := hs; exact ⟨hc, last, e1, ⟨cell_kept e2 hg hr, cell_kept e3 hg hr⟩, cell_kept e4 hg hr⟩) _) (ownFrom_below (Nat.le_refl _) (by omega)))
    ⟨⟨⟨rfl, bI0⟩, bB0⟩, bl0, by omega⟩
    (fun x a' W => ∃ Bx, w.heap.size + 1 < Bx ∧ BoxI W Bx x.1.2 ∧ a' = { tmps := #[.pointer (some ⟨g, 0, none⟩), undef, .pointer (some ⟨w.heap.size, 0, none⟩), .pointer (some ⟨w.heap.size + 1, 0, none⟩), undef, .pointer (some ⟨Bx, 0, none⟩), undef, .pointer (some ⟨g, 0, none⟩), .func (.func 95) #[] #[.pointer (some ⟨w.heap.size + 2, 0, none⟩)], .int .i64 (x.1.1 : Int), .agg #[.int .i64 x.1.2.z, .slice x.1.2.a x.1.2.n x.1.2.c], undef, undef], defers := [] })
    (fun x a' _ X Y row hs hg hr => by obtain ⟨Bx, e1, e2, e3⟩ := hs; exact ⟨Bx, e1, boxI_own Bx x.1.2 () X Y row e2 hg (fun r e => (hr r e).2), e3⟩)
    ?assign ?body ?done ?stop
  case assign =>
    rintro l pre x W K ⟨⟨⟨hp, bI1⟩, bB1⟩, hB1, hz0⟩ hK
    simp only [encI, RawI.v]
    gi_wp2
    exact hK _ _ ((KeepsOthers.alloc _ _).from _) ((Keep.refl _ _ W).alloc (by omega) _) ⟨⟨⟨hp, boxI_alloc bI1 _⟩, bB1.alloc _⟩, hB1.alloc (by omega) _, by simp; omega⟩ ⟨W.heap.size, by omega, boxI_new W _, rfl⟩
  case body =>
    rintro l pre x a' W hl ⟨r, hr⟩ ⟨⟨⟨hp, bI1⟩, bB1⟩, hB1, hz0⟩ ⟨Bx, hBx, bX, rfl⟩ hlt
    have cR := bB1.cell
    have fR := bB1.frozen
    obtain ⟨x0, x1⟩ := boxI_cells bX
    obtain ⟨y0, y1⟩ := boxI_cells bI1
    have f0 := boxI_frozen bI1 0
    have f1 := boxI_frozen bI1 1
    subst hp
    gi_wp2
    obtain ⟨s0, s1, s2⟩ := set3 (g := w.heap.size) y0 y1 cR (.int .i64 x.1.2.z) (.slice x.1.2.a x.1.2.n x.1.2.c) (.bool true)
    exact ⟨(((KeepsOthers.setCell _ _ _).trans (KeepsOthers.setCell _ _ _)).trans (KeepsOthers.setCell _ _ _)).from _, ⟨rfl, x, rfl, ⟨s0, s1⟩, s2⟩, ((hB1.setCell (p := ⟨w.heap.size, 0, none⟩) (by simp) _).setCell (p := ⟨w.heap.size, 1, none⟩) (by simp) _).setCell (p := ⟨w.heap.size + 1, 0, none⟩) (by simp) _⟩
  case done =>
    rintro D ys W hD hys ⟨⟨⟨hp, bI1⟩, bB1⟩, hB1, hz0⟩ hK
    subst hp
    have hxs := lastL_nil hys
    subst hxs
    have bB2 := bB1.alloc (.cells #[.int .i64 0, .slice none 0 0] 55)
    have bI2 := boxI_alloc bI1 (.cells #[.int .i64 0, .slice none 0 0] 55)
    have cR := bB2.cell
    have fR := bB2.frozen
    obtain ⟨y0, y1⟩ := boxI_cells bI2
    have f0 := boxI_frozen bI2 0
    have f1 := boxI_frozen bI2 1
    have hK2 := ((KeepsOthers.alloc W (.cells #[.int .i64 0, .slice none 0 0] 55))).same D _ hK rfl
    have hB2 := hB1.alloc (by omega) (.cells #[.int .i64 0, .slice none 0 0] 55)
    have HX := hide bI1
    clear bI1 bB1 bI2 bB2 hr hys
    gi_wp2
    obtain ⟨s0, s1, s2⟩ := set3 (g := w.heap.size) y0 y1 cR (.int .i64 0) (.slice none 0 0) (.bool false)
    have hB3 := ((hB2.setCell (p := ⟨w.heap.size, 0, none⟩) (by simp) (.int .i64 0)).setCell (p := ⟨w.heap.size, 1, none⟩) (by simp) (.slice none 0 0)).setCell (p := ⟨w.heap.size + 1, 0, none⟩) (by simp) (.bool false)
    have hK3 := (((KeepsOthers.setCell (W.alloc (.cells #[.int .i64 0, .slice none 0 0] 55)) ⟨w.heap.size, 0, none⟩ (.int .i64 0)).trans (KeepsOthers.setCell _ ⟨w.heap.size, 1, none⟩ (.slice none 0 0))).trans (KeepsOthers.setCell _ ⟨w.heap.size + 1, 0, none⟩ (.bool false))).same D _ hK2 rfl
    refine ⟨by simp, .inl ⟨_, _, rfl, run_takeDeferred hK3, ?_⟩⟩
    have q0 := cell_kept s0 (grownBy_putObj' _ D (.deferred none)) (fun r e => by cases e; exact ⟨_, hK3, rfl⟩)
    have q1 := cell_kept s1 (grownBy_putObj' _ D (.deferred none)) (fun r e => by cases e; exact ⟨_, hK3, rfl⟩)
    have q2 := cell_kept s2 (grownBy_putObj' _ D (.deferred none)) (fun r e => by cases e; exact ⟨_, hK3, rfl⟩)
    refine ⟨.tuple #[.agg #[.int .i64 0, .slice none 0 0], .bool false], ?_, by simp [lastOr, ringX0], hB3.trans (belowK_b (w := w) (Nat.le_refl _) _ D _ _ (by omega) hK3 rfl rfl)⟩
    simp [results, Try.f68, go_sem, q0, q1, q2]
  case stop =>
    rintro D c pre W hD ⟨k, hk, hpre⟩ ⟨⟨rfl, last, rfl, ⟨e1, e2⟩, e3⟩, hB⟩ hK
    obtain ⟨hne, hla⟩ := lastL_one hk hpre
    gi_wp2
    refine ⟨by simp, .inl ⟨_, _, rfl, run_takeDeferred hK, ?_⟩⟩
    have q0 := cell_kept e1 (grownBy_putObj' _ D (.deferred none)) (fun r e => by cases e; exact ⟨_, hK, rfl⟩)
    have q1 := cell_kept e2 (grownBy_putObj' _ D (.deferred none)) (fun r e => by cases e; exact ⟨_, hK, rfl⟩)
    have q2 := cell_kept e3 (grownBy_putObj' _ D (.deferred none)) (fun r e => by cases e; exact ⟨_, hK, rfl⟩)
    refine ⟨.tuple #[.agg #[.int .i64 last.1.2.z, .slice last.1.2.a last.1.2.n last.1.2.c], .bool true], ?_, by rw [hla], hB.trans (belowK_b (w := w) (Nat.le_refl _) W D _ _ (by omega) hK rfl rfl)⟩
    simp [results, Try.f68, go_sem, q0, q1, q2]
/-- the ring's last item, and whether there is one -/
theorem last_any (g st : Nat) (xs : List RawI) (w : World) (hr : RingAt w g st xs) :
    Calls Try.prog 68 #[.pointer (some ⟨g, 0, none⟩)] w fun e w' => e = .returned (.tuple #[.agg #[.int .i64 (lastOr xs).z, .slice (lastOr xs).a (lastOr xs).n (lastOr xs).c], .bool (decide (xs ≠ []))]) ∧ Below w.heap.size w w' :=
  (callsIn_wide (n := 3)).1 (last_in g st xs w hr)
end Go.Proofs.Ytpiapgjiaeddjaa
