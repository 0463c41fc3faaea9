/-
  StampJoin of the program.
-/
import Derived.Test.YtknkdbfgfcgkiaaGreatDoorMerged32
set_option linter.unusedVariables false
namespace Go.Proofs.YtknkdbfgfcgkiaaGreatDoor
open Go.RowKit Go.Maps Go.Deep Go.Shelf

attribute [local go_sem] Oper.semAt_some

set_option maxRecDepth 100000 in
set_option maxHeartbeats 8000000 in
theorem join_yesyes (a b : Option Addr) (ca cb : Nat) (xa xb : List MarkV) (w : World) (hsa : SmallMarkS xa) (hsb : SmallMarkS xb) (oa : mstampB xa = true) (ob : mstampB xb = true) (hA : MarkIn w a xa) (hB : MarkIn w b xb) :
  CallsIn Fence.wide 3 Tryz.prog 115 #[.slice a xa.length ca, .slice b xb.length cb] w fun e w' => RetJoin xa xb w e w' := by
 have hla := mstamp_len oa
 have hpairs := side_small hsa hsb oa ob
 have hlb := mstamp_len ob
 have HO1 := hide (fun W (bb : Below w.heap.size w W) => implStampOk_any xa (.slice a xa.length ca) W hsa ⟨a, ca, rfl, hA.below bb⟩)
 have HO2 := hide (fun W (bb : Below w.heap.size w W) => implStampOk_any xb (.slice b xb.length cb) W hsb ⟨b, cb, rfl, hB.below bb⟩)
 rw [oa] at HO1
 rw [ob] at HO2
 have bR := (Boxed.new w 34 (.slice none 0 0)).alloc (.cells #[.bool false] 4)
 have bQ := Boxed.new (w.alloc (.cells #[.slice none 0 0] 34)) 4 (.bool false)
 rw [World.size_alloc] at bQ
 have bl := ((Below.refl w.heap.size w).alloc (Nat.le_refl _) (.cells #[.slice none 0 0] 34)).alloc (by simp) (.cells #[.bool false] 4)
 have hz : w.heap.size + 2 ≤ ((w.alloc (.cells #[.slice none 0 0] 34)).alloc (.cells #[.bool false] 4)).heap.size := by simp
 refine callsIn_of_wp_marks Tryz.func115 rfl trivial ?_ rfl
 simp only [Tryz.ntmps115, List.size_toArray, List.length_cons, List.length_nil, Nat.reduceAdd, Nat.reduceSub, Array.replicate_succ, Array.replicate_zero, List.push_toArray, List.append_toArray, List.nil_append, List.cons_append]
 gi_wp2_with fail
 generalize (w.alloc (.cells #[.slice none 0 0] 34)).alloc (.cells #[.bool false] 4) = w0 at *
 refine ⟨trivial, ?_⟩
 refine (callsIn_wide.2 (unhide HO1 _ bl)).mono ?_
 rintro e w1 ⟨rfl, b1⟩
 have bR1 := boxed_up bR b1
 have bQ1 := boxed_up bQ b1
 have bl1 := bl.trans (b1.mono bl.size)
 have hz1 := Nat.le_trans hz b1.size
 clear b1 bR bQ bl hz
 gi_wp2_with fail
 refine ⟨trivial, ?_⟩
 refine (callsIn_wide.2 (unhide HO2 _ bl1)).mono ?_
 rintro e w2 ⟨rfl, b2⟩
 have bR2 := boxed_up bR1 b2
 have bQ2 := boxed_up bQ1 b2
 have bl2 := bl1.trans (b2.mono bl1.size)
 have hz2 := Nat.le_trans hz1 b2.size
 clear b2 bR1 bQ1 bl1 hz1
 gi_wp2_with fail
 refine ⟨trivial, ?_⟩
 refine (side_in 2 _ _ _ _ _ _ _).mono ?_
 rintro e W0 ⟨rfl, hW0⟩
 have bJ := ((Boxed.new w2 34 (.slice none 0 0)).alloc (.cells #[.slice a xa.length ca] 34)).alloc (.cells #[.slice b xb.length cb] 34)
 have bA := ((Boxed.new (w2.alloc (.cells #[.slice none 0 0] 34)) 34 (.slice a xa.length ca)).alloc (.cells #[.slice b xb.length cb] 34)).cell
 have bB := (Boxed.new ((w2.alloc (.cells #[.slice none 0 0] 34)).alloc (.cells #[.slice a xa.length ca] 34)) 34 (.slice b xb.length cb)).cell
 simp only [World.size_alloc] at bA bB
 rw [← hW0] at bJ bA bB
 have hs0 : W0.heap.size = w2.heap.size + 3 := by rw [hW0]; simp
 have b0 : Below w2.heap.size w2 W0 := by rw [hW0]; exact (((Below.refl _ _).alloc (Nat.le_refl _) _).alloc (by simp) _).alloc (by simp; omega) _
 have bR0 := boxed_up bR2 b0
 have bQ0 := boxed_up bQ2 b0
 have bl0 := bl2.trans (b0.mono (by omega))
 clear hW0 b0 bR2 bQ2 bl2
 gi_wp2_with fail
 refine wpIn_rangeFunc_ownH rfl (by omega) (gf := 131) (lb := #[.pointer (some ⟨w2.heap.size + 1, 0, none⟩), .pointer (some ⟨w2.heap.size + 1 + 1, 0, none⟩)]) rfl trivial (enters_of Tryz.func131 (by kernel_rfl) rfl)
  (side_stopsB 2 (by omega) (w2.heap.size + 1) (w2.heap.size + 1 + 1) (w2.heap.size + 3) a b ca cb xa xb hla hlb [w2.heap.size] (by omega) (by omega) (by simp) (by simp; omega) W0 (by omega) bA bB (markIn_low hA (by omega) (by simp; omega) bl0) (markIn_low hB (by omega) (by simp; omega) bl0) hpairs) keepK_t (keepK_b (by omega)) (Below.refl _ _) (fun _ => rfl)
  (fun pre W => (((∃ v, Boxed W w2.heap.size 34 v ∧ W.ownsRow (w2.heap.size + 3) 112 2 v (pre.map maxQ).length (mkCells (pre.map maxQ)) ∧ pre.length ≤ 12) ∧ Boxed W w.heap.size 34 (.slice none 0 0)) ∧ Boxed W (w.heap.size + 1) 4 (.bool false)) ∧ Below w.heap.size w W ∧ w2.heap.size + 3 ≤ W.heap.size)
  (fun c pre W => ((c = .ret ∧ 13 ≤ pre.length) ∧ Boxed W w.heap.size 34 (.slice none 0 0) ∧ Boxed W (w.heap.size + 1) 4 (.bool false)) ∧ Below w.heap.size w W)
  (OwnFrom.and (OwnFrom.and (OwnFrom.and (Own.from (holdsRow_own _ _ _ _ _ (fun (pre : List MPair) => (pre.map maxQ).length) (fun (pre : List MPair) => mkCells (pre.map maxQ)) (fun (pre : List MPair) _ => pre.length ≤ 12)) _) (Own.from (boxed_own _ _ _) _)) (Own.from (boxed_own _ _ _) _)) (OwnFrom.and (ownFrom_below (Nat.le_refl _) (by omega)) (ownFrom_size _ _)))
  (fun c => OwnFrom.and (OwnFrom.and (ownFrom_pure _ _) (OwnFrom.and (Own.from (boxed_own _ _ _) _) (Own.from (boxed_own _ _ _) _))) (ownFrom_below (Nat.le_refl _) (by omega)))
  ⟨⟨⟨⟨_, bJ, (MkRow.nil _ _), by simp⟩, bR0⟩, bQ0⟩, bl0, by omega⟩
  (fun x a' W => ∃ Bx By, (∃ v, Boxed W w2.heap.size 34 v ∧ ∀ g, v.ownBlock = some g → ¬ g = Bx) ∧ w2.heap.size + 3 ≤ Bx ∧ w2.heap.size + 3 ≤ By ∧ Bx < By ∧ BoxM W Bx x.1.1 ∧ BoxM W By x.1.2 ∧ a' = { tmps := #[.slice a xa.length ca, .slice b xb.length cb, undef, undef, .pointer (some ⟨w.heap.size, 0, none⟩), .pointer (some ⟨w.heap.size + 1, 0, none⟩), .pointer (some ⟨w2.heap.size, 0, none⟩), .pointer (some ⟨Bx, 0, none⟩), .pointer (some ⟨By, 0, none⟩), .slice a xa.length ca, .bool true, .bool false, .bool false, .slice b xb.length cb, .bool true, .bool false, .bool false, .slice a xa.length ca, .slice b xb.length cb, .func (.func 131) #[] #[.pointer (some ⟨w2.heap.size + 1, 0, none⟩), .pointer (some ⟨w2.heap.size + 1 + 1, 0, none⟩)], .agg #[.string x.1.1.a0, .int .i64 x.1.1.a1], .agg #[.string x.1.2.a0, .int .i64 x.1.2.a1], undef, undef, undef, undef, undef, undef, undef, undef, undef, undef, undef, undef, undef, undef, undef], defers := [] })
  (fun x a' _ X Y row hs hg hr => by obtain ⟨Bx, By, ⟨v, e5, e6⟩, e1, e1', e4, e2, e2', e3⟩ := hs; exact ⟨Bx, By, ⟨v, boxed_own w2.heap.size 34 (fun (_ : Unit) => v) () X Y row e5 hg (fun r e => (hr r e).2), e6⟩, e1, e1', e4, boxM_own Bx x.1.1 () X Y row e2 hg (fun r e => (hr r e).2), boxM_own By x.1.2 () X Y row e2' hg (fun r e => (hr r e).2), e3⟩)
  ?assign ?body ?done ?stop
 case assign =>
  rintro l pre x W K ⟨⟨⟨⟨v, bJ1, rJ1, h12⟩, bR1⟩, bQ1⟩, hB1, hz0⟩ hK
  simp only [encM]
  gi_wp2
  exact hK _ _ (((KeepsOthers.alloc _ _).trans (KeepsOthers.alloc _ _)).from _) (((Keep.refl _ _ W).alloc (by omega) _).alloc (by simp; omega) _) ⟨⟨⟨⟨v, (bJ1.alloc _).alloc _, (rJ1.alloc _).alloc _, h12⟩, (bR1.alloc _).alloc _⟩, (bQ1.alloc _).alloc _⟩, (hB1.alloc (by omega) _).alloc (by simp; omega) _, by simp; omega⟩
   ⟨W.heap.size, W.heap.size + 1, ⟨v, (bJ1.alloc _).alloc _, fun g hg e => by have := (show MkRow (w2.heap.size + 3) W v (pre.map maxQ) from rJ1).lt g hg; omega⟩, by omega, by omega, by omega, (Below.heap_alloc _ _ _ (by simp)).trans (heap_alloc_new W _), by have := heap_alloc_new (W.alloc (.cells #[.string x.1.1.a0, .int .i64 x.1.1.a1] 112)) (.cells #[.string x.1.2.a0, .int .i64 x.1.2.a1] 112); rw [World.size_alloc] at this; exact this, rfl⟩
 case body =>
  rintro l pre x a' W hl ⟨r, hr⟩ ⟨⟨⟨⟨v, bJ1, rJ1, h12⟩, bR1⟩, bQ1⟩, hB1, hz0⟩ ⟨Bx, By, ⟨v', bJ', hnB⟩, hBx, hBy, hxy, bX, bY, rfl⟩ hlt
  obtain rfl : v = v' := by
   have := (show W.heap[w2.heap.size]? = _ from bJ1).symm.trans bJ'
   simpa using this
  clear bJ'
  obtain ⟨x0, x1⟩ := boxM_cells bX
  obtain ⟨y0, y1⟩ := boxM_cells bY
  have fx0 := boxM_frozen bX 0
  have fx1 := boxM_frozen bX 1
  rw [List.length_map] at rJ1
  have hsm1 := x.2.1
  have hsm2 := x.2.2
  have rJ : MkRow (w2.heap.size + 3) W v (pre.map maxQ) := by unfold MkRow; rw [List.length_map]; exact rJ1
  obtain ⟨av, cv, hv⟩ := rJ.slice
  rw [List.length_map] at hv
  subst hv
  clear rJ1
  have rJ1 := rJ
  have cJ := bJ1.cell
  have fJ := bJ1.frozen
  have cR := bR1.cell
  have fR := bR1.frozen
  have cQ := bQ1.cell
  have fQ := bQ1.frozen
  have n1 : ¬ (w.heap.size = w.heap.size + 1) := by omega
  by_cases hfull : pre.length = 12
  ·have q1 : ((pre.length : Int) == 12) = true := by rw [hfull]; rfl
   gi_wp2
   exact ⟨((KeepsOthers.setCell _ _ _).trans (KeepsOthers.setCell _ _ _)).from _, ⟨⟨rfl, by simp; omega⟩, (bR1.set _).other (by omega) _, (bQ1.other (by omega) _).set _⟩, (hB1.setCell (p := ⟨w.heap.size, 0, none⟩) (by simp) _).setCell (p := ⟨w.heap.size + 1, 0, none⟩) (by simp) _⟩
  ·have q1 : ((pre.length : Int) == 12) = false := by rw [beq_eq_false_iff_ne]; omega
   by_cases h1 : x.1.1.a1 < x.1.2.a1
   ·have hm : maxQ x = x.1.2 := by unfold maxQ maxP; rw [if_pos h1]
    have tB : Turn [Bx] W ((W.setCell ⟨Bx, 0, none⟩ (.string x.1.2.a0)).setCell ⟨Bx, 1, none⟩ (.int .i64 x.1.2.a1)) := ((Turn.refl [Bx] W).setCell (by simp) _ _).setCell (by simp) _ _
    have zB : ((W.setCell ⟨Bx, 0, none⟩ (.string x.1.2.a0)).setCell ⟨Bx, 1, none⟩ (.int .i64 x.1.2.a1)).heap.size = W.heap.size := by simp
    have k0 : ((W.setCell ⟨Bx, 0, none⟩ (.string x.1.2.a0)).setCell ⟨Bx, 1, none⟩ (.int .i64 x.1.2.a1)).cell? ⟨Bx, 0, none⟩ = some (.string x.1.2.a0) := (World.cell?_setCell_other _ _ _ _ (by simp)).trans (World.cell?_setCell_same _ _ _ x0)
    have k1 : ((W.setCell ⟨Bx, 0, none⟩ (.string x.1.2.a0)).setCell ⟨Bx, 1, none⟩ (.int .i64 x.1.2.a1)).cell? ⟨Bx, 1, none⟩ = some (.int .i64 x.1.2.a1) := World.cell?_setCell_same _ _ _ ((World.cell?_setCell_other _ _ _ _ (by simp)).trans x1)
    have kk : KeepsOthers W ((W.setCell ⟨Bx, 0, none⟩ (.string x.1.2.a0)).setCell ⟨Bx, 1, none⟩ (.int .i64 x.1.2.a1)) := (KeepsOthers.setCell _ _ _).trans (KeepsOthers.setCell _ _ _)
    gi_wp2
    generalize ((W.setCell ⟨Bx, 0, none⟩ (.string x.1.2.a0)).setCell ⟨Bx, 1, none⟩ (.int .i64 x.1.2.a1)) = W1 at *
    have bJ2 : Boxed W1 w2.heap.size 34 (.slice av pre.length cv) := (tB.block _ bJ1.lt (by simp; omega)).trans bJ1
    have bR2 : Boxed W1 w.heap.size 34 (.slice none 0 0) := (tB.block _ bR1.lt (by simp; omega)).trans bR1
    have bQ2 : Boxed W1 (w.heap.size + 1) 4 (.bool false) := (tB.block _ bQ1.lt (by simp; omega)).trans bQ1
    have r2 : MkRow (w2.heap.size + 3) W1 (.slice av pre.length cv) (pre.map maxQ) := (rJ1 : MkRow _ _ _ _).keep (fun g hg => tB.block g ((rJ1 : MkRow _ _ _ _).lt g hg) (by simpa using hnB g hg))
    obtain ⟨m, hmm⟩ : ∃ m, x.1.2 = m := ⟨_, rfl⟩
    rw [hmm] at hm k0 k1
    have HF := hide (show ∀ X, Below W1.heap.size W1 X → Boxed X w2.heap.size 34 (.slice av pre.length cv) ∧ MkRow (w2.heap.size + 3) X (.slice av pre.length cv) (pre.map maxQ) ∧ X.cell? ⟨Bx, 0, none⟩ = some (.string m.a0) ∧ X.cell? ⟨Bx, 1, none⟩ = some (.int .i64 m.a1) from fun X b => ⟨boxed_up bJ2 b, r2.up b, (b.cell (lt_of_cell0 k0)).trans k0, (b.cell (lt_of_cell0 k1)).trans k1⟩)
    have HOWN := hide (fun X => markOwn_any m.a0 m.a1 X (by rw [← hmm]; exact hsm2))
    have HJ6 := hide (show ∀ w5, Below W1.heap.size W1 w5 → ∀ w6, (w5.alloc (.cells #[.string m.a0, .int .i64 m.a1] 112)).grownBy w6 (Value.slice av pre.length cv).ownBlock → w6.cell? ⟨w2.heap.size, 0, none⟩ = some (.slice av pre.length cv) ∧ w6.frozen? ⟨w2.heap.size, 0, none⟩ = false from fun w5 b5 w6 hg6 => by
     have hb := ((boxed_up bJ2 b5).alloc (.cells #[.string m.a0, .int .i64 m.a1] 112)).kept hg6 (fun e => by have := r2.ge _ e.symm; omega)
     exact ⟨hb.cell, hb.frozen⟩)
    have LEAF := hide (show ∀ w5, Below W1.heap.size W1 w5 → ∀ g6 n6 c6 w6, MkRow (w2.heap.size + 3) w6 (.slice (some ⟨g6, 0, none⟩) n6 c6) (pre.map maxQ ++ [m]) → (w5.alloc (.cells #[.string m.a0, .int .i64 m.a1] 112)).grownBy w6 (Value.slice av pre.length cv).ownBlock → JoinPost w w2 (pre ++ [x]) W (w6.setCell ⟨w2.heap.size, 0, none⟩ (.slice (some ⟨g6, 0, none⟩) n6 c6)) from fun w5 b5 g6 n6 c6 w6 hr6 hg6 => by
     refine join_leaf (m := m) (B := Bx) hz2 hz0 tB zB kk bJ2 bR2 bQ2 r2 hBx hB1 b5 hr6 hg6 ?_ (by simp; omega)
     rw [List.map_append, List.map_cons, List.map_nil, hm])
    refine wpIn_region_any (by kernel_rfl) ?_
    change wpAnyIn _ _ _ _ _ _ _ _ _ (World.drew _)
    have b1 : Below W1.heap.size W1 W1.drew := (Below.refl _ _).drew
    obtain ⟨fJ1, fR1, y0, y1⟩ := unhide HF W1.drew b1
    have cJ1 := fJ1.cell
    refine wpAnyIn_ready (rs := [0, 1]) (by kernel_rfl) (by simp) ?_
    refine AllReadyIn.cons rfl (fun K hK => ?_) (AllReadyIn.cons rfl (fun K hK => ?_) AllReadyIn.nil)
    ·have hKK := hK
     clear hK
     go_simp
     refine hKK _ _ ?_
     clear hKK K
     try simp
     refine wpAnyIn_ready (rs := [1]) (by kernel_rfl) (by simp) ?_
     refine AllReadyIn.cons rfl (fun K hK => ?_) AllReadyIn.nil
     have hKK := hK
     clear hK
     go_simp
     refine hKK _ _ ?_
     clear hKK K
     try simp [Act.put]
     refine wpAnyIn_ready (rs := [2]) (by kernel_rfl) (by simp) ?_
     refine AllReadyIn.cons rfl (fun K hK => ?_) AllReadyIn.nil
     have hKK := hK
     clear hK
     go_simp
     refine ⟨trivial, ?_⟩
     refine (CallsIn.inRound l (callsIn_wide.2 (unhide HOWN _))).mono ?_
     rintro e w5 ⟨rfl, b5⟩
     replace b5 : Below W1.heap.size W1 w5 := b1.trans (b5.mono (Nat.le_refl _))
     refine hKK _ _ ?_
     clear hKK K
     try simp [Act.put]
     obtain ⟨fJw5, fRw5, x0w5, x1w5⟩ := unhide HF w5 b5
     have cJw5 := fJw5.cell
     refine wpAnyIn_ready (rs := [3]) (by kernel_rfl) (by simp) ?_
     refine AllReadyIn.cons rfl (fun K hK => ?_) AllReadyIn.nil
     have hKK := hK
     clear hK
     go_simp
     refine hKK _ _ ?_
     clear hKK K
     try simp [Act.put]
     have cJA := (fJw5.alloc (.cells #[.string m.a0, .int .i64 m.a1] 112)).cell
     refine wpAnyIn_ready (rs := [4]) (by kernel_rfl) (by simp) ?_
     refine AllReadyIn.cons rfl (fun K hK => ?_) AllReadyIn.nil
     have hKK := hK
     clear hK
     refine stepIn_markAppend (by rfl) (.tmp 31) (.tmp 34) (by rfl) (w2.heap.size + 3) (.slice av pre.length cv) (pre.map maxQ) m w5.heap.size (by rfl) (by rfl) ((fRw5 : MkRow _ _ _ _).up ((Below.refl _ _).alloc (Nat.le_refl _) _)) (World.cell?_alloc_at _ _ _ _ rfl) (World.cell?_alloc_at _ _ _ _ rfl) (by simp; omega) (by have := b5.size; simp; omega) ?_
     intro g6 n6 c6 w6 hr6 hg6
     refine hKK _ _ ?_
     clear hKK K
     try simp [Act.put]
     obtain ⟨cJ6, fJ6⟩ := unhide HJ6 w5 b5 w6 hg6
     refine wpAnyIn_ready (rs := [5]) (by kernel_rfl) (by simp) ?_
     refine AllReadyIn.cons rfl (fun K hK => ?_) AllReadyIn.nil
     have hKK := hK
     clear hK
     go_simp
     refine hKK _ _ ?_
     clear hKK K
     try simp [Act.put]
     refine wpAnyIn_done (by kernel_rfl) ?_ _
     gi_wp2
     have L := unhide LEAF w5 b5 g6 n6 c6 w6 hr6 hg6
     exact ⟨by first | exact L.1 | (rw [hs0]; exact L.1), L.2.1, L.2.2⟩
    ·have hKK := hK
     clear hK
     go_simp
     refine hKK _ _ ?_
     clear hKK K
     try simp
     refine wpAnyIn_ready (rs := [0, 2]) (by kernel_rfl) (by simp) ?_
     refine AllReadyIn.cons rfl (fun K hK => ?_) (AllReadyIn.cons rfl (fun K hK => ?_) AllReadyIn.nil)
     ·have hKK := hK
      clear hK
      go_simp
      refine hKK _ _ ?_
      clear hKK K
      try simp [Act.put]
      refine wpAnyIn_ready (rs := [2]) (by kernel_rfl) (by simp) ?_
      refine AllReadyIn.cons rfl (fun K hK => ?_) AllReadyIn.nil
      have hKK := hK
      clear hK
      go_simp
      refine ⟨trivial, ?_⟩
      refine (CallsIn.inRound l (callsIn_wide.2 (unhide HOWN _))).mono ?_
      rintro e w5 ⟨rfl, b5⟩
      replace b5 : Below W1.heap.size W1 w5 := b1.trans (b5.mono (Nat.le_refl _))
      refine hKK _ _ ?_
      clear hKK K
      try simp [Act.put]
      obtain ⟨fJw5, fRw5, x0w5, x1w5⟩ := unhide HF w5 b5
      have cJw5 := fJw5.cell
      refine wpAnyIn_ready (rs := [3]) (by kernel_rfl) (by simp) ?_
      refine AllReadyIn.cons rfl (fun K hK => ?_) AllReadyIn.nil
      have hKK := hK
      clear hK
      go_simp
      refine hKK _ _ ?_
      clear hKK K
      try simp [Act.put]
      have cJA := (fJw5.alloc (.cells #[.string m.a0, .int .i64 m.a1] 112)).cell
      refine wpAnyIn_ready (rs := [4]) (by kernel_rfl) (by simp) ?_
      refine AllReadyIn.cons rfl (fun K hK => ?_) AllReadyIn.nil
      have hKK := hK
      clear hK
      refine stepIn_markAppend (by rfl) (.tmp 31) (.tmp 34) (by rfl) (w2.heap.size + 3) (.slice av pre.length cv) (pre.map maxQ) m w5.heap.size (by rfl) (by rfl) ((fRw5 : MkRow _ _ _ _).up ((Below.refl _ _).alloc (Nat.le_refl _) _)) (World.cell?_alloc_at _ _ _ _ rfl) (World.cell?_alloc_at _ _ _ _ rfl) (by simp; omega) (by have := b5.size; simp; omega) ?_
      intro g6 n6 c6 w6 hr6 hg6
      refine hKK _ _ ?_
      clear hKK K
      try simp [Act.put]
      obtain ⟨cJ6, fJ6⟩ := unhide HJ6 w5 b5 w6 hg6
      refine wpAnyIn_ready (rs := [5]) (by kernel_rfl) (by simp) ?_
      refine AllReadyIn.cons rfl (fun K hK => ?_) AllReadyIn.nil
      have hKK := hK
      clear hK
      go_simp
      refine hKK _ _ ?_
      clear hKK K
      try simp [Act.put]
      refine wpAnyIn_done (by kernel_rfl) ?_ _
      gi_wp2
      have L := unhide LEAF w5 b5 g6 n6 c6 w6 hr6 hg6
      exact ⟨by first | exact L.1 | (rw [hs0]; exact L.1), L.2.1, L.2.2⟩
     ·have hKK := hK
      clear hK
      go_simp
      refine ⟨trivial, ?_⟩
      refine (CallsIn.inRound l (callsIn_wide.2 (unhide HOWN _))).mono ?_
      rintro e w5 ⟨rfl, b5⟩
      replace b5 : Below W1.heap.size W1 w5 := b1.trans (b5.mono (Nat.le_refl _))
      refine hKK _ _ ?_
      clear hKK K
      try simp [Act.put]
      obtain ⟨fJw5, fRw5, x0w5, x1w5⟩ := unhide HF w5 b5
      have cJw5 := fJw5.cell
      refine wpAnyIn_ready (rs := [0, 3]) (by kernel_rfl) (by simp) ?_
      refine AllReadyIn.cons rfl (fun K hK => ?_) (AllReadyIn.cons rfl (fun K hK => ?_) AllReadyIn.nil)
      ·have hKK := hK
       clear hK
       go_simp
       refine hKK _ _ ?_
       clear hKK K
       try simp [Act.put]
       refine wpAnyIn_ready (rs := [3]) (by kernel_rfl) (by simp) ?_
       refine AllReadyIn.cons rfl (fun K hK => ?_) AllReadyIn.nil
       have hKK := hK
       clear hK
       go_simp
       refine hKK _ _ ?_
       clear hKK K
       try simp [Act.put]
       have cJA := (fJw5.alloc (.cells #[.string m.a0, .int .i64 m.a1] 112)).cell
       refine wpAnyIn_ready (rs := [4]) (by kernel_rfl) (by simp) ?_
       refine AllReadyIn.cons rfl (fun K hK => ?_) AllReadyIn.nil
       have hKK := hK
       clear hK
       refine stepIn_markAppend (by rfl) (.tmp 31) (.tmp 34) (by rfl) (w2.heap.size + 3) (.slice av pre.length cv) (pre.map maxQ) m w5.heap.size (by rfl) (by rfl) ((fRw5 : MkRow _ _ _ _).up ((Below.refl _ _).alloc (Nat.le_refl _) _)) (World.cell?_alloc_at _ _ _ _ rfl) (World.cell?_alloc_at _ _ _ _ rfl) (by simp; omega) (by have := b5.size; simp; omega) ?_
       intro g6 n6 c6 w6 hr6 hg6
       refine hKK _ _ ?_
       clear hKK K
       try simp [Act.put]
       obtain ⟨cJ6, fJ6⟩ := unhide HJ6 w5 b5 w6 hg6
       refine wpAnyIn_ready (rs := [5]) (by kernel_rfl) (by simp) ?_
       refine AllReadyIn.cons rfl (fun K hK => ?_) AllReadyIn.nil
       have hKK := hK
       clear hK
       go_simp
       refine hKK _ _ ?_
       clear hKK K
       try simp [Act.put]
       refine wpAnyIn_done (by kernel_rfl) ?_ _
       gi_wp2
       have L := unhide LEAF w5 b5 g6 n6 c6 w6 hr6 hg6
       exact ⟨by first | exact L.1 | (rw [hs0]; exact L.1), L.2.1, L.2.2⟩
      ·have hKK := hK
       clear hK
       go_simp
       refine hKK _ _ ?_
       clear hKK K
       try simp [Act.put]
       have cJA := (fJw5.alloc (.cells #[.string m.a0, .int .i64 m.a1] 112)).cell
       refine wpAnyIn_ready (rs := [0]) (by kernel_rfl) (by simp) ?_
       refine AllReadyIn.cons rfl (fun K hK => ?_) AllReadyIn.nil
       have hKK := hK
       clear hK
       go_simp
       refine hKK _ _ ?_
       clear hKK K
       try simp [Act.put]
       refine wpAnyIn_ready (rs := [4]) (by kernel_rfl) (by simp) ?_
       refine AllReadyIn.cons rfl (fun K hK => ?_) AllReadyIn.nil
       have hKK := hK
       clear hK
       refine stepIn_markAppend (by rfl) (.tmp 31) (.tmp 34) (by rfl) (w2.heap.size + 3) (.slice av pre.length cv) (pre.map maxQ) m w5.heap.size (by rfl) (by rfl) ((fRw5 : MkRow _ _ _ _).up ((Below.refl _ _).alloc (Nat.le_refl _) _)) (World.cell?_alloc_at _ _ _ _ rfl) (World.cell?_alloc_at _ _ _ _ rfl) (by simp; omega) (by have := b5.size; simp; omega) ?_
       intro g6 n6 c6 w6 hr6 hg6
       refine hKK _ _ ?_
       clear hKK K
       try simp [Act.put]
       obtain ⟨cJ6, fJ6⟩ := unhide HJ6 w5 b5 w6 hg6
       refine wpAnyIn_ready (rs := [5]) (by kernel_rfl) (by simp) ?_
       refine AllReadyIn.cons rfl (fun K hK => ?_) AllReadyIn.nil
       have hKK := hK
       clear hK
       go_simp
       refine hKK _ _ ?_
       clear hKK K
       try simp [Act.put]
       refine wpAnyIn_done (by kernel_rfl) ?_ _
       gi_wp2
       have L := unhide LEAF w5 b5 g6 n6 c6 w6 hr6 hg6
       exact ⟨by first | exact L.1 | (rw [hs0]; exact L.1), L.2.1, L.2.2⟩
   ·have hm : maxQ x = x.1.1 := by unfold maxQ maxP; rw [if_neg h1]
    have tB : Turn [Bx] W W := Turn.refl _ _
    have zB : W.heap.size = W.heap.size := rfl
    have k0 := x0
    have k1 := x1
    have kk : KeepsOthers W W := KeepsOthers.refl _
    gi_wp2
    obtain ⟨W1, hW1⟩ : ∃ W1, W = W1 := ⟨_, rfl⟩
    rw [hW1]
    have tB : Turn [Bx] W W1 := by rw [← hW1]; exact Turn.refl _ _
    have zB : W1.heap.size = W.heap.size := by rw [hW1]
    have kk : KeepsOthers W W1 := by rw [← hW1]; exact KeepsOthers.refl _
    rw [hW1] at k0 k1
    clear hW1
    have bJ2 : Boxed W1 w2.heap.size 34 (.slice av pre.length cv) := (tB.block _ bJ1.lt (by simp; omega)).trans bJ1
    have bR2 : Boxed W1 w.heap.size 34 (.slice none 0 0) := (tB.block _ bR1.lt (by simp; omega)).trans bR1
    have bQ2 : Boxed W1 (w.heap.size + 1) 4 (.bool false) := (tB.block _ bQ1.lt (by simp; omega)).trans bQ1
    have r2 : MkRow (w2.heap.size + 3) W1 (.slice av pre.length cv) (pre.map maxQ) := (rJ1 : MkRow _ _ _ _).keep (fun g hg => tB.block g ((rJ1 : MkRow _ _ _ _).lt g hg) (by simpa using hnB g hg))
    obtain ⟨m, hmm⟩ : ∃ m, x.1.1 = m := ⟨_, rfl⟩
    rw [hmm] at hm k0 k1
    have HF := hide (show ∀ X, Below W1.heap.size W1 X → Boxed X w2.heap.size 34 (.slice av pre.length cv) ∧ MkRow (w2.heap.size + 3) X (.slice av pre.length cv) (pre.map maxQ) ∧ X.cell? ⟨Bx, 0, none⟩ = some (.string m.a0) ∧ X.cell? ⟨Bx, 1, none⟩ = some (.int .i64 m.a1) from fun X b => ⟨boxed_up bJ2 b, r2.up b, (b.cell (lt_of_cell0 k0)).trans k0, (b.cell (lt_of_cell0 k1)).trans k1⟩)
    have HOWN := hide (fun X => markOwn_any m.a0 m.a1 X (by rw [← hmm]; exact hsm1))
    have HJ6 := hide (show ∀ w5, Below W1.heap.size W1 w5 → ∀ w6, (w5.alloc (.cells #[.string m.a0, .int .i64 m.a1] 112)).grownBy w6 (Value.slice av pre.length cv).ownBlock → w6.cell? ⟨w2.heap.size, 0, none⟩ = some (.slice av pre.length cv) ∧ w6.frozen? ⟨w2.heap.size, 0, none⟩ = false from fun w5 b5 w6 hg6 => by
     have hb := ((boxed_up bJ2 b5).alloc (.cells #[.string m.a0, .int .i64 m.a1] 112)).kept hg6 (fun e => by have := r2.ge _ e.symm; omega)
     exact ⟨hb.cell, hb.frozen⟩)
    have LEAF := hide (show ∀ w5, Below W1.heap.size W1 w5 → ∀ g6 n6 c6 w6, MkRow (w2.heap.size + 3) w6 (.slice (some ⟨g6, 0, none⟩) n6 c6) (pre.map maxQ ++ [m]) → (w5.alloc (.cells #[.string m.a0, .int .i64 m.a1] 112)).grownBy w6 (Value.slice av pre.length cv).ownBlock → JoinPost w w2 (pre ++ [x]) W (w6.setCell ⟨w2.heap.size, 0, none⟩ (.slice (some ⟨g6, 0, none⟩) n6 c6)) from fun w5 b5 g6 n6 c6 w6 hr6 hg6 => by
     refine join_leaf (m := m) (B := Bx) hz2 hz0 tB zB kk bJ2 bR2 bQ2 r2 hBx hB1 b5 hr6 hg6 ?_ (by simp; omega)
     rw [List.map_append, List.map_cons, List.map_nil, hm])
    refine wpIn_region_any (by kernel_rfl) ?_
    change wpAnyIn _ _ _ _ _ _ _ _ _ (World.drew _)
    have b1 : Below W1.heap.size W1 W1.drew := (Below.refl _ _).drew
    obtain ⟨fJ1, fR1, y0, y1⟩ := unhide HF W1.drew b1
    have cJ1 := fJ1.cell
    refine wpAnyIn_ready (rs := [0, 1]) (by kernel_rfl) (by simp) ?_
    refine AllReadyIn.cons rfl (fun K hK => ?_) (AllReadyIn.cons rfl (fun K hK => ?_) AllReadyIn.nil)
    ·have hKK := hK
     clear hK
     go_simp
     refine hKK _ _ ?_
     clear hKK K
     try simp
     refine wpAnyIn_ready (rs := [1]) (by kernel_rfl) (by simp) ?_
     refine AllReadyIn.cons rfl (fun K hK => ?_) AllReadyIn.nil
     have hKK := hK
     clear hK
     go_simp
     refine hKK _ _ ?_
     clear hKK K
     try simp [Act.put]
     refine wpAnyIn_ready (rs := [2]) (by kernel_rfl) (by simp) ?_
     refine AllReadyIn.cons rfl (fun K hK => ?_) AllReadyIn.nil
     have hKK := hK
     clear hK
     go_simp
     refine ⟨trivial, ?_⟩
     refine (CallsIn.inRound l (callsIn_wide.2 (unhide HOWN _))).mono ?_
     rintro e w5 ⟨rfl, b5⟩
     replace b5 : Below W1.heap.size W1 w5 := b1.trans (b5.mono (Nat.le_refl _))
     refine hKK _ _ ?_
     clear hKK K
     try simp [Act.put]
     obtain ⟨fJw5, fRw5, x0w5, x1w5⟩ := unhide HF w5 b5
     have cJw5 := fJw5.cell
     refine wpAnyIn_ready (rs := [3]) (by kernel_rfl) (by simp) ?_
     refine AllReadyIn.cons rfl (fun K hK => ?_) AllReadyIn.nil
     have hKK := hK
     clear hK
     go_simp
     refine hKK _ _ ?_
     clear hKK K
     try simp [Act.put]
     have cJA := (fJw5.alloc (.cells #[.string m.a0, .int .i64 m.a1] 112)).cell
     refine wpAnyIn_ready (rs := [4]) (by kernel_rfl) (by simp) ?_
     refine AllReadyIn.cons rfl (fun K hK => ?_) AllReadyIn.nil
     have hKK := hK
     clear hK
     refine stepIn_markAppend (by rfl) (.tmp 31) (.tmp 34) (by rfl) (w2.heap.size + 3) (.slice av pre.length cv) (pre.map maxQ) m w5.heap.size (by rfl) (by rfl) ((fRw5 : MkRow _ _ _ _).up ((Below.refl _ _).alloc (Nat.le_refl _) _)) (World.cell?_alloc_at _ _ _ _ rfl) (World.cell?_alloc_at _ _ _ _ rfl) (by simp; omega) (by have := b5.size; simp; omega) ?_
     intro g6 n6 c6 w6 hr6 hg6
     refine hKK _ _ ?_
     clear hKK K
     try simp [Act.put]
     obtain ⟨cJ6, fJ6⟩ := unhide HJ6 w5 b5 w6 hg6
     refine wpAnyIn_ready (rs := [5]) (by kernel_rfl) (by simp) ?_
     refine AllReadyIn.cons rfl (fun K hK => ?_) AllReadyIn.nil
     have hKK := hK
     clear hK
     go_simp
     refine hKK _ _ ?_
     clear hKK K
     try simp [Act.put]
     refine wpAnyIn_done (by kernel_rfl) ?_ _
     gi_wp2
     have L := unhide LEAF w5 b5 g6 n6 c6 w6 hr6 hg6
     exact ⟨by first | exact L.1 | (rw [hs0]; exact L.1), L.2.1, L.2.2⟩
    ·have hKK := hK
     clear hK
     go_simp
     refine hKK _ _ ?_
     clear hKK K
     try simp
     refine wpAnyIn_ready (rs := [0, 2]) (by kernel_rfl) (by simp) ?_
     refine AllReadyIn.cons rfl (fun K hK => ?_) (AllReadyIn.cons rfl (fun K hK => ?_) AllReadyIn.nil)
     ·have hKK := hK
      clear hK
      go_simp
      refine hKK _ _ ?_
      clear hKK K
      try simp [Act.put]
      refine wpAnyIn_ready (rs := [2]) (by kernel_rfl) (by simp) ?_
      refine AllReadyIn.cons rfl (fun K hK => ?_) AllReadyIn.nil
      have hKK := hK
      clear hK
      go_simp
      refine ⟨trivial, ?_⟩
      refine (CallsIn.inRound l (callsIn_wide.2 (unhide HOWN _))).mono ?_
      rintro e w5 ⟨rfl, b5⟩
      replace b5 : Below W1.heap.size W1 w5 := b1.trans (b5.mono (Nat.le_refl _))
      refine hKK _ _ ?_
      clear hKK K
      try simp [Act.put]
      obtain ⟨fJw5, fRw5, x0w5, x1w5⟩ := unhide HF w5 b5
      have cJw5 := fJw5.cell
      refine wpAnyIn_ready (rs := [3]) (by kernel_rfl) (by simp) ?_
      refine AllReadyIn.cons rfl (fun K hK => ?_) AllReadyIn.nil
      have hKK := hK
      clear hK
      go_simp
      refine hKK _ _ ?_
      clear hKK K
      try simp [Act.put]
      have cJA := (fJw5.alloc (.cells #[.string m.a0, .int .i64 m.a1] 112)).cell
      refine wpAnyIn_ready (rs := [4]) (by kernel_rfl) (by simp) ?_
      refine AllReadyIn.cons rfl (fun K hK => ?_) AllReadyIn.nil
      have hKK := hK
      clear hK
      refine stepIn_markAppend (by rfl) (.tmp 31) (.tmp 34) (by rfl) (w2.heap.size + 3) (.slice av pre.length cv) (pre.map maxQ) m w5.heap.size (by rfl) (by rfl) ((fRw5 : MkRow _ _ _ _).up ((Below.refl _ _).alloc (Nat.le_refl _) _)) (World.cell?_alloc_at _ _ _ _ rfl) (World.cell?_alloc_at _ _ _ _ rfl) (by simp; omega) (by have := b5.size; simp; omega) ?_
      intro g6 n6 c6 w6 hr6 hg6
      refine hKK _ _ ?_
      clear hKK K
      try simp [Act.put]
      obtain ⟨cJ6, fJ6⟩ := unhide HJ6 w5 b5 w6 hg6
      refine wpAnyIn_ready (rs := [5]) (by kernel_rfl) (by simp) ?_
      refine AllReadyIn.cons rfl (fun K hK => ?_) AllReadyIn.nil
      have hKK := hK
      clear hK
      go_simp
      refine hKK _ _ ?_
      clear hKK K
      try simp [Act.put]
      refine wpAnyIn_done (by kernel_rfl) ?_ _
      gi_wp2
      have L := unhide LEAF w5 b5 g6 n6 c6 w6 hr6 hg6
      exact ⟨by first | exact L.1 | (rw [hs0]; exact L.1), L.2.1, L.2.2⟩
     ·have hKK := hK
      clear hK
      go_simp
      refine ⟨trivial, ?_⟩
      refine (CallsIn.inRound l (callsIn_wide.2 (unhide HOWN _))).mono ?_
      rintro e w5 ⟨rfl, b5⟩
      replace b5 : Below W1.heap.size W1 w5 := b1.trans (b5.mono (Nat.le_refl _))
      refine hKK _ _ ?_
      clear hKK K
      try simp [Act.put]
      obtain ⟨fJw5, fRw5, x0w5, x1w5⟩ := unhide HF w5 b5
      have cJw5 := fJw5.cell
      refine wpAnyIn_ready (rs := [0, 3]) (by kernel_rfl) (by simp) ?_
      refine AllReadyIn.cons rfl (fun K hK => ?_) (AllReadyIn.cons rfl (fun K hK => ?_) AllReadyIn.nil)
      ·have hKK := hK
       clear hK
       go_simp
       refine hKK _ _ ?_
       clear hKK K
       try simp [Act.put]
       refine wpAnyIn_ready (rs := [3]) (by kernel_rfl) (by simp) ?_
       refine AllReadyIn.cons rfl (fun K hK => ?_) AllReadyIn.nil
       have hKK := hK
       clear hK
       go_simp
       refine hKK _ _ ?_
       clear hKK K
       try simp [Act.put]
       have cJA := (fJw5.alloc (.cells #[.string m.a0, .int .i64 m.a1] 112)).cell
       refine wpAnyIn_ready (rs := [4]) (by kernel_rfl) (by simp) ?_
       refine AllReadyIn.cons rfl (fun K hK => ?_) AllReadyIn.nil
       have hKK := hK
       clear hK
       refine stepIn_markAppend (by rfl) (.tmp 31) (.tmp 34) (by rfl) (w2.heap.size + 3) (.slice av pre.length cv) (pre.map maxQ) m w5.heap.size (by rfl) (by rfl) ((fRw5 : MkRow _ _ _ _).up ((Below.refl _ _).alloc (Nat.le_refl _) _)) (World.cell?_alloc_at _ _ _ _ rfl) (World.cell?_alloc_at _ _ _ _ rfl) (by simp; omega) (by have := b5.size; simp; omega) ?_
       intro g6 n6 c6 w6 hr6 hg6
       refine hKK _ _ ?_
       clear hKK K
       try simp [Act.put]
       obtain ⟨cJ6, fJ6⟩ := unhide HJ6 w5 b5 w6 hg6
       refine wpAnyIn_ready (rs := [5]) (by kernel_rfl) (by simp) ?_
       refine AllReadyIn.cons rfl (fun K hK => ?_) AllReadyIn.nil
       have hKK := hK
       clear hK
       go_simp
       refine hKK _ _ ?_
       clear hKK K
       try simp [Act.put]
       refine wpAnyIn_done (by kernel_rfl) ?_ _
       gi_wp2
       have L := unhide LEAF w5 b5 g6 n6 c6 w6 hr6 hg6
       exact ⟨by first | exact L.1 | (rw [hs0]; exact L.1), L.2.1, L.2.2⟩
      ·have hKK := hK
       clear hK
       go_simp
       refine hKK _ _ ?_
       clear hKK K
       try simp [Act.put]
       have cJA := (fJw5.alloc (.cells #[.string m.a0, .int .i64 m.a1] 112)).cell
       refine wpAnyIn_ready (rs := [0]) (by kernel_rfl) (by simp) ?_
       refine AllReadyIn.cons rfl (fun K hK => ?_) AllReadyIn.nil
       have hKK := hK
       clear hK
       go_simp
       refine hKK _ _ ?_
       clear hKK K
       try simp [Act.put]
       refine wpAnyIn_ready (rs := [4]) (by kernel_rfl) (by simp) ?_
       refine AllReadyIn.cons rfl (fun K hK => ?_) AllReadyIn.nil
       have hKK := hK
       clear hK
       refine stepIn_markAppend (by rfl) (.tmp 31) (.tmp 34) (by rfl) (w2.heap.size + 3) (.slice av pre.length cv) (pre.map maxQ) m w5.heap.size (by rfl) (by rfl) ((fRw5 : MkRow _ _ _ _).up ((Below.refl _ _).alloc (Nat.le_refl _) _)) (World.cell?_alloc_at _ _ _ _ rfl) (World.cell?_alloc_at _ _ _ _ rfl) (by simp; omega) (by have := b5.size; simp; omega) ?_
       intro g6 n6 c6 w6 hr6 hg6
       refine hKK _ _ ?_
       clear hKK K
       try simp [Act.put]
       obtain ⟨cJ6, fJ6⟩ := unhide HJ6 w5 b5 w6 hg6
       refine wpAnyIn_ready (rs := [5]) (by kernel_rfl) (by simp) ?_
       refine AllReadyIn.cons rfl (fun K hK => ?_) AllReadyIn.nil
       have hKK := hK
       clear hK
       go_simp
       refine hKK _ _ ?_
       clear hKK K
       try simp [Act.put]
       refine wpAnyIn_done (by kernel_rfl) ?_ _
       gi_wp2
       have L := unhide LEAF w5 b5 g6 n6 c6 w6 hr6 hg6
       exact ⟨by first | exact L.1 | (rw [hs0]; exact L.1), L.2.1, L.2.2⟩
 case done =>
  rintro D ys W hD hys ⟨⟨⟨⟨v, bJ1, rJ1, h12⟩, bR1⟩, bQ1⟩, hB1, hz0⟩ hK
  have hmx : ys.map maxQ = joinL xa xb := by unfold joinL; rw [← hys, List.map_map]; rfl
  have rJ : MkRow (w2.heap.size + 3) W v (joinL xa xb) := by rw [← hmx]; exact rJ1
  have hE : joinOkB xa xb = true := by unfold joinOkB; rw [oa, ob, ← hmx]; simp; exact h12
  have HE := hide hE
  obtain ⟨av, cv, hv⟩ := rJ.slice
  generalize (joinL xa xb).length = nl at hv
  subst hv
  have cJ := bJ1.cell
  have cR := bR1.cell
  have fR := bR1.frozen
  have cQ := bQ1.cell
  have fQ := bQ1.frozen
  clear rJ1 hE hmx hys
  gi_wp2
  have hK' := ((KeepsOthers.setCell W ⟨w.heap.size, 0, none⟩ (.slice av nl cv)).trans (KeepsOthers.setCell _ ⟨w.heap.size + 1, 0, none⟩ (.bool true))).same D _ hK rfl
  refine ⟨by simp, .inl ⟨_, _, rfl, run_takeDeferred hK', ?_⟩⟩
  have hc5 := cell_kept ((bR1.set (.slice av nl cv)).other (B' := w.heap.size + 1) (by omega) (.bool true)).cell (grownBy_putObj' _ D (.deferred none)) (fun r e => by cases e; exact ⟨_, hK', rfl⟩)
  have hc6 := cell_kept ((bQ1.other (B' := w.heap.size) (by omega) (.slice av nl cv)).set (.bool true)).cell (grownBy_putObj' _ D (.deferred none)) (fun r e => by cases e; exact ⟨_, hK', rfl⟩)
  refine ⟨.tuple #[.slice av nl cv, .bool true], ?_, ⟨_, by rw [unhide HE], hide ?_, ((hB1.setCell (p := ⟨w.heap.size, 0, none⟩) (by simp) _).setCell (p := ⟨w.heap.size + 1, 0, none⟩) (by simp) _).trans (belowK_b (w := w) (Nat.le_refl _) _ D _ _ (by omega) hK' rfl rfl)⟩⟩
  ·simp [results, Tryz.f115, go_sem, hc5, hc6]
  ·unfold joinV
   rw [unhide HE, if_pos rfl]
   have hq := rJ.keep (w' := (W.setCell ⟨w.heap.size, 0, none⟩ (.slice av nl cv)).setCell ⟨w.heap.size + 1, 0, none⟩ (.bool true)) (fun g hg => by
    have hge := rJ.ge g hg
    rw [Below.heap_setCell _ ⟨w.heap.size + 1, 0, none⟩ _ g (fun e => by simp only at e; omega), Below.heap_setCell _ ⟨w.heap.size, 0, none⟩ _ g (fun e => by simp only at e; omega)])
   exact MkRow.mono (B := w2.heap.size + 3) (ownsRow_putObj hq _ hK' rfl) (by omega)
 case stop =>
  rintro D c pre W hD hpre ⟨⟨⟨rfl, h13⟩, bR1, bQ1⟩, hB⟩ hK
  have HL := hide (show ¬ (joinL xa xb).length ≤ 12 by
   obtain ⟨t, ht⟩ := hpre
   have := congrArg List.length ht
   unfold joinL
   simp at this ⊢
   omega)
  gi_wp2
  refine ⟨by simp, .inl ⟨_, _, rfl, run_takeDeferred hK, ?_⟩⟩
  have hc5 := cell_kept bR1.cell (grownBy_putObj' _ D (.deferred none)) (fun r e => by cases e; exact ⟨_, hK, rfl⟩)
  have hc6 := cell_kept bQ1.cell (grownBy_putObj' _ D (.deferred none)) (fun r e => by cases e; exact ⟨_, hK, rfl⟩)
  have hE : joinOkB xa xb = false := by unfold joinOkB; simp [unhide HL]
  refine ⟨.tuple #[.slice none 0 0, .bool false], ?_, ⟨_, by rw [hE], hide (by unfold joinV; rw [hE, if_neg (by simp)]; exact MkRow.nil _ _), hB.trans (belowK_b (w := w) (Nat.le_refl _) W D _ _ (by omega) hK rfl rfl)⟩⟩
  simp [results, Tryz.f115, go_sem, hc5, hc6]
end Go.Proofs.YtknkdbfgfcgkiaaGreatDoor
