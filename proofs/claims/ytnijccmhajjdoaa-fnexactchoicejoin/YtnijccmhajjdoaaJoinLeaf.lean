/-
  What a round of the program's StampJoin leaves behind; append at a step of a region that draws its order, within a round.
-/
import Derived.Test.YtnijccmhajjdoaaMerged7
import Derived.Test.YtnijccmhajjdoaaJoinS
import Derived.Test.YtnijccmhajjdoaaMerged8
import Derived.Maps.AppendAt
set_option linter.unusedVariables false
namespace Go.Proofs.Ytnijccmhajjdoaa
open Go.RowKit Go.Maps Go.Deep Go.Shelf

theorem stepIn_markAppend {F : Fence} {n : Nat} {w : World} {ops : Array Oper} {o : Oper} {a : Act} {K : Act → World → Prop} {Q : Exit → Act → World → Prop} {E : Prop} (hgd : o.guard = none) (s x : Operand)
    (ho : o.op = .call { callee := .builtin .append, args := #[s, x], argTypes := #[30, 30] }) (B : Nat) (v : Value) (ns : List MarkV) (y : MarkV) (g : Nat) (hs : a.eval s = v) (hx : a.eval x = .slice (some ⟨g, 0, none⟩) 1 1)
    (hv : MkRow B w v ns) (c0 : w.cell? ⟨g, 0, none⟩ = some (.string y.a0)) (c1 : w.cell? ⟨g, 1, none⟩ = some (.int .i64 y.a1)) (hl : ns.length ≤ 1000000) (hB : B ≤ w.heap.size)
    (h : ∀ g' n' c w', MkRow B w' (.slice (some ⟨g', 0, none⟩) n' c) (ns ++ [y]) → w.grownBy w' v.ownBlock → K (a.put o.dst (.slice (some ⟨g', 0, none⟩) n' c)) w') :
    if Region.wanted o (yielded ops a.tmps) = true then Oper.wpIn F n Try.prog o a w K Q else E := by
  have hw : Region.wanted o (yielded ops a.tmps) = true := by simp [Region.wanted, hgd]
  rw [if_pos hw]
  obtain ⟨i0, hi, hz0, hz1, hz2⟩ := info_parts1 infoMk
  obtain ⟨g', cap, w', hrun, r1, r2, r3, r4⟩ := run_append_lies (P := Try.prog) (w := w) 30 o.type B 55 i0 _ 2 24 Try.underlying30 hi hz0 hz1 hz2 rfl (by decide) v ns.length (mkCells ns) hv ⟨g, 0, none⟩ 1 1 [.string y.a0, .int .i64 y.a1] rfl (news_mark c0 c1) (by intro u hu; simp at hu; rcases hu with rfl | rfl <;> rfl) (by decide) (by unfold maxLen; omega) (by omega) hB w.heap.size rfl
  unfold Oper.wpIn
  refine ⟨?_, ?_⟩
  · simp [Oper.about, ho, resolve, Target.leads, Sem.run_pure]
  · rw [Oper.semAt_plain F _ _ (by rw [ho]; intro c hc'; cases hc')]
    simp [execOp, ho, resolve, invoke, builtin, hs, hx, hrun, Result.andThen]
    refine h g' _ cap w' ?_ r2
    unfold MkRow
    rw [mkCells_snoc, List.length_append]
    exact r1
theorem side_small {xa xb : List MarkV} (hsa : SmallMarkS xa) (hsb : SmallMarkS xb) (oa : mstampB xa = true) (ob : mstampB xb = true) : ∀ p ∈ sideL xa xb, p.1.a0.size ≤ 1048576 ∧ p.2.a0.size ≤ 1048576 := by
  intro p hp
  obtain ⟨s, hs, rfl⟩ := (side_mem xa xb (asc_of_stamp oa) (asc_of_stamp ob) p).1 hp
  have : s.size ≤ 1048576 := by
    rcases hs with ⟨x, hx, rfl⟩ | ⟨x, hx, rfl⟩
    · exact hsa.1.2 x hx
    · exact hsb.1.2 x hx
  exact ⟨this, this⟩
def maxQ (x : MPair) : MarkV := maxP x.1
def JoinPost (w w2 : World) (pre : List MPair) (W W' : World) : Prop := KeepsFrom (w2.heap.size + 3) W W' ∧ Keep (w2.heap.size + 3) [w2.heap.size] W W' ∧
  (((∃ v, Boxed W' w2.heap.size 30 v ∧ W'.ownsRow (w2.heap.size + 3) 55 2 v (pre.map maxQ).length (mkCells (pre.map maxQ)) ∧ pre.length ≤ 12) ∧ Boxed W' w.heap.size 30 (.slice none 0 0)) ∧ Boxed W' (w.heap.size + 1) 4 (.bool false)) ∧ Below w.heap.size w W' ∧ w2.heap.size + 3 ≤ W'.heap.size
theorem join_leaf {w w2 W W1 w5 w6 : World} {pre : List MPair} {ns ns6 : List MarkV} {m : MarkV} {B : Nat} {v v6 : Value} {ob : Obj} (hz2 : w.heap.size + 2 ≤ w2.heap.size) (hz0 : w2.heap.size + 3 ≤ W.heap.size) (tB : Turn [B] W W1) (zB : W1.heap.size = W.heap.size) (kk : KeepsOthers W W1)
    (bJ : Boxed W1 w2.heap.size 30 v) (bR : Boxed W1 w.heap.size 30 (.slice none 0 0)) (bQ : Boxed W1 (w.heap.size + 1) 4 (.bool false)) (r2 : MkRow (w2.heap.size + 3) W1 v ns) (hBx : w2.heap.size + 3 ≤ B) (hB1 : Below w.heap.size w W)
    (b5 : Below W1.heap.size W1 w5) (hr6 : MkRow (w2.heap.size + 3) w6 v6 ns6) (hg6 : (w5.alloc ob).grownBy w6 v.ownBlock) (hns : pre.map maxQ = ns6) (h12 : pre.length ≤ 12) : JoinPost w w2 pre W (w6.setCell ⟨w2.heap.size, 0, none⟩ v6) := by
  have h5 := b5.size
  have h6 := hg6.size
  have hA : (w5.alloc ob).heap.size = w5.heap.size + 1 := by simp
  have hge := r2.ge
  have blk : ∀ k, k < W1.heap.size → v.ownBlock ≠ some k → w6.heap[k]? = W1.heap[k]? := fun k hk hv => by
    rw [hg6.block k (by omega) (fun e => hv e.symm), Below.heap_alloc _ _ _ (by omega), b5.block k hk]
  have bJ6 : Boxed w6 w2.heap.size 30 v := (blk _ bJ.lt (fun e => by have := hge _ e; omega)).trans bJ
  have bR6 : Boxed w6 w.heap.size 30 (.slice none 0 0) := (blk _ bR.lt (fun e => by have := hge _ e; omega)).trans bR
  have bQ6 : Boxed w6 (w.heap.size + 1) 4 (.bool false) := (blk _ bQ.lt (fun e => by have := hge _ e; omega)).trans bQ
  have k5 : KeepsOthers W1 w5 := KeepsOthers.of_grownBy (row := none) ⟨b5.os, b5.tape, b5.output, b5.size, fun k hk _ => b5.block k hk⟩ (fun r ob' e _ => by cases e)
  have r5 : MkRow (w2.heap.size + 3) (w5.alloc ob) v ns := (r2.up b5).up ((Below.refl _ _).alloc (Nat.le_refl _) ob)
  have k6 : KeepsOthers (w5.alloc ob) w6 := KeepsOthers.of_grownBy hg6 (fun r ob' e hob => by
    rcases r5.2 with ⟨rfl, _⟩ | ⟨g, cap, cur, rfl, _, hg, _⟩
    · simp [Value.ownBlock] at e
    · simp [Value.ownBlock] at e
      subst e
      rw [hg] at hob
      cases hob
      rfl)
  have bl6 : Below w.heap.size w w6 := ⟨by rw [hg6.os]; exact b5.os.trans (tB.os.trans hB1.os), by rw [hg6.tape]; exact b5.tape.trans (tB.tape.trans hB1.tape), by rw [hg6.output]; exact b5.output.trans (tB.output.trans hB1.output), by have := hB1.size; omega, fun k hk => by
    have hsz := hB1.size
    rw [blk k (by omega) (fun e => by have := hge _ e; omega), tB.block k (by omega) (by simp; omega), hB1.block k hk]⟩
  refine ⟨((((kk.trans k5).trans (KeepsOthers.alloc _ _)).trans k6).trans (KeepsOthers.setCell _ _ _)).from _, ?_, ⟨⟨⟨v6, bJ6.set v6, ?_, h12⟩, bR6.other (by omega) _⟩, bQ6.other (by omega) _⟩, bl6.setCell (p := ⟨w2.heap.size, 0, none⟩) (by show w.heap.size ≤ w2.heap.size; omega) _, by simp; omega⟩
  · refine Keep.setCell ⟨by omega, fun k hk hS => ?_⟩ (by simp) _ _
    rw [blk k (by omega) (fun e => by have := hge _ e; omega), tB.block k (by omega) (by simp; omega)]
  · rw [hns]
    exact hr6.keep (fun g hg => Below.heap_setCell w6 ⟨w2.heap.size, 0, none⟩ v6 g (fun e => by have := hr6.ge _ hg; simp only at e; omega))
end Go.Proofs.Ytnijccmhajjdoaa
