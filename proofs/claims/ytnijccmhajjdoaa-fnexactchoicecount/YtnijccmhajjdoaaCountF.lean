/-
  One more stamp behind a row that is used again: the old row stays what it is.
-/
import Derived.Test.YtnijccmhajjdoaaChoiceI4
import Derived.ArgAppend
import Derived.Deep.DeepAppendRoom
set_option linter.unusedVariables false
namespace Go.Proofs.Ytnijccmhajjdoaa
open Go.RowKit Go.Maps Go.Deep

theorem SlRow.shrink {B : Nat} {w : World} {g n cap : Nat} {vs : List Value} {y : Value} (h : SlRow B w (.slice (some ⟨g, 0, none⟩) (vs.length + 1) cap) (vs ++ [y])) : SlRow B w (.slice (some ⟨g, 0, none⟩) vs.length cap) vs := by
  have hh : w.ownsRow B 30 1 (.slice (some ⟨g, 0, none⟩) (vs.length + 1) cap) (vs.length + 1) (vs ++ [y]) := by
    unfold SlRow at h
    rwa [List.length_append] at h
  rcases hh.2 with ⟨h0, _⟩ | ⟨g', cap', cur, hv, hB, hg, hnc, hcm, hcs, ht⟩
  · cases h0
  · cases hv
    refine ⟨by simp, .inr ⟨g, cap, cur, rfl, hB, hg, by omega, hcm, hcs, ?_⟩⟩
    have := congrArg (List.take vs.length) ht
    rw [List.take_take, List.take_left' rfl] at this
    simpa [Nat.min_eq_left] using this
theorem SlRow.low {B H : Nat} {w w' : World} {v : Value} {vs : List Value} (h : SlRow B w v vs) (hb : Below H w w') (hg : ∀ g, v.ownBlock = some g → g < H) : SlRow B w' v vs := h.keep (fun g e => hb.block g (hg g e))
theorem turn_new {S : List Nat} {w w' W : World} {g : Nat} (hb : Below w.heap.size w w') (tW : Turn [g] w' W) (hg : w.heap.size ≤ g) : Turn S w W :=
  ⟨tW.os.trans hb.os, tW.tape.trans hb.tape, tW.output.trans hb.output, Nat.le_trans hb.size tW.size, fun k hk _ => (tW.block k (Nat.lt_of_lt_of_le hk hb.size) (by simp; omega)).trans (hb.block k hk)⟩
theorem SlRow.base {B B' : Nat} {w : World} {v : Value} {vs : List Value} (h : SlRow B w v vs) (hb : B' ≤ B) : SlRow B' w v vs :=
  ⟨h.1, h.2.imp id fun ⟨g, cap, cur, h1, h2, h3⟩ => ⟨g, cap, cur, h1, Nat.le_trans hb h2, h3⟩⟩
theorem wp_slFork {w : World} {o : Oper} {a : Act} {K : Act → World → Prop} {Q : Exit → Act → World → Prop} (s x : Operand)
    (ho : o.op = .call { callee := .builtin .append, args := #[s, x], argTypes := #[64, 64] }) (B : Nat) (v : Value) (vs : List Value) (ya : Option Addr) (yn yc : Nat) (g : Nat) (hs : a.eval s = v) (hx : a.eval x = .slice (some ⟨g, 0, none⟩) 1 1)
    (hv : SlRow B w v vs) (c0 : w.cell? ⟨g, 0, none⟩ = some (.slice ya yn yc)) (hl : vs.length ≤ 1000000) (hB : B ≤ w.heap.size)
    (h : ∀ g' c w', SlRow B w' (.slice (some ⟨g', 0, none⟩) (vs.length + 1) c) (vs ++ [.slice ya yn yc]) → Turn v.ownBlock.toList w w' → (v.ownBlock = some g' ∨ w.heap.size ≤ g') → (∀ W, Turn [g'] w' W → SlRow B W (.slice (some ⟨g', 0, none⟩) (vs.length + 1) c) (vs ++ [.slice ya yn yc]) → SlRow B W v vs ∧ Turn v.ownBlock.toList w W) → K (a.put o.dst (.slice (some ⟨g', 0, none⟩) (vs.length + 1) c)) w') : o.wp Try.prog a w K Q := by
  obtain ⟨i0, hi, hz0, hz1, hz2⟩ := info_parts1 infoSl
  rcases hv.slice with ⟨rfl, rfl⟩ | ⟨gv, cap, rfl, hnc, hgl, hcell⟩
  · refine wp_append_lies w s x 64 ho w.heap.size 30 i0 _ 1 24 Try.underlying64 hi hz0 hz1 hz2 rfl (by decide) _ 0 [] hs (SlRow.nil _ _) ⟨g, 0, none⟩ 1 1 [.slice ya yn yc] hx rfl (news_sl c0) (by intro u hu; simp at hu; rw [hu]; rfl) (by decide) (by unfold maxLen; omega) (by omega) (Nat.le_refl _) w.heap.size rfl ?_
    intro g' c w' r hg hat hlt
    have hb : Below w.heap.size w w' := (Below.refl _ _).grown hg (Nat.le_refl _) (fun k hk => by cases hk)
    have r' : SlRow w.heap.size w' (.slice (some ⟨g', 0, none⟩) (0 + 1) c) ([] ++ [.slice ya yn yc]) := r
    have hge := r'.ge g' (by simp [Value.ownBlock])
    exact h g' c w' (r'.base hB) (Turn.of_below hb) (.inr hge) (fun W tW _ => ⟨SlRow.nil _ _, turn_new hb tW hge⟩)
  · by_cases hroom : vs.length + 1 ≤ cap
    · refine wp_append_own_spare w s x 64 ho B 30 i0 1 Try.underlying64 hi hz1 gv vs.length cap vs hs hv ⟨g, 0, none⟩ 1 1 [.slice ya yn yc] hx rfl (news_sl c0) (by intro u hu; simp at hu; rw [hu]; rfl) hroom ?_
      intro w' r hg
      have r' : SlRow B w' (.slice (some ⟨gv, 0, none⟩) (vs.length + 1) cap) (vs ++ [.slice ya yn yc]) := by
        unfold SlRow
        rw [List.length_append]
        exact r
      have ht : Turn [gv] w w' := Turn.of_grown hg (fun k hk => .inl (by simp at hk; simp [hk]))
      exact h gv cap w' r' (by simpa [Value.ownBlock] using ht) (.inl (by simp [Value.ownBlock])) (fun W tW rW => ⟨rW.shrink (n := 0), by simpa [Value.ownBlock] using ht.trans tW⟩)
    · obtain ⟨v', w', hr, r, hg⟩ := run_append_arg_grows (P := Try.prog) w 64 o.type 30 i0 _ 1 24 Try.underlying64 hi hz0 hz1 hz2 rfl (by decide) ⟨gv, 0, none⟩ vs.length cap vs (by simp) (fun j u hj => by
        have hj' : j < vs.length := (List.getElem?_eq_some_iff.1 hj).1
        rw [Addr.add_lit, Nat.zero_add, hcell j hj', ← hj, List.getElem?_eq_getElem hj']) ⟨g, 0, none⟩ 1 1 [.slice ya yn yc] rfl (news_sl c0) (by omega) (by unfold maxLen; omega) (by omega)
      have hb : Below w.heap.size w w' := (Below.refl _ _).grown hg (Nat.le_refl _) (fun k hk => by cases hk)
      have r' : SlRow w.heap.size w' v' (vs ++ [.slice ya yn yc]) := by
        unfold SlRow
        rw [List.length_append]
        exact r
      unfold Oper.wp execOp
      simp only [ho, resolve, invoke, builtin, Sem.run_bind, Sem.run_pure, Result.andThen_ok, List.map_toArray, List.map_cons, List.map_nil, hs, hx, hr]
      rcases r'.slice with ⟨_, h0⟩ | ⟨g', c, rfl, _⟩
      · simp at h0
      · rw [List.length_append, List.length_cons, List.length_nil] at r' ⊢
        have hge := r'.ge g' (by simp [Value.ownBlock])
        exact h g' c w' (r'.base hB) (Turn.of_below hb) (.inr hge) (fun W tW _ => ⟨(hv.up hb).keep (fun k hk => tW.block k (Nat.lt_of_lt_of_le (hv.lt k hk) hb.size) (by have := hv.lt k hk; simp; omega)), turn_new hb tW hge⟩)
theorem step_slFork {w : World} {ops : Array Oper} {o : Oper} {a : Act} {K : Act → World → Prop} {Q : Exit → Act → World → Prop} {E : Prop} (hw : Region.wanted o (yielded ops a.tmps) = true) (s x : Operand)
    (ho : o.op = .call { callee := .builtin .append, args := #[s, x], argTypes := #[64, 64] }) (B : Nat) (v : Value) (vs : List Value) (ya : Option Addr) (yn yc : Nat) (g : Nat) (hs : a.eval s = v) (hx : a.eval x = .slice (some ⟨g, 0, none⟩) 1 1)
    (hv : SlRow B w v vs) (c0 : w.cell? ⟨g, 0, none⟩ = some (.slice ya yn yc)) (hl : vs.length ≤ 1000000) (hB : B ≤ w.heap.size)
    (h : ∀ g' c w', SlRow B w' (.slice (some ⟨g', 0, none⟩) (vs.length + 1) c) (vs ++ [.slice ya yn yc]) → Turn v.ownBlock.toList w w' → (v.ownBlock = some g' ∨ w.heap.size ≤ g') → (∀ W, Turn [g'] w' W → SlRow B W (.slice (some ⟨g', 0, none⟩) (vs.length + 1) c) (vs ++ [.slice ya yn yc]) → SlRow B W v vs ∧ Turn v.ownBlock.toList w W) → K (a.put o.dst (.slice (some ⟨g', 0, none⟩) (vs.length + 1) c)) w') :
    if Region.wanted o (yielded ops a.tmps) = true then Oper.wp Try.prog o a w K Q else E := by
  rw [if_pos hw]
  exact wp_slFork s x ho B v vs ya yn yc g hs hx hv c0 hl hB h
end Go.Proofs.Ytnijccmhajjdoaa
