/-
  The specification's machine in memory; its stack.
-/
import Derived.Test.YtoehjbehfolekaaDoorVM
import Derived.Test.YtoehjbehfolekaaDoorSpecOps
import Derived.Test.YtoehjbehfolekaaDoorSmall
import Derived.Lib.Builder
import Derived.Deep.RegionWith
import Derived.Deep.RegionHeld3
import Derived.Laws.OwnMore
import Derived.Deep.AppendLies
import Derived.RegionTactic
import Derived.BigRegion
set_option linter.unusedVariables false
namespace Go.Proofs.YtoehjbehfolekaaDoor
open Go.RowKit Go.Maps Go.Deep

theorem infoIntS : (Tryd.prog.info? 3).map (fun i => (i.zero, i.size, i.bytes)) = some (some (.int .i64 0), 1, 8) := by kernel_rfl
def i64s (n : Int) : Value := .int .i64 n
/-- the machine lies in its own block b: its stack, its slots (a row of its own, g), its steps, its two marks -/
structure SMachAt (B b g : Nat) (st sl : List Int) (tk : Nat) (p q : Bool) (v : Value) (w : World) : Prop where
  low : B ≤ b
  block : w.heap[b]? = some (.cells #[v, .slice (some ⟨g, 0, none⟩) 80 80, .int .i64 tk, .bool p, .bool q] 47 (0, 0))
  row : w.ownsRow B 3 1 v st.length (st.map i64s)
  slots : w.ownsRow B 3 1 (.slice (some ⟨g, 0, none⟩) 80 80) 80 (sl.map i64s)
  apart : v.ownBlock ≠ some g
  len : sl.length = 80
def SMach (B b g : Nat) (st sl : List Int) (tk : Nat) (p q : Bool) (w : World) : Prop := ∃ v, SMachAt B b g st sl tk p q v w

theorem row_ne {w : World} {B : Nat} {e T : TypeId} {v : Value} {n : Nat} {xs : List Value} {b : Nat} {cs : Array Value} (hown : w.ownsRow B e 1 v n xs) (hb : w.heap[b]? = some (.cells cs T (0, 0))) (hTe : T ≠ e) : v.ownBlock ≠ some b := Lib.ownBlock_ne hown hb hTe

section
variable {B b g : Nat} {st sl : List Int} {tk : Nat} {p q : Bool} {v : Value} {w : World}
theorem SMachAt.cell (h : SMachAt B b g st sl tk p q v w) (j : Nat) : w.cell? ⟨b, j, none⟩ = (#[v, .slice (some ⟨g, 0, none⟩) 80 80, .int .i64 tk, .bool p, .bool q] : Array Value)[j]? := Lib.cell_of_heap h.block j
theorem SMachAt.c0 (h : SMachAt B b g st sl tk p q v w) : w.cell? ⟨b, 0, none⟩ = some v := h.cell 0
theorem SMachAt.c1 (h : SMachAt B b g st sl tk p q v w) : w.cell? ⟨b, 1, none⟩ = some (.slice (some ⟨g, 0, none⟩) 80 80) := h.cell 1
theorem SMachAt.c2 (h : SMachAt B b g st sl tk p q v w) : w.cell? ⟨b, 2, none⟩ = some (.int .i64 tk) := h.cell 2
theorem SMachAt.c3 (h : SMachAt B b g st sl tk p q v w) : w.cell? ⟨b, 3, none⟩ = some (.bool p) := h.cell 3
theorem SMachAt.c4 (h : SMachAt B b g st sl tk p q v w) : w.cell? ⟨b, 4, none⟩ = some (.bool q) := h.cell 4
theorem SMachAt.free (h : SMachAt B b g st sl tk p q v w) (j : Nat) : w.frozen? ⟨b, j, none⟩ = false := Lib.frozen_of_heap h.block j
theorem SMachAt.lt (h : SMachAt B b g st sl tk p q v w) : b < w.heap.size := by
  rcases Nat.lt_or_ge b w.heap.size with h' | h'
  · exact h'
  · have := h.block; simp [Array.getElem?_eq_none h'] at this
theorem SMachAt.vb (h : SMachAt B b g st sl tk p q v w) : v.ownBlock ≠ some b := row_ne h.row h.block (by decide)
theorem SMachAt.gb (h : SMachAt B b g st sl tk p q v w) : g ≠ b := by
  have := row_ne h.slots h.block (by decide)
  simpa [Value.ownBlock] using this
theorem SMachAt.below {w' : World} (h : SMachAt B b g st sl tk p q v w) (hb : Below w.heap.size w w') : SMachAt B b g st sl tk p q v w' :=
  ⟨h.low, (hb.block b h.lt).trans h.block, ownsRow_up h.row hb, ownsRow_up h.slots hb, h.apart, h.len⟩
theorem SMachAt.drew (h : SMachAt B b g st sl tk p q v w) : SMachAt B b g st sl tk p q v w.drew := ⟨h.low, h.block, h.row, h.slots, h.apart, h.len⟩
theorem SMachAt.slot (h : SMachAt B b g st sl tk p q v w) (i : Nat) (hi : i < 80) : w.cell? ⟨g, i, none⟩ = some (.int .i64 (sl.getD i 0)) := by
  have hl := h.len
  rw [h.slots.cellAt i (by omega), List.getElem?_map, List.getElem?_eq_getElem (by omega)]
  simp [i64s, List.getD_eq_getElem?_getD, show i < sl.length by omega]
theorem SMachAt.sfree (h : SMachAt B b g st sl tk p q v w) (i : Nat) : w.frozen? ⟨g, i, none⟩ = false := h.slots.frozenAt i
theorem smach_put (hB : B ≤ b) (hbk : w.heap[b]? = some (.cells #[v, .slice (some ⟨g, 0, none⟩) 80 80, .int .i64 tk, .bool p, .bool q] 47 (0, 0)))
    (hs : w.ownsRow B 3 1 (.slice (some ⟨g, 0, none⟩) 80 80) 80 (sl.map i64s)) (hl : sl.length = 80)
    (j : Nat) (u : Value) (st' : List Int) (tk' : Nat) (p' q' : Bool) (v' : Value) (hc : (#[v, .slice (some ⟨g, 0, none⟩) 80 80, .int .i64 tk, .bool p, .bool q] : Array Value).setIfInBounds j u = #[v', .slice (some ⟨g, 0, none⟩) 80 80, .int .i64 tk', .bool p', .bool q'])
    (hrow : w.ownsRow B 3 1 v' st'.length (st'.map i64s)) (ha : v'.ownBlock ≠ some g) : SMachAt B b g st' sl tk' p' q' v' (w.setCell ⟨b, j, none⟩ u) := by
  refine ⟨hB, ?_, ?_, ?_, ha, hl⟩
  · rw [heap_setCell_same w b j _ _ u hbk, hc]
  · exact ownsRow_setCell_other hrow (row_ne hrow hbk (by decide)) u
  · exact ownsRow_setCell_other hs (row_ne hs hbk (by decide)) u
theorem SMachAt.put (h : SMachAt B b g st sl tk p q v w) (j : Nat) (u : Value) (st' : List Int) (tk' : Nat) (p' q' : Bool) (v' : Value) (hc : (#[v, .slice (some ⟨g, 0, none⟩) 80 80, .int .i64 tk, .bool p, .bool q] : Array Value).setIfInBounds j u = #[v', .slice (some ⟨g, 0, none⟩) 80 80, .int .i64 tk', .bool p', .bool q'])
    (hrow : w.ownsRow B 3 1 v' st'.length (st'.map i64s)) (ha : v'.ownBlock ≠ some g) : SMachAt B b g st' sl tk' p' q' v' (w.setCell ⟨b, j, none⟩ u) :=
  smach_put h.low h.block h.slots h.len j u st' tk' p' q' v' hc hrow ha
/-- a slot is written -/
theorem SMachAt.putSlot (h : SMachAt B b g st sl tk p q v w) (i : Nat) (hi : i < 80) (x : Int) : SMachAt B b g st (sl.set i x) tk p q v (w.setCell ⟨g, i, none⟩ (.int .i64 x)) := by
  refine ⟨h.low, ?_, ownsRow_setCell_other h.row (by simpa using h.apart) _, ?_, h.apart, by simp [h.len]⟩
  · rw [heap_setCell_other w ⟨g, i, none⟩ b _ (Ne.symm h.gb)]; exact h.block
  · rw [List.map_set]
    exact (h.slots.stored i (.int .i64 x)).1
theorem SMachAt.form (h : SMachAt B b g st sl tk p q v w) : ∃ ao cap, v = .slice ao st.length cap := by
  rcases h.row.2 with ⟨hv, h0⟩ | ⟨g, cap, cur, hv, _⟩
  · exact ⟨none, 0, by rw [hv, h0]⟩
  · exact ⟨_, _, hv⟩
end

/-! the stack -/
set_option maxRecDepth 100000 in
set_option maxHeartbeats 1600000 in
theorem spush_full (B b g : Nat) (st sl : List Int) (tk : Nat) (p q : Bool) (a : Int) (w : World) (h : SMach B b g st sl tk p q w) (hl : st.length = 500) :
    Calls Tryd.prog 30 #[.pointer (some ⟨b, 0, none⟩), .int .i64 a] w fun e w' => e = .returned (.tuple #[]) ∧ SMach B b g st sl tk p true w' ∧ Below B w w' := by
  obtain ⟨v, h⟩ := h
  have c0 := h.c0
  have c4 := h.c4
  have f4 := h.free 4
  obtain ⟨ao, cap, rfl⟩ := h.form
  rw [hl] at c0
  have HP := hide (h.put 4 (.bool true) st tk p true _ rfl h.row h.apart)
  have HB := hide ((Below.refl B w).setCell (p := ⟨b, 4, none⟩) h.low (.bool true))
  clear h
  go_enter Tryd.func30, Tryd.ntmps30
  go_wp2
  (try simp only [Exit.inBlock, Exit.then])
  refine bodyPost_ret (results_none rfl _ _ _) rfl ?_
  exact ⟨rfl, ⟨_, unhide HP⟩, unhide HB⟩

theorem news_intS (w : World) (a : Int) : ∀ j u, ([Value.int .i64 a] : List Value)[j]? = some u → (w.alloc (.cells #[.int .i64 a] 3)).cell? ((⟨w.heap.size, 0, none⟩ : Addr).add j) = some u := by
  intro j u hj
  match j, hj with
  | 0, hj => simp at hj; subst hj; simp [Addr.add]

set_option maxRecDepth 100000 in
set_option maxHeartbeats 1600000 in
theorem spush_room (B b g : Nat) (st sl : List Int) (tk : Nat) (p q : Bool) (a : Int) (w : World) (h : SMach B b g st sl tk p q w) (hl : st.length < 500) :
    Calls Tryd.prog 30 #[.pointer (some ⟨b, 0, none⟩), .int .i64 a] w fun e w' => e = .returned (.tuple #[]) ∧ SMach B b g (st ++ [a]) sl tk p q w' ∧ Below B w w' := by
  obtain ⟨v, h⟩ := h
  obtain ⟨i0, hi, hz0, hz1, hz2⟩ := info_parts infoIntS
  have c0 := h.c0
  have hB := h.low
  have hbl := h.lt
  obtain ⟨ao, cap, rfl⟩ := h.form
  have hA := h.below ((Below.refl w.heap.size w).alloc (Nat.le_refl _) (.cells #[.int .i64 a] 3))
  have HA := hide hA
  have hne : ((st.length : Int) == 500) = false := by simp; omega
  clear h hA
  go_enter Tryd.func30, Tryd.ntmps30
  go_wp2_with (at_builtin; refine wpList_append_lies _ rfl _ _ 45 rfl B 3 i0 (.int .i64 0) 1 8 Tryd.underlying45 hi hz0 hz1 hz2 rfl (by decide) _ _ _ rfl (unhide HA).row ⟨w.heap.size, 0, none⟩ 1 1 [.int .i64 a] rfl rfl (news_intS w a) (by intro u hu; simp at hu; subst hu; rfl) (by decide) ?c1 ?c2 ?c3 (w.heap.size + 1) (by simp) ?_)
  case c1 => unfold maxLen; omega
  case c2 => omega
  case c3 => simp; omega
  intro g' cap' w2 hown' hgrow hlie hglt
  have hA := unhide HA
  have g1 : w2.heap[b]? = some (.cells #[.slice ao st.length cap, .slice (some ⟨g, 0, none⟩) 80 80, .int .i64 tk, .bool p, .bool q] 47 (0, 0)) := (hgrow.block b hA.lt (fun e => hA.vb e.symm)).trans hA.block
  have g2 : w2.ownsRow B 3 1 (.slice (some ⟨g, 0, none⟩) 80 80) 80 (sl.map i64s) := hA.slots.kept hgrow (.inr (fun e => hA.apart e.symm))
  have d0 : w2.cell? ⟨b, 0, none⟩ = some (.slice ao st.length cap) := by rw [Lib.cell_of_heap g1]; rfl
  have f0 : w2.frozen? ⟨b, 0, none⟩ = false := Lib.frozen_of_heap g1 0
  have hag : (Value.slice (some ⟨g', 0, none⟩) (st.length + 1) cap').ownBlock ≠ some g := by
    intro e
    simp [Value.ownBlock] at e
    subst e
    rcases hlie with h | h
    · exact hA.apart h
    · have := (hA.slots.lt g' rfl).2
      simp at this
      omega
  have hput := hide (smach_put hB g1 g2 hA.len 0 (.slice (some ⟨g', 0, none⟩) (st.length + 1) cap') (st ++ [a]) tk p q (.slice (some ⟨g', 0, none⟩) (st.length + 1) cap') rfl (by simpa [i64s] using hown') hag)
  have hbel := hide (((((Below.refl B w).alloc (by omega) _)).grown hgrow (by simp; omega) (fun k hk => (hA.row.lt k hk).1)).setCell (p := ⟨b, 0, none⟩) hB (.slice (some ⟨g', 0, none⟩) (st.length + 1) cap'))
  clear hown' hgrow g1 g2 hA hag hlie
  go_wp2
  go_end0
  exact ⟨rfl, ⟨_, unhide hput⟩, unhide hbel⟩

theorem row_dropS {w : World} {base : Nat} {e : TypeId} {g n cap : Nat} {xs : List Value} (h : w.ownsRow base e 1 (.slice (some ⟨g, 0, none⟩) (n + 1) cap) (n + 1) xs) : w.ownsRow base e 1 (.slice (some ⟨g, 0, none⟩) n cap) n xs.dropLast := by
  have hx := h.1
  refine ⟨by simp; omega, ?_⟩
  rcases h.2 with ⟨h', _⟩ | ⟨g', cap', cur, h', h1, h2, h3, h4, h5, h6⟩
  · simp at h'
  · simp only [Value.slice.injEq, Option.some.injEq, Addr.mk.injEq, and_true, true_and] at h'
    obtain ⟨rfl, rfl⟩ := h'
    refine .inr ⟨g, cap, cur, rfl, h1, h2, by omega, h4, h5, ?_⟩
    rw [← h6, List.dropLast_eq_take, List.take_take]
    congr 1
    rw [h6]
    omega

set_option maxRecDepth 100000 in
set_option maxHeartbeats 1600000 in
theorem spop_none (B b g : Nat) (sl : List Int) (tk : Nat) (p q : Bool) (w : World) (h : SMach B b g [] sl tk p q w) :
    Calls Tryd.prog 32 #[.pointer (some ⟨b, 0, none⟩)] w fun e w' => e = .returned (.int .i64 0) ∧ SMach B b g [] sl tk p true w' ∧ Below B w w' ∧ ∃ j u, w' = w.setCell ⟨b, j, none⟩ u := by
  obtain ⟨v, h⟩ := h
  have c0 := h.c0
  have c4 := h.c4
  have f4 := h.free 4
  obtain ⟨ao, cap, rfl⟩ := h.form
  have HP := hide (h.put 4 (.bool true) [] tk p true _ rfl h.row h.apart)
  have HB := hide ((Below.refl B w).setCell (p := ⟨b, 4, none⟩) h.low (.bool true))
  clear h
  simp only [List.length_nil] at c0
  go_enter Tryd.func32, Tryd.ntmps32
  go_wp2
  go_ret
  exact ⟨rfl, ⟨_, unhide HP⟩, unhide HB, _, _, rfl⟩

set_option maxRecDepth 100000 in
set_option maxHeartbeats 3200000 in
theorem spop_some (B b g : Nat) (st sl : List Int) (tk : Nat) (p q : Bool) (w : World) (h : SMach B b g st sl tk p q w) (hl : ¬ st = []) (h5 : st.length ≤ 500) :
    Calls Tryd.prog 32 #[.pointer (some ⟨b, 0, none⟩)] w fun e w' => e = .returned (.int .i64 (st.getLastD 0)) ∧ SMach B b g st.dropLast sl tk p q w' ∧ Below B w w' ∧ ∃ n u, w' = (w.drewN n).setCell ⟨b, 0, none⟩ u := by
  obtain ⟨v, h⟩ := h
  have c0 := h.c0
  obtain ⟨n, hn⟩ : ∃ n, st.length = n + 1 := ⟨st.length - 1, by have := List.length_pos_iff.2 hl; omega⟩
  obtain ⟨gs, cap, rfl⟩ : ∃ gs cap, v = .slice (some ⟨gs, 0, none⟩) (n + 1) cap := by
    rcases h.row.2 with ⟨hv, h0⟩ | ⟨g, cap, cur, hv, _⟩
    · omega
    · exact ⟨_, _, by rw [hv, hn]⟩
  have hrow := h.row
  rw [hn] at hrow
  have hcap : n + 1 ≤ cap := by
    rcases hrow.2 with ⟨h', _⟩ | ⟨g', cap', cur, h', h1, h2, h3, _⟩
    · simp at h'
    · simp only [Value.slice.injEq, Option.some.injEq, Addr.mk.injEq, and_true, true_and] at h'
      omega
  have cg : w.cell? ⟨gs, n, none⟩ = some (.int .i64 (st.getLastD 0)) := by
    rw [hrow.cellAt n (by omega), List.getElem?_map, List.getElem?_eq_getElem (by omega)]
    rw [List.getLastD_eq_getLast?, List.getLast?_eq_getElem?, show st.length - 1 = n by omega, List.getElem?_eq_getElem (by omega)]
    rfl
  have f0 := h.free 0
  have hB := h.low
  have hput := hide (h.put 0 (.slice (some ⟨gs, 0, none⟩) n cap) st.dropLast tk p q (.slice (some ⟨gs, 0, none⟩) n cap) rfl (by
    have := row_dropS hrow
    simp only [List.length_dropLast, hn]
    rw [List.map_dropLast]
    exact this) (by have := h.apart; simpa [Value.ownBlock] using this))
  have hbel := hide ((Below.refl B w).setCell (p := ⟨b, 0, none⟩) hB (.slice (some ⟨gs, 0, none⟩) n cap))
  have hn5 : n ≤ 499 := by omega
  generalize st.getLastD 0 = top at cg ⊢
  have i1 : (0 : Int) ≤ n := by omega
  have i2 : (n : Int) < (n + 1 : Nat) := by omega
  have i3 : (n : Int) ≤ cap := by omega
  have i4 : ((n : Int) + 1 == 0) = false := by simp; omega
  have i5 : (n : Int) + 1 - 1 = n := by omega
  have i6 : n ≤ cap := by omega
  clear h hrow hl hn
  go_enter Tryd.func32, Tryd.ntmps32
  go_wp2
  go_quiet (fail)
  go_wp2
  have c0W : (w.drewN nq).drew.cell? ⟨b, 0, none⟩ = some (.slice (some ⟨gs, 0, none⟩) (n + 1) cap) := c0
  have f0W : (w.drewN nq).drew.frozen? ⟨b, 0, none⟩ = false := f0
  have hput2 := hide (show SMachAt B b g st.dropLast sl tk p q (.slice (some ⟨gs, 0, none⟩) n cap) (((w.drewN nq).setCell ⟨b, 0, none⟩ (.slice (some ⟨gs, 0, none⟩) n cap)).drew) from by
    have h := unhide hput
    exact ⟨h.low, h.block, h.row, h.slots, h.apart, h.len⟩)
  have hbel2 := hide (show Below B w (((w.drewN nq).setCell ⟨b, 0, none⟩ (.slice (some ⟨gs, 0, none⟩) n cap)).drew) from ((below_dn (Below.refl B w) nq).setCell (p := ⟨b, 0, none⟩) hB _).drew)
  have hww := hide (show (((w.drewN nq).setCell ⟨b, 0, none⟩ (.slice (some ⟨gs, 0, none⟩) n cap)).drew) = (w.drewN (nq + 1)).setCell ⟨b, 0, none⟩ (.slice (some ⟨gs, 0, none⟩) n cap) from rfl)
  generalize hW : w.drewN nq = W at *
  clear hW c0 f0 cg hput hbel
  go_region
  all_goals
    go_wp2
    go_ret
    exact ⟨rfl, ⟨_, unhide hput2⟩, unhide hbel2, nq + 1, _, unhide hww⟩

end Go.Proofs.YtoehjbehfolekaaDoor
