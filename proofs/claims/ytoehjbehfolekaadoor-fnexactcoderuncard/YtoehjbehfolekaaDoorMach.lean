/-
  The program's machine in memory; its stack.
-/
import Derived.Test.YtoehjbehfolekaaDoorVM
import Derived.Test.YtoehjbehfolekaaDoorOps
import Derived.Test.YtoehjbehfolekaaDoorSmall
import Derived.Lib.Builder
import Derived.Deep.RegionWith
import Derived.Deep.RegionHeld3
import Derived.Laws.OwnMore
set_option linter.unusedVariables false
namespace Go.Proofs.YtoehjbehfolekaaDoor
open Go.RowKit Go.Maps Go.Deep

theorem infoInt : (Tryd.prog.info? 3).map (fun i => (i.zero, i.size, i.bytes)) = some (some (.int .i64 0), 1, 8) := by kernel_rfl
def i64v (n : Int) : Value := .int .i64 n
def mcells (sg vb : Nat) (v : Value) (m : VM) : List Value := [.map (some sg), .map (some vb), v, .int .i64 500] ++ (m.sl.map i64v ++ [.int .i64 m.pc, .int .i64 m.tk])
/-- the machine lies in its own block b (from B on): its two maps, its stack, its slots, its place, its steps -/
structure MachAt (B b sg vb nb : Nat) (D : DataW Unit) (m : VM) (v : Value) (w : World) : Prop where
  low : B ≤ b
  block : w.heap[b]? = some (.cells (mcells sg vb v m).toArray 84 (0, 0))
  row : w.ownsRow B 3 1 v m.st.length (m.st.map i64v)
  apart : v.ownBlock ≠ some b
  signs : w.ownsMap Tryd.prog 3 fnElem sg 18 signMap
  vals : w.ownsMap Tryd.prog 9 (plainElem Tryd.prog 3) vb nb D
  len : m.sl.length = 80
def Mach (B b sg vb nb : Nat) (D : DataW Unit) (m : VM) (w : World) : Prop := ∃ v, MachAt B b sg vb nb D m v w

theorem mcell_slot (sg vb : Nat) (v : Value) (m : VM) (i : Nat) (hi : i < m.sl.length) : (mcells sg vb v m)[4 + i]? = some (.int .i64 (m.sl.getD i 0)) := by
  unfold mcells
  rw [List.getElem?_append_right (by simp), List.getElem?_append_left (by simp; omega)]
  simp only [List.length_cons, List.length_nil]
  rw [show 4 + i - (0 + 1 + 1 + 1 + 1) = i by omega, List.getElem?_map, List.getElem?_eq_getElem hi]
  simp [i64v, List.getD_eq_getElem?_getD, hi]
theorem mcell_pc (sg vb : Nat) (v : Value) (m : VM) (h : m.sl.length = 80) : (mcells sg vb v m)[84]? = some (.int .i64 m.pc) := by
  unfold mcells
  rw [List.getElem?_append_right (by simp), List.getElem?_append_right (by simp [h])]
  simp [h]
theorem mcell_tk (sg vb : Nat) (v : Value) (m : VM) (h : m.sl.length = 80) : (mcells sg vb v m)[85]? = some (.int .i64 m.tk) := by
  unfold mcells
  rw [List.getElem?_append_right (by simp), List.getElem?_append_right (by simp [h])]
  simp [h]

section
variable {B b sg vb nb : Nat} {D : DataW Unit} {m : VM} {v : Value} {w : World}
theorem MachAt.cell (h : MachAt B b sg vb nb D m v w) (j : Nat) : w.cell? ⟨b, j, none⟩ = (mcells sg vb v m)[j]? := by
  rw [Lib.cell_of_heap h.block]; simp
theorem MachAt.c0 (h : MachAt B b sg vb nb D m v w) : w.cell? ⟨b, 0, none⟩ = some (.map (some sg)) := h.cell 0
theorem MachAt.c1 (h : MachAt B b sg vb nb D m v w) : w.cell? ⟨b, 1, none⟩ = some (.map (some vb)) := h.cell 1
theorem MachAt.c2 (h : MachAt B b sg vb nb D m v w) : w.cell? ⟨b, 2, none⟩ = some v := h.cell 2
theorem MachAt.c3 (h : MachAt B b sg vb nb D m v w) : w.cell? ⟨b, 3, none⟩ = some (.int .i64 500) := h.cell 3
theorem MachAt.slot (h : MachAt B b sg vb nb D m v w) (i : Nat) (hi : i < 80) : w.cell? ⟨b, 4 + i, none⟩ = some (.int .i64 (m.sl.getD i 0)) := by
  rw [h.cell, mcell_slot _ _ _ _ _ (by rw [h.len]; omega)]
theorem MachAt.pc (h : MachAt B b sg vb nb D m v w) : w.cell? ⟨b, 84, none⟩ = some (.int .i64 m.pc) := by rw [h.cell, mcell_pc _ _ _ _ h.len]
theorem MachAt.tk (h : MachAt B b sg vb nb D m v w) : w.cell? ⟨b, 85, none⟩ = some (.int .i64 m.tk) := by rw [h.cell, mcell_tk _ _ _ _ h.len]
theorem MachAt.free (h : MachAt B b sg vb nb D m v w) (j : Nat) : w.frozen? ⟨b, j, none⟩ = false := Lib.frozen_of_heap h.block j
theorem MachAt.lt (h : MachAt B b sg vb nb D m v w) : b < w.heap.size := by
  rcases Nat.lt_or_ge b w.heap.size with h' | h'
  · exact h'
  · have := h.block; simp [Array.getElem?_eq_none h'] at this
theorem map_apart {H : Type} {P : Program} {k : TypeId} {R : Value → Option (DataW H × List MemPlace)} {w : World} {c n b : Nat} {E : DataW H} {cs : Array Value} {t : TypeId} (hm : w.ownsMap P k R c n E) (hb : w.heap[b]? = some (.cells cs t (0, 0))) : c ≠ b := by
  rintro rfl
  obtain ⟨es, clock, hh, _⟩ := hm
  have := hb.symm.trans hh
  simp at this
theorem MachAt.below {w' : World} (h : MachAt B b sg vb nb D m v w) (hb : Below w.heap.size w w') : MachAt B b sg vb nb D m v w' :=
  ⟨h.low, (hb.block b h.lt).trans h.block, ownsRow_up h.row hb, h.apart, ownsMap_below h.signs hb h.signs.lt, ownsMap_below h.vals hb h.vals.lt, h.len⟩

theorem ownsMap_set {H : Type} {P : Program} {k : TypeId} {R : Value → Option (DataW H × List MemPlace)} {w : World} {c n : Nat} {D : DataW H} (h : w.ownsMap P k R c n D) {b j : Nat} (hne : c ≠ b) (u : Value) : (w.setCell ⟨b, j, none⟩ u).ownsMap P k R c n D := by
  obtain ⟨es, clock, hh, r⟩ := h
  exact ⟨es, clock, (heap_setCell_other w ⟨b, j, none⟩ c u hne).trans hh, r⟩
/-- a cell of the machine is written -/
theorem mach_put (hB : B ≤ b) (hbk : w.heap[b]? = some (.cells (mcells sg vb v m).toArray 84 (0, 0))) (hs : w.ownsMap Tryd.prog 3 fnElem sg 18 signMap) (hv : w.ownsMap Tryd.prog 9 (plainElem Tryd.prog 3) vb nb D)
    (j : Nat) (u : Value) (m' : VM) (v' : Value) (hc : (mcells sg vb v m).set j u = mcells sg vb v' m') (hl : m'.sl.length = 80)
    (hrow : w.ownsRow B 3 1 v' m'.st.length (m'.st.map i64v)) (ha : v'.ownBlock ≠ some b) : MachAt B b sg vb nb D m' v' (w.setCell ⟨b, j, none⟩ u) := by
  refine ⟨hB, ?_, ?_, ha, ownsMap_set hs (map_apart hs hbk) u, ownsMap_set hv (map_apart hv hbk) u, hl⟩
  · rw [heap_setCell_same w b j _ _ u hbk, ← hc]
    simp
  · exact ownsRow_setCell_other hrow ha u
theorem MachAt.put (h : MachAt B b sg vb nb D m v w) (j : Nat) (u : Value) (m' : VM) (v' : Value) (hc : (mcells sg vb v m).set j u = mcells sg vb v' m') (hl : m'.sl.length = 80)
    (hrow : w.ownsRow B 3 1 v' m'.st.length (m'.st.map i64v)) (ha : v'.ownBlock ≠ some b) : MachAt B b sg vb nb D m' v' (w.setCell ⟨b, j, none⟩ u) :=
  mach_put h.low h.block h.signs h.vals j u m' v' hc hl hrow ha
theorem MachAt.grown {w' : World} (h : MachAt B b sg vb nb D m v w) (hg : w.grownBy w' v.ownBlock) : w'.heap[b]? = some (.cells (mcells sg vb v m).toArray 84 (0, 0)) ∧ w'.ownsMap Tryd.prog 3 fnElem sg 18 signMap ∧ w'.ownsMap Tryd.prog 9 (plainElem Tryd.prog 3) vb nb D := by
  have hne : ∀ {H : Type} {P : Program} {k : TypeId} {R : Value → Option (DataW H × List MemPlace)} {c n : Nat} {E : DataW H}, w.ownsMap P k R c n E → some c ≠ v.ownBlock := by
    intro H P k R c n E hm e
    obtain ⟨es, clock, hh, _⟩ := hm
    rcases h.row.2 with ⟨rfl, _⟩ | ⟨g, cap, cur, rfl, _, hg', _⟩
    · simp [Value.ownBlock] at e
    · simp [Value.ownBlock] at e
      subst e
      have := hg'.symm.trans hh
      simp at this
  refine ⟨(hg.block b h.lt (fun e => h.apart e.symm)).trans h.block, ?_, ?_⟩
  · have hx := hne h.signs
    obtain ⟨es, clock, hh, r⟩ := h.signs
    exact ⟨es, clock, (hg.block sg (Array.getElem?_eq_some_iff.1 hh).1 hx).trans hh, r⟩
  · have hx := hne h.vals
    obtain ⟨es, clock, hh, r⟩ := h.vals
    exact ⟨es, clock, (hg.block vb (Array.getElem?_eq_some_iff.1 hh).1 hx).trans hh, r⟩
end

set_option maxRecDepth 100000 in
set_option maxHeartbeats 1600000 in
theorem mpush_full (B b sg vb nb : Nat) (D : DataW Unit) (m : VM) (a : Int) (w : World) (h : Mach B b sg vb nb D m w) (hl : m.st.length = 500) :
    Calls Tryd.prog 73 #[.pointer (some ⟨b, 2, none⟩), .int .i64 a] w fun e w' => e = .returned (.bool false) ∧ Below B w w' := by
  obtain ⟨v, h⟩ := h
  have c2 : w.drew.cell? ⟨b, 2, none⟩ = some v := h.c2
  have c3 : w.drew.cell? ⟨b, 3, none⟩ = some (.int .i64 500) := h.c3
  obtain ⟨g, cap, rfl⟩ : ∃ g cap, v = .slice (some ⟨g, 0, none⟩) 500 cap := by
    rcases h.row.2 with ⟨_, h0⟩ | ⟨g, cap, cur, hv, _⟩
    · omega
    · exact ⟨g, cap, by rw [hv, hl]⟩
  clear h
  go_enter Tryd.func73, Tryd.ntmps73
  go_wp2
  go_region_held3 (fun w' => w' = w.drew) (rfl) (fail)
  go_wp2
  go_ret
  exact ⟨rfl, (Below.refl _ _).drew⟩

theorem news_int (w : World) (a : Int) : ∀ j u, ([Value.int .i64 a] : List Value)[j]? = some u → (w.alloc (.cells #[.int .i64 a] 3)).drew.cell? ((⟨w.heap.size, 0, none⟩ : Addr).add j) = some u := by
  intro j u hj
  match j, hj with
  | 0, hj => simp at hj; subst hj; simp [Addr.add]

set_option maxRecDepth 100000 in
set_option maxHeartbeats 1600000 in
theorem mpush_room (B b sg vb nb : Nat) (D : DataW Unit) (m : VM) (a : Int) (w : World) (h : Mach B b sg vb nb D m w) (hl : m.st.length < 500) :
    Calls Tryd.prog 73 #[.pointer (some ⟨b, 2, none⟩), .int .i64 a] w fun e w' => e = .returned (.bool true) ∧ Mach B b sg vb nb D { m with st := m.st ++ [a] } w' ∧ Below B w w' := by
  obtain ⟨v, h⟩ := h
  obtain ⟨i0, hi, hz0, hz1, hz2⟩ := info_parts infoInt
  have c2 : w.drew.cell? ⟨b, 2, none⟩ = some v := h.c2
  have c3 : w.drew.cell? ⟨b, 3, none⟩ = some (.int .i64 500) := h.c3
  have hbl := h.lt
  have hB := h.low
  have HM := hide (show MachAt B b sg vb nb D m v w.drew from ⟨h.low, h.block, h.row, h.apart, h.signs, h.vals, h.len⟩)
  obtain ⟨ao, n, cap, rfl, hn⟩ : ∃ ao n cap, v = .slice ao n cap ∧ n = m.st.length := by
    rcases h.row.2 with ⟨hv, h0⟩ | ⟨g, cap, cur, hv, _⟩
    · exact ⟨_, _, _, hv, h0.symm⟩
    · exact ⟨_, _, _, hv, rfl⟩
  have hnn : (n : Int) < 500 := by omega
  have hne : ((n : Int) == 500) = false := by simp; omega
  have HN := hide hn
  have HMA := hide (show MachAt B b sg vb nb D m (.slice ao n cap) (w.alloc (.cells #[.int .i64 a] 3)).drew from (unhide HM).below (((Below.refl w.drew.heap.size w.drew).alloc (Nat.le_refl _) (.cells #[.int .i64 a] 3))))
  clear h hn
  go_enter Tryd.func73, Tryd.ntmps73
  go_wp2
  go_region_held3 (fun w' => w' = w.drew) (rfl) (fail)
  go_wp2_with (at_builtin; refine wpList_append_own _ rfl _ _ 45 rfl B 3 i0 (.int .i64 0) 1 8 Tryd.underlying45 hi hz0 hz1 hz2 rfl (by decide) _ _ _ rfl (unhide HMA).row ⟨w.heap.size, 0, none⟩ 1 1 [.int .i64 a] rfl rfl (news_int w a) (by intro u hu; simp at hu; subst hu; rfl) ?c1 ?c2 ?c3 ?_)
  case c1 => unfold maxLen; omega
  case c2 => omega
  case c3 => omega
  intro v' w2 hown' hgrow _
  have hm2 := unhide HMA
  obtain ⟨g1, g2, g3⟩ := hm2.grown hgrow
  have hap := hm2.apart
  have hle := hm2.len
  have d2 : w2.cell? ⟨b, 2, none⟩ = some (.slice ao n cap) := by rw [Lib.cell_of_heap g1]; rfl
  have f2 : w2.frozen? ⟨b, 2, none⟩ = false := Lib.frozen_of_heap g1 2
  obtain ⟨ao', n', cap', rfl⟩ : ∃ ao n cap, v' = .slice ao n cap := by
    rcases hown'.2 with ⟨hv, _⟩ | ⟨g, cap, cur, hv, _⟩
    · exact ⟨_, _, _, hv⟩
    · exact ⟨_, _, _, hv⟩
  have hnb : (Value.slice ao' n' cap').ownBlock ≠ some b := by
    intro e
    rcases hown'.2 with ⟨hv, _⟩ | ⟨g, cc, cur, hv, _, hg, _⟩
    · rw [hv] at e; simp [Value.ownBlock] at e
    · rw [hv] at e
      simp [Value.ownBlock] at e
      subst e
      have := hg.symm.trans g1
      simp at this
  have hrow2 : w2.ownsRow B 3 1 (.slice ao' n' cap') (m.st ++ [a]).length ((m.st ++ [a]).map i64v) := by
    have e := unhide HN
    subst e
    simpa [i64v] using hown'
  have hput := hide (mach_put (m' := { m with st := m.st ++ [a] }) (v' := .slice ao' n' cap') hB g1 g2 g3 2 (.slice ao' n' cap') rfl hle hrow2 hnb)
  have hbel := hide ((((Below.refl B w).alloc (by show B ≤ w.heap.size; omega) _).drew.grown hgrow (by simp; omega) (fun k hk => ((unhide HM).row.lt k hk).1)).setCell (p := ⟨b, 2, none⟩) hB (.slice ao' n' cap'))
  clear hown' hgrow g1 g2 g3 hap hle hrow2 hnb hm2
  go_wp2
  go_ret
  exact ⟨rfl, ⟨_, unhide hput⟩, unhide hbel⟩

theorem row_drop {w : World} {base : Nat} {e : TypeId} {g n cap : Nat} {xs : List Value} (h : w.ownsRow base e 1 (.slice (some ⟨g, 0, none⟩) (n + 1) cap) (n + 1) xs) : w.ownsRow base e 1 (.slice (some ⟨g, 0, none⟩) n cap) n xs.dropLast := by
  have hx := h.1
  refine ⟨by simp; omega, ?_⟩
  rcases h.2 with ⟨h', _⟩ | ⟨g', cap', cur, h', h1, h2, h3, h4, h5, h6⟩
  · simp at h'
  · simp only [Value.slice.injEq, Option.some.injEq, Addr.mk.injEq, and_true, true_and] at h'
    obtain ⟨rfl, rfl⟩ := h'
    refine .inr ⟨g, cap, cur, rfl, h1, h2, by omega, h4, h5, ?_⟩
    rw [← h6, List.dropLast_eq_take, List.take_take]
    congr 1
    rw [h6]
    omega

set_option maxRecDepth 100000 in
set_option maxHeartbeats 1600000 in
theorem mpop_none (B b sg vb nb : Nat) (D : DataW Unit) (m : VM) (w : World) (h : Mach B b sg vb nb D m w) (hl : m.st = []) :
    Calls Tryd.prog 42 #[.pointer (some ⟨b, 2, none⟩)] w fun e w' => e = .returned (.tuple #[.int .i64 0, .bool false]) ∧ w' = w := by
  obtain ⟨v, h⟩ := h
  have c2 := h.c2
  obtain ⟨ao, cap, rfl⟩ : ∃ ao cap, v = .slice ao 0 cap := by
    rcases h.row.2 with ⟨hv, h0⟩ | ⟨g, cap, cur, hv, _⟩
    · exact ⟨_, _, hv⟩
    · exact ⟨_, _, by rw [hv, hl]; rfl⟩
  clear h
  go_enter Tryd.func42, Tryd.ntmps42
  go_wp2
  go_ret2
  exact ⟨rfl, rfl⟩

set_option maxRecDepth 100000 in
set_option maxHeartbeats 1600000 in
theorem mpop_some (B b sg vb nb : Nat) (D : DataW Unit) (m : VM) (w : World) (h : Mach B b sg vb nb D m w) (hl : ¬ m.st = []) (h5 : m.st.length ≤ 500) :
    Calls Tryd.prog 42 #[.pointer (some ⟨b, 2, none⟩)] w fun e w' => e = .returned (.tuple #[.int .i64 (m.st.getLastD 0), .bool true]) ∧ Mach B b sg vb nb D { m with st := m.st.dropLast } w' ∧ Below B w w' ∧ ∃ u, w' = w.setCell ⟨b, 2, none⟩ u := by
  obtain ⟨v, h⟩ := h
  have c2 := h.c2
  obtain ⟨n, hn⟩ : ∃ n, m.st.length = n + 1 := ⟨m.st.length - 1, by have := List.length_pos_iff.2 hl; omega⟩
  obtain ⟨g, cap, rfl⟩ : ∃ g cap, v = .slice (some ⟨g, 0, none⟩) (n + 1) cap := by
    rcases h.row.2 with ⟨hv, h0⟩ | ⟨g, cap, cur, hv, _⟩
    · omega
    · exact ⟨_, _, by rw [hv, hn]⟩
  have hrow := h.row
  rw [hn] at hrow
  have hcap : n + 1 ≤ cap := by
    rcases hrow.2 with ⟨h', _⟩ | ⟨g', cap', cur, h', h1, h2, h3, _⟩
    · simp at h'
    · simp only [Value.slice.injEq, Option.some.injEq, Addr.mk.injEq, and_true, true_and] at h'
      omega
  have cg : w.cell? ⟨g, n, none⟩ = some (.int .i64 (m.st.getLastD 0)) := by
    rw [hrow.cellAt n (by omega), List.getElem?_map, List.getElem?_eq_getElem (by omega)]
    rw [List.getLastD_eq_getLast?, List.getLast?_eq_getElem?, show m.st.length - 1 = n by omega, List.getElem?_eq_getElem (by omega)]
    rfl
  have f2 := h.free 2
  have hB := h.low
  have hput := hide (h.put 2 (.slice (some ⟨g, 0, none⟩) n cap) { m with st := m.st.dropLast } (.slice (some ⟨g, 0, none⟩) n cap) rfl h.len (by
    have := row_drop hrow
    simp only [List.length_dropLast, hn]
    rw [List.map_dropLast]
    exact this) (by have := h.apart; simpa [Value.ownBlock] using this))
  have hbel := hide ((Below.refl B w).setCell (p := ⟨b, 2, none⟩) hB (.slice (some ⟨g, 0, none⟩) n cap))
  have hn5 : n ≤ 499 := by omega
  generalize m.st.getLastD 0 = top at cg ⊢
  have i1 : (0 : Int) ≤ n := by omega
  have i2 : (n : Int) < (n + 1 : Nat) := by omega
  have i3 : (n : Int) ≤ cap := by omega
  clear h hrow hl hn
  go_enter Tryd.func42, Tryd.ntmps42
  go_wp2
  go_ret2
  exact ⟨rfl, ⟨_, unhide hput⟩, unhide hbel, _, rfl⟩

end Go.Proofs.YtoehjbehfolekaaDoor
