/-
  Marks of one list put behind another row.
-/
import Derived.Test.YteonbigmggeneaaDoorMarkApp
import Derived.Test.YteonbigmggeneaaDoorMarkRowsOwn
set_option linter.unusedVariables false
namespace Go.Proofs.YteonbigmggeneaaDoor
open Go.RowKit Go.Maps Go.Deep

theorem mkOne (ys : List MarkV) : ∀ u ∈ mkCells ys, u.oneCell' = true := by
  intro u hu
  simp only [mkCells, List.mem_flatMap] at hu
  obtain ⟨x, _, hx⟩ := hu
  simp at hx
  rcases hx with rfl | rfl <;> rfl
theorem mkNews {w : World} {b off : Nat} {ys : List MarkV} (h : MarkAt w b off ys) : ∀ j u, (mkCells ys)[j]? = some u → w.cell? ((⟨b, off, none⟩ : Addr).add j) = some u := by
  intro j u hu
  have hadd : (⟨b, off, none⟩ : Addr).add j = ⟨b, off + j, none⟩ := by unfold Addr.add; split <;> simp_all
  rw [hadd]
  obtain ⟨hj, _⟩ := List.getElem?_eq_some_iff.1 hu
  rw [mkCells_len] at hj
  obtain ⟨e0, e1⟩ := mkCells_get ys (j / 2) (by omega)
  obtain ⟨c0, c1⟩ := h (j / 2) (by omega)
  rcases Nat.mod_two_eq_zero_or_one j with hm | hm
  · have ej : j = j / 2 * 2 := by omega
    rw [← ej] at e0 c0
    rw [e0] at hu
    cases hu
    exact c0
  · have ej : j = j / 2 * 2 + 1 := by omega
    rw [← ej] at e1
    rw [show off + j / 2 * 2 + 1 = off + j by omega] at c1
    rw [e1] at hu
    cases hu
    exact c1
theorem mksAppend_run (B : Nat) (w : World) (v u : Value) (xs ys : List MarkV) (hv : MkRow B w v xs) (hu : MarkSRd w u ys) (h0 : ys ≠ []) (hl : xs.length + ys.length ≤ 1000000) (hB : B ≤ w.heap.size) (ty : TypeId) :
    ∃ g c w', (Builtin.append_ #[23, 23] ty #[v, u]).run Tryd.prog w = .ok (.slice (some ⟨g, 0, none⟩) (xs.length + ys.length) c) w' ∧ MkRow B w' (.slice (some ⟨g, 0, none⟩) (xs.length + ys.length) c) (xs ++ ys) ∧ w.grownBy w' v.ownBlock ∧ (v.ownBlock = some g ∨ g = w.heap.size) := by
  obtain ⟨i0, hi, hz0, hz1, hz2⟩ := info_parts1 infoMk
  obtain ⟨au, cu, rfl, hin⟩ := hu
  obtain ⟨b, off, rfl, hb, hc⟩ := hin.resolve_left h0
  have hpos : 0 < ys.length := List.length_pos_iff.2 h0
  obtain ⟨g, cap, w', h1, h2, h3, h4, h5⟩ := run_append_lies (P := Tryd.prog) (w := w) 23 ty B 39 i0 _ 2 24 Tryd.underlying23 hi hz0 hz1 hz2 rfl (by decide) v xs.length (mkCells xs) hv ⟨b, off, none⟩ ys.length cu (mkCells ys) (by rw [mkCells_len]) (mkNews hc) (mkOne ys) hpos (by unfold maxLen; omega) (by omega) hB w.heap.size rfl
  refine ⟨g, cap, w', h1, ?_, h3, h4⟩
  unfold MkRow
  rw [List.length_append, show mkCells (xs ++ ys) = mkCells xs ++ mkCells ys by simp [mkCells]]
  exact h2
/-- at the operation -/
theorem wpList_mksAppend {w : World} {ops : Array Oper} {rest : List Oper} {o : Oper} {a : Act} {Q : Exit → Act → World → Prop} (hgd : o.guard = none) (s x : Operand)
    (ho : o.op = .call { callee := .builtin .append, args := #[s, x], argTypes := #[23, 23] }) (B : Nat) (v u : Value) (xs ys : List MarkV) (hs : a.eval s = v) (hx : a.eval x = u)
    (hv : MkRow B w v xs) (hu : MarkSRd w u ys) (h0 : ys ≠ []) (hl : xs.length + ys.length ≤ 1000000) (hB : B ≤ w.heap.size)
    (h : ∀ g n c w', n = xs.length + ys.length → MkRow B w' (.slice (some ⟨g, 0, none⟩) n c) (xs ++ ys) → w.grownBy w' v.ownBlock → (v.ownBlock = some g ∨ g = w.heap.size) → wpList Tryd.prog ops Q rest (a.put o.dst (.slice (some ⟨g, 0, none⟩) n c)) w') : wpList Tryd.prog ops Q (o :: rest) a w := by
  obtain ⟨g, c, w', h1, h2, h3, h4⟩ := mksAppend_run B w v u xs ys hv hu h0 hl hB o.type
  refine wpList_plain hgd fun K hK => ?_
  unfold Oper.wp execOp
  simp only [ho, resolve, invoke, builtin, Sem.run_bind, Sem.run_pure, Result.andThen_ok, List.map_toArray, List.map_cons, List.map_nil, hs, hx, h1]
  exact hK _ _ (h g _ c w' rfl h2 h3 h4)
/-- at a step of a region that draws its order -/
theorem step_mksAppend {w : World} {ops : Array Oper} {o : Oper} {a : Act} {K : Act → World → Prop} {Q : Exit → Act → World → Prop} {E : Prop} (hgd : o.guard = none) (s x : Operand)
    (ho : o.op = .call { callee := .builtin .append, args := #[s, x], argTypes := #[23, 23] }) (B : Nat) (v u : Value) (xs ys : List MarkV) (hs : a.eval s = v) (hx : a.eval x = u)
    (hv : MkRow B w v xs) (hu : MarkSRd w u ys) (h0 : ys ≠ []) (hl : xs.length + ys.length ≤ 1000000) (hB : B ≤ w.heap.size)
    (h : ∀ g n c w', n = xs.length + ys.length → MkRow B w' (.slice (some ⟨g, 0, none⟩) n c) (xs ++ ys) → w.grownBy w' v.ownBlock → (v.ownBlock = some g ∨ g = w.heap.size) → K (a.put o.dst (.slice (some ⟨g, 0, none⟩) n c)) w') :
    if Region.wanted o (yielded ops a.tmps) = true then Oper.wp Tryd.prog o a w K Q else E := by
  have hw : Region.wanted o (yielded ops a.tmps) = true := by simp [Region.wanted, hgd]
  rw [if_pos hw]
  obtain ⟨g, c, w', h1, h2, h3, h4⟩ := mksAppend_run B w v u xs ys hv hu h0 hl hB o.type
  unfold Oper.wp execOp
  simp only [ho, resolve, invoke, builtin, Sem.run_bind, Sem.run_pure, Result.andThen_ok, List.map_toArray, List.map_cons, List.map_nil, hs, hx, h1]
  exact h g _ c w' rfl h2 h3 h4
theorem run_app_none {P : Program} {w : World} (t ty e : TypeId) (i : TypeInfo) (size c : Nat) (ht : P.underlying t = some (.slice e)) (hi : P.info? e = some i) (b : Nat) :
    (Builtin.append_ #[t, t] ty #[.slice (some ⟨b, 0, none⟩) 0 0, .slice none 0 c]).run P w = .ok (.slice (some ⟨b, 0, none⟩) 0 0) w := by
  simp [Builtin.append_, run_underlying ht, sizeOf, typeInfo, hi, Builtin.lenOf, Builtin.firstCells, storeCells]
theorem run_app_zero {P : Program} {w : World} (t ty e : TypeId) (i : TypeInfo) (size c : Nat) (ad : Addr) (ht : P.underlying t = some (.slice e)) (hi : P.info? e = some i) (b : Nat) :
    (Builtin.append_ #[t, t] ty #[.slice (some ⟨b, 0, none⟩) 0 0, .slice (some ad) 0 c]).run P w = .ok (.slice (some ⟨b, 0, none⟩) 0 0) w := by
  simp [Builtin.append_, run_underlying ht, sizeOf, typeInfo, hi, Builtin.lenOf, Builtin.firstCells, storeCells, loadCells, loadCellsFrom]
/-- nothing is put behind an empty row -/
theorem wpList_mksAppend0 {w : World} {ops : Array Oper} {rest : List Oper} {o : Oper} {a : Act} {Q : Exit → Act → World → Prop} (hgd : o.guard = none) (s x : Operand)
    (ho : o.op = .call { callee := .builtin .append, args := #[s, x], argTypes := #[23, 23] }) (b : Nat) (au : Option Addr) (cu : Nat) (hs : a.eval s = .slice (some ⟨b, 0, none⟩) 0 0) (hx : a.eval x = .slice au 0 cu)
    (h : wpList Tryd.prog ops Q rest (a.put o.dst (.slice (some ⟨b, 0, none⟩) 0 0)) w) : wpList Tryd.prog ops Q (o :: rest) a w := by
  obtain ⟨i0, hi, hz0, hz1, hz2⟩ := info_parts1 infoMk
  have h1 : (Builtin.append_ #[23, 23] o.type #[.slice (some ⟨b, 0, none⟩) 0 0, .slice au 0 cu]).run Tryd.prog w = .ok (.slice (some ⟨b, 0, none⟩) 0 0) w := by
    cases au with
    | none => exact run_app_none _ _ _ i0 2 cu Tryd.underlying23 hi b
    | some ad => exact run_app_zero _ _ _ i0 2 cu ad Tryd.underlying23 hi b
  refine wpList_plain hgd fun K hK => ?_
  unfold Oper.wp execOp
  simp only [ho, resolve, invoke, builtin, Sem.run_bind, Sem.run_pure, Result.andThen_ok, List.map_toArray, List.map_cons, List.map_nil, hs, hx, h1]
  exact hK _ _ h
/-- an empty row, and one of one mark -/
theorem mkLit0 (w : World) (B : Nat) (hB : B ≤ w.heap.size) : MkRow B (w.alloc (.cells #[] 39)) (.slice (some ⟨w.heap.size, 0, none⟩) 0 0) [] :=
  World.ownsRow_lit (size := 2) w #[] 0 hB (by unfold maxLen; omega) rfl
theorem mkLit1 (w : World) (x : MarkV) : MarkSRd (w.alloc (.cells #[.string x.a0, .int .i64 x.a1] 39)) (.slice (some ⟨w.heap.size, 0, none⟩) 1 1) [x] := by
  refine ⟨some ⟨w.heap.size, 0, none⟩, 1, rfl, .inr ⟨w.heap.size, 0, rfl, by simp, fun i hi => ?_⟩⟩
  simp at hi
  subst hi
  refine ⟨?_, ?_⟩
  all_goals
    rw [World.cell?_alloc_at _ _ _ _ rfl]
    rfl
end Go.Proofs.YteonbigmggeneaaDoor
