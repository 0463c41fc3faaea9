/-
  What the rows' list says of the program's table: its cells hold it.
-/
import Derived.Test.YtoehjbehfolekaaDoorShapes
import Derived.Test.YtoehjbehfolekaaDoorRows
import Derived.OpenShut
import Derived.Lib.LaidTab
namespace Go.Proofs.YtoehjbehfolekaaDoor
open Go.RowKit Go.Maps

theorem lt_of_cellL {w : World} {b off : Nat} {v : Value} (h : w.cell? ⟨b, off, none⟩ = some v) : b < w.heap.size := by
  by_cases hb : b < w.heap.size
  · exact hb
  · exfalso
    have : w.heap[b]? = none := Array.getElem?_eq_none (by omega)
    simp [World.cell?, this] at h
theorem gShapesType : (Tryd.prog.globals[1]?).map (·.type) = some 100 := by kernel_rfl
theorem cells_shape : Tryd.prog.cellsOf 99 = 3 := by kernel_rfl
theorem cells_shapes : Tryd.prog.cellsOf 100 = 72 := by kernel_rfl
theorem cells_i : Tryd.prog.cellsOf 3 = 1 := by kernel_rfl
theorem cells_s : Tryd.prog.cellsOf 9 = 1 := by kernel_rfl
def shapeData {H : Type} (r : Int × Int × ByteArray) : DataW H := .agg [.lit (.int .i64 r.1), .lit (.int .i64 r.2.1), .lit (.string r.2.2.data.toList)]
theorem laid_eq {H : Type} : Rows.laid_loop_example_headrace_impl_shapes (H := H) = .agg (shapesL.map shapeData) := rfl

set_option maxRecDepth 100000 in
theorem shapes_of_laid {W : World} {name : String} {rest : List (String × DataW Unit)} (hg : Tryd.prog.globalNamed name = some 1) (h : laidMet Tryd.prog ((name, Rows.laid_loop_example_headrace_impl_shapes) :: rest) W) : ShapesIn W := by
  obtain ⟨ps, ⟨g', t', cs, fuel, p, q, hg', ht', hvar, hd, _, _⟩, _⟩ := h
  obtain rfl := Option.some.inj (hg.symm.trans hg')
  obtain rfl := Option.some.inj (gShapesType.symm.trans ht')
  rw [laid_eq] at hd
  have hcell := World.var?_cell hg hvar
  obtain ⟨xs, m, _, hx, hlen, hxl, hf⟩ := DataW.trod_array Tryd.underlying100 hd
  have hxs : shapesL.map (shapeData (H := Unit)) = xs.map (·.1) := by
    have := congrArg Prod.fst hx
    simpa using this
  have key : ∀ i (hi : i < shapesL.length), cs.toList[i * 3]? = some (.int .i64 shapesL[i].1) ∧ cs.toList[i * 3 + 1]? = some (.int .i64 shapesL[i].2.1) ∧ cs.toList[i * 3 + 2]? = some (.string shapesL[i].2.2) := by
    intro i hi
    have hi' : i < 24 := by rw [shapes_len] at hi; exact hi
    have hfi := hf i hi'
    rw [List.getElem?_eq_getElem (by omega), cells_shape] at hfi
    have h2 : xs[i].1 = shapeData shapesL[i] := by
      have h3 := congrArg (·[i]?) hxs
      simp only [List.getElem?_map, List.getElem?_eq_getElem hi, List.getElem?_eq_getElem (show i < xs.length by omega), Option.map_some, Option.some.injEq] at h3
      exact h3.symm
    generalize shapesL[i] = row at h2 ⊢
    obtain ⟨ys, n, _, hy, hl3, hyl, hfs⟩ := DataW.trod_struct Tryd.underlying99 hfi
    generalize hcs : List.take 3 (List.drop (i * 3) cs.toList) = c3 at *
    rw [cells_shape] at hl3
    match ys, hyl, c3, hl3, hcs with
    | [y0, y1, y2], _, [v0, v1, v2], _, hcs =>
      have g0 := hfs 0 _ rfl
      have g1 := hfs 1 _ rfl
      have g2 := hfs 2 _ rfl
      simp [cells_i, cells_s] at g0 g1 g2
      obtain ⟨n0, e0, z0, _⟩ := DataW.trod_int Tryd.underlying3 g0
      obtain ⟨n1, e1, z1, _⟩ := DataW.trod_int Tryd.underlying3 g1
      obtain ⟨s2, e2, z2, _⟩ := DataW.trod_string Tryd.underlying9 g2
      rw [hy] at h2
      subst z0 z1 z2
      simp only [shapeData, List.map_cons, List.map_nil, DataW.agg.injEq, List.cons.injEq, DataW.lit.injEq, Lit.int.injEq, Lit.string.injEq, true_and, and_true] at h2 e0 e1 e2
      obtain ⟨q0, q1, q2⟩ := h2
      subst e0 e1 e2
      obtain ⟨r0, r1, r2⟩ := row
      simp only at q0 q1 q2 ⊢
      subst q0 q1
      have hs2 : s2 = r2 := by cases s2; cases r2; simp_all
      subst hs2
      have at' : ∀ k, k < 3 → cs.toList[i * 3 + k]? = (List.take 3 (List.drop (i * 3) cs.toList))[k]? := by
        intro k hk
        rw [List.getElem?_take, if_pos hk, List.getElem?_drop]
      refine ⟨?_, ?_, ?_⟩
      · have := at' 0 (by omega); rw [hcs] at this; simpa using this
      · have := at' 1 (by omega); rw [hcs] at this; simpa using this
      · have := at' 2 (by omega); rw [hcs] at this; simpa using this
  have hc' : ∀ k, W.cell? ⟨1, k, none⟩ = cs.toList[k]? := fun k => by rw [hcell k]; simp
  refine ⟨?_, fun k hk => ?_⟩
  · have := (key 0 (by rw [shapes_len]; omega)).1
    rw [← hc'] at this
    exact lt_of_cellL this
  · obtain ⟨a, b, c⟩ := key k hk
    exact ⟨(hc' _).trans a, (hc' _).trans b, (hc' _).trans c⟩

end Go.Proofs.YtoehjbehfolekaaDoor
