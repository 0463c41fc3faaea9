/-
  Marks over a list of nodes, found again. (Made by wip/mkndx.py.)
-/
/-
  What the rows' list says of the program's table: its cells hold it.
-/
import Derived.Test.YtaonajalokhngaaGreatDoorNdxRowsOwn
import Derived.Deep.RegionHeld3
import Derived.Test.YtaonajalokhngaaGreatDoorMerged8
import Derived.Test.YtaonajalokhngaaGreatDoorRows
import Derived.OpenShut
import Derived.Lib.LaidTab
set_option linter.unusedVariables false
namespace Go.Proofs.YtaonajalokhngaaGreatDoor
open Go.RowKit Go.Maps Go.Deep

set_option maxHeartbeats 6400000 in
theorem heldNdxS_row (w : World) (b off cap n : Nat) (k : Nat) (hk : k ≤ 1000000000) (hl : n ≤ 1048576) (hb : b < w.heap.size) (hc : NdxAt w b off (msNdx k n)) :
    Calls Tryz.prog 9 #[.slice (some ⟨b, off, none⟩) n cap, .int .i64 (k : Int)] w fun e w' => e = .returned (.int .i64 ((k + 4 * n : Nat) : Int)) ∧ Below w.heap.size w w' := by
  have HC := hide (show ∀ j, j < n → w.cell? ⟨b, off + j * 4, none⟩ = some (.int .i64 ((k + 4 * j : Nat) : Int)) ∧ w.cell? ⟨b, off + j * 4 + 1, none⟩ = some (.int .i64 (((k + 4 * j : Nat) : Int) + 1)) ∧ w.cell? ⟨b, off + j * 4 + 2, none⟩ = some (.string (mText (((k + 4 * j : Nat) : Int) + 1 + 1))) ∧ w.cell? ⟨b, off + j * 4 + 3, none⟩ = some (.int .i64 (((k + 4 * j : Nat) : Int) + 1 + 1 + 1)) from fun j hj => by
    have hj' : j < (msNdx k n).length := by rw [msNdx_len]; exact hj
    have := hc j hj'
    rw [msNdx_get] at this
    exact this)
  clear hc
  go_enter Tryz.func9, Tryz.ntmps9
  go_wp2_with fail
  go_loopw [1, 5] (fun kv i wr => ∃ j : Nat, j ≤ n ∧ i = .int .i64 j ∧ kv = .int .i64 ((k + 4 * j : Nat) : Int) ∧ Hid (Below w.heap.size w wr)) (fun _ i _ => n - (intOf i).toNat)
  case atStart => exact ⟨0, Nat.zero_le _, rfl, rfl, hide (Below.refl _ _)⟩
  case round =>
    obtain ⟨j, hj, rfl, rfl, HB⟩ := hrel
    by_cases hlt : j < n
    · have hkj : ((k + 4 * j : Nat) : Int) ≤ 9999999999 := by omega
      have HM1 := hide (fun W => markText_any (((k + 4 * j : Nat) : Int) + 1 + 1) (by omega) W)
      have HCJ := hide (fun (X : World) (bx : Below w.heap.size w X) => show X.cell? ⟨b, off + j * 4, none⟩ = some (.int .i64 ((k + 4 * j : Nat) : Int)) ∧ X.cell? ⟨b, off + j * 4 + 1, none⟩ = some (.int .i64 (((k + 4 * j : Nat) : Int) + 1)) ∧ X.cell? ⟨b, off + j * 4 + 2, none⟩ = some (.string (mText (((k + 4 * j : Nat) : Int) + 1 + 1))) ∧ X.cell? ⟨b, off + j * 4 + 3, none⟩ = some (.int .i64 (((k + 4 * j : Nat) : Int) + 1 + 1 + 1)) from ⟨(bx.cell (by exact hb)).trans (unhide HC j hlt).1, (bx.cell (by exact hb)).trans (unhide HC j hlt).2.1, (bx.cell (by exact hb)).trans (unhide HC j hlt).2.2.1, (bx.cell (by exact hb)).trans (unhide HC j hlt).2.2.2⟩)
      have hK1 : (0 : Int) ≤ ((k + 4 * j : Nat) : Int) := by omega
      have hK2 : ((k + 4 * j : Nat) : Int) ≤ 10000000000 := by omega
      have HKE := hide (show (((k + 4 * j : Nat) : Int) + 1 + 1 + 1 + 1 : Int) = ((k + 4 * (j + 1) : Nat) : Int) by omega)
      clear hkj
      generalize ((k + 4 * j : Nat) : Int) = K at *
      generalize mText (K + 1 + 1) = mt1 at *
      have HBD := hide (unhide HB).drew
      have KP := hide (show ∀ X : World, Below w.heap.size w X → X.cell? ⟨b, off + j * 4 + 2, none⟩ = some (.string mt1) ∧ Hid (Below w.heap.size w X) from fun X h => ⟨(unhide HCJ X h).2.2.1, hide h⟩)
      obtain ⟨c0, c1, c2, c3⟩ := unhide HCJ wr (unhide HB)
      go_wp2_with fail
      go_region_held3 (fun X => X.cell? ⟨b, off + j * 4 + 2, none⟩ = some (.string mt1) ∧ Hid (Below w.heap.size w X)) ((refine unhide KP _ ?_; exact unhide (by assumption)))
        (first | (go_at_call 16; refine (unhide HM1 _).mono ?_; rintro e w2 ⟨rfl, hb2⟩; have HB2 := hide ((unhide HBD).trans (hb2.mono (unhide HBD).size)); clear hb2))
      all_goals
        clear c0 c1 c2 c3
        obtain ⟨c0, c1, c2, c3⟩ := unhide HCJ w2 (unhide HB2)
        clear HBD
        go_wp2_with fail
        go_roundw
        case rel => exact ⟨j + 1, by omega, by go_num, by rw [unhide HKE], HB2⟩
        case measure => simp [intOf]; omega
    · have e : j = n := by omega
      subst e
      go_wp2_with fail
      go_ret
      exact ⟨rfl, unhide HB⟩
theorem heldNdxS_none (w : World) (a : Option Addr) (cap : Nat) (K : Int) : Calls Tryz.prog 9 #[.slice a 0 cap, .int .i64 K] w fun e w' => e = .returned (.int .i64 K) ∧ w' = w := by
  go_enter Tryz.func9, Tryz.ntmps9
  go_wp2
  refine wp_loop_rounds 1 ?_
  rw [rounds_succ]
  go_wp2
  go_ret
  exact ⟨rfl, rfl⟩
theorem heldNdxS_kit (ns : List NodeV) (v : Value) (w : World) (k n : Nat) (K : Int) (hK : K = (k : Int)) (hn : nNdxS ns = n) (hk : k ≤ 1000000000) (hs : SmallNdxS ns) (h : NdxSRd w v (marksNdxS k ns)) :
    Calls Tryz.prog 9 #[v, .int .i64 K] w fun e w' => e = .returned (.int .i64 (K + (n : Int))) ∧ Below w.heap.size w w' := by
  subst hK hn
  have hl := hs.1.1
  obtain ⟨a, c, rfl, h⟩ := h
  unfold marksNdxS at h ⊢
  rw [msNdx_len]
  rcases h with h0 | ⟨b, off, rfl, hb, hc⟩
  · have hn : ns.length = 0 := by have := congrArg List.length h0; rwa [msNdx_len] at this
    have e : ns = [] := List.eq_nil_of_length_eq_zero hn
    subst e
    refine (heldNdxS_none w a c k).mono ?_
    rintro e w' ⟨rfl, rfl⟩
    exact ⟨by simp [nNdxS], Below.refl _ _⟩
  · refine (heldNdxS_row w b off c ns.length k hk hl hb hc).mono ?_
    rintro e w' ⟨rfl, hb⟩
    exact ⟨by rw [show ((k + 4 * ns.length : Nat) : Int) = (k : Int) + ((nNdxS ns : Nat) : Int) by unfold nNdxS; omega], hb⟩
end Go.Proofs.YtaonajalokhngaaGreatDoor

namespace Go.Proofs.YtaonajalokhngaaGreatDoor
open Go.RowKit Go.Maps

theorem lt_of_cellL {w : World} {b off : Nat} {v : Value} (h : w.cell? ⟨b, off, none⟩ = some v) : b < w.heap.size := by
  by_cases hb : b < w.heap.size
  · exact hb
  · exfalso
    have : w.heap[b]? = none := Array.getElem?_eq_none (by omega)
    simp [World.cell?, this] at h
theorem gShapesType : (Tryz.prog.globals[1]?).map (·.type) = some 128 := by kernel_rfl
theorem cells_shape : Tryz.prog.cellsOf 127 = 3 := by kernel_rfl
theorem cells_shapes : Tryz.prog.cellsOf 128 = 72 := by kernel_rfl
theorem cells_i : Tryz.prog.cellsOf 3 = 1 := by kernel_rfl
theorem cells_s : Tryz.prog.cellsOf 9 = 1 := by kernel_rfl
def shapeData {H : Type} (r : Int × Int × ByteArray) : DataW H := .agg [.lit (.int .i64 r.1), .lit (.int .i64 r.2.1), .lit (.string r.2.2.data.toList)]
theorem laid_eq {H : Type} : Rows.laid_loop_example_headrace_impl_shapes (H := H) = .agg (shapesL.map shapeData) := rfl

set_option maxRecDepth 100000 in
theorem shapes_of_vars {W : World} {name : String} {rest : List (String × DataW Unit)} {ps : List MemPlace} (hg : Tryz.prog.globalNamed name = some 1) (h : DataW.LaidVars Tryz.prog W ((name, Rows.laid_loop_example_headrace_impl_shapes) :: rest) ps) : ShapesIn W := by
  obtain ⟨g', t', cs, fuel, p, q, hg', ht', hvar, hd, _, _⟩ := h
  obtain rfl := Option.some.inj (hg.symm.trans hg')
  obtain rfl := Option.some.inj (gShapesType.symm.trans ht')
  rw [laid_eq] at hd
  have hcell := World.var?_cell hg hvar
  obtain ⟨xs, m, _, hx, hlen, hxl, hf⟩ := DataW.trod_array Tryz.underlying128 hd
  have hxs : shapesL.map (shapeData (H := Unit)) = xs.map (·.1) := by
    have := congrArg Prod.fst hx
    simpa using this
  have key : ∀ i (hi : i < shapesL.length), cs.toList[i * 3]? = some (.int .i64 shapesL[i].1) ∧ cs.toList[i * 3 + 1]? = some (.int .i64 shapesL[i].2.1) ∧ cs.toList[i * 3 + 2]? = some (.string shapesL[i].2.2) := by
    intro i hi
    have hi' : i < 24 := by rw [shapes_len] at hi; exact hi
    have hfi := hf i hi'
    rw [List.getElem?_eq_getElem (by omega), cells_shape] at hfi
    have h2 : xs[i].1 = shapeData shapesL[i] := by
      have h3 := congrArg (·[i]?) hxs
      simp only [List.getElem?_map, List.getElem?_eq_getElem hi, List.getElem?_eq_getElem (show i < xs.length by omega), Option.map_some, Option.some.injEq] at h3
      exact h3.symm
    generalize shapesL[i] = row at h2 ⊢
    obtain ⟨ys, n, _, hy, hl3, hyl, hfs⟩ := DataW.trod_struct Tryz.underlying127 hfi
    generalize hcs : List.take 3 (List.drop (i * 3) cs.toList) = c3 at *
    rw [cells_shape] at hl3
    match ys, hyl, c3, hl3, hcs with
    | [y0, y1, y2], _, [v0, v1, v2], _, hcs =>
      have g0 := hfs 0 _ rfl
      have g1 := hfs 1 _ rfl
      have g2 := hfs 2 _ rfl
      simp [cells_i, cells_s] at g0 g1 g2
      obtain ⟨n0, e0, z0, _⟩ := DataW.trod_int Tryz.underlying3 g0
      obtain ⟨n1, e1, z1, _⟩ := DataW.trod_int Tryz.underlying3 g1
      obtain ⟨s2, e2, z2, _⟩ := DataW.trod_string Tryz.underlying9 g2
      rw [hy] at h2
      subst z0 z1 z2
      simp only [shapeData, List.map_cons, List.map_nil, DataW.agg.injEq, List.cons.injEq, DataW.lit.injEq, Lit.int.injEq, Lit.string.injEq, true_and, and_true] at h2 e0 e1 e2
      obtain ⟨q0, q1, q2⟩ := h2
      subst e0 e1 e2
      obtain ⟨r0, r1, r2⟩ := row
      simp only at q0 q1 q2 ⊢
      subst q0 q1
      have hs2 : s2 = r2 := by cases s2; cases r2; simp_all
      subst hs2
      have at' : ∀ k, k < 3 → cs.toList[i * 3 + k]? = (List.take 3 (List.drop (i * 3) cs.toList))[k]? := by
        intro k hk
        rw [List.getElem?_take, if_pos hk, List.getElem?_drop]
      refine ⟨?_, ?_, ?_⟩
      · have := at' 0 (by omega); rw [hcs] at this; simpa using this
      · have := at' 1 (by omega); rw [hcs] at this; simpa using this
      · have := at' 2 (by omega); rw [hcs] at this; simpa using this
  have hc' : ∀ k, W.cell? ⟨1, k, none⟩ = cs.toList[k]? := fun k => by rw [hcell k]; simp
  refine ⟨?_, fun k hk => ?_⟩
  · have := (key 0 (by rw [shapes_len]; omega)).1
    rw [← hc'] at this
    exact lt_of_cellL this
  · obtain ⟨a, b, c⟩ := key k hk
    exact ⟨(hc' _).trans a, (hc' _).trans b, (hc' _).trans c⟩

theorem shapes_of_laid {W : World} {name : String} {rest : List (String × DataW Unit)} (hg : Tryz.prog.globalNamed name = some 1) (h : laidMet Tryz.prog ((name, Rows.laid_loop_example_headrace_impl_shapes) :: rest) W) : ShapesIn W := by
  obtain ⟨ps, h, _⟩ := h
  exact shapes_of_vars hg h
end Go.Proofs.YtaonajalokhngaaGreatDoor
