/-
  TreeRead of the program.
-/
/-
  What the rows' list says of the program's table: its cells hold it.
-/
/-
  A list of bytes that comes in, opened.
-/
import Derived.Test.YtkfhokeoooafnaaGreatDoorMerged46
import Derived.Test.YtkfhokeoooafnaaGreatDoorReadT
import Derived.Test.YtkfhokeoooafnaaGreatDoorMerged12
import Derived.Test.YtkfhokeoooafnaaGreatDoorRows
import Derived.OpenShut
import Derived.Lib.LaidTab
import Derived.Test.YtkfhokeoooafnaaGreatDoorMerged22
import Derived.ProofKit
set_option linter.unusedVariables false
namespace Go.Proofs.YtkfhokeoooafnaaGreatDoor
open Go.RowKit Go.Maps Go.Deep

def RetRt (r : TrRes) (w : World) (e : Ending) (w' : World) : Prop := (match r with
  | .bad c a => e = .returned (.tuple #[.slice none 0 0, errV c a])
  | .ok x => ∃ v, e = .returned (.tuple #[v, .nilIface]) ∧ Hid (NdRow w.heap.size w' v (fl x.f))) ∧ Below w.heap.size w w'
set_option maxRecDepth 20000 in
set_option maxHeartbeats 12800000 in
theorem readTree_any (t : ByteArray) (w : World) (hs : t.size ≤ 1048576) (hsh : ShapesIn w) :
    Calls Tryz.prog 19 #[.string t] w fun e w' => RetRt (trRes t) w e w' := by
  have hmf : ∀ (fn : Fn) (first cap : Array Value) (w : World), (Instr.makeFunc fn first cap).run Tryz.prog w = .ok (.func fn first cap) w := fun _ _ _ _ => rfl
  have XL := hide ((boxF_new w [.slice none 0 0] 23).up ((Below.refl _ _).alloc (Nat.le_refl _) (.cells #[.nilIface] 45)))
  have XE := hide (boxF_new (w.alloc (.cells #[.slice none 0 0] 23)) [.nilIface] 45)
  have hsz : (w.alloc (.cells #[.slice none 0 0] 23)).heap.size = w.heap.size + 1 := by simp
  have B0 := hide (((Below.refl w.heap.size w).alloc (Nat.le_refl _) (.cells #[.slice none 0 0] 23)).alloc (by rw [hsz]; omega) (.cells #[.nilIface] 45))
  simp only [List.toArray] at XL XE
  rw [hsz] at XE
  have HSH := hide hsh
  clear hsh hsz
  go_enter_defers Tryz.func19, Tryz.ntmps19
  go_wp2_with fail
  have HWS : ((w.alloc (.cells #[.slice none 0 0] 23)).alloc (.cells #[.nilIface] 45)).heap.size = w.heap.size + 1 + 1 := by simp
  generalize (w.alloc (.cells #[.slice none 0 0] 23)).alloc (.cells #[.nilIface] 45) = W at *
  refine (cutWords_any t W hs).mono ?_
  rintro e w2 (⟨c, a, hc0, h1, h2, h3, rfl, b2⟩ | ⟨h2, h3, ra, rn, rc, rfl, R2, b2⟩)
  · have HR := hide (show trRes t = .bad c a from by rw [tr_words (by rw [h2]; exact hc0), h2, h3])
    have YL := hide ((unhide XL).up b2)
    have YE := hide ((unhide XE).up b2)
    have B2 := hide ((unhide B0).trans (b2.mono (unhide B0).size))
    clear hc0 h1 h2 h3 b2 XL XE B0
    obtain ⟨l0, l1⟩ := (unhide YL).oneI
    obtain ⟨e0, e1⟩ := (unhide YE).oneI
    have HRT := hide (fun (V : World) (b : Below w.heap.size w V) => show RetRt (trRes t) w (.returned (.tuple #[.slice none 0 0, errV c a])) V from by rw [unhide HR]; exact ⟨rfl, b⟩)
    unfold errV at HRT ⊢
    go_wp2_with fail
    have YL3 := hide ((unhide YL).far (g' := w.heap.size + 1) 0 (.iface 96 (.agg #[.int .i64 a, .iface 102 (.agg #[.int .i64 c])])) (by omega))
    have YE3 := hide ((unhide YE).set 0 (.iface 96 (.agg #[.int .i64 a, .iface 102 (.agg #[.int .i64 c])])) (by simp))
    have B3 := hide ((unhide B2).setCell (p := ⟨w.heap.size + 1, 0, none⟩) (by exact Nat.le_succ _) (.iface 96 (.agg #[.int .i64 a, .iface 102 (.agg #[.int .i64 c])])))
    simp only [List.set] at YE3
    clear YL YE B2 l0 l1 e0 e1 HR
    generalize w2.setCell ⟨w.heap.size + 1, 0, none⟩ (.iface 96 (.agg #[.int .i64 a, .iface 102 (.agg #[.int .i64 c])])) = W3 at *
    generalize (Value.agg #[.int .i64 a, .iface 102 (.agg #[.int .i64 c])]) = EU at *
    obtain ⟨l0, l1⟩ := (unhide YL3).oneI
    obtain ⟨e0, e1⟩ := (unhide YE3).oneI
    have FIN := hide (fun (V : World) (hv : V = (W3.drew.setCell ⟨w.heap.size, 0, none⟩ (.slice none 0 0)).setCell ⟨w.heap.size + 1, 0, none⟩ (.iface 96 EU) ∨ V = (W3.drew.setCell ⟨w.heap.size + 1, 0, none⟩ (.iface 96 EU)).setCell ⟨w.heap.size, 0, none⟩ (.slice none 0 0)) => show BoxF V w.heap.size [.slice none 0 0] ∧ BoxF V (w.heap.size + 1) [.iface 96 EU] ∧ Below w.heap.size w V from by
      have d1 := (unhide YL3).up (Below.refl _ _).drew
      have d2 := (unhide YE3).up (Below.refl _ _).drew
      have d3 := (unhide B3).drew
      rcases hv with rfl | rfl
      · have q1 := (d1.set 0 (.slice none 0 0) (by simp)).far (g' := w.heap.size + 1) 0 (.iface 96 EU) (by omega)
        have q2 := (d2.far (g' := w.heap.size) 0 (.slice none 0 0) (by omega)).set 0 (.iface 96 EU) (by simp)
        simp only [List.set] at q1 q2
        exact ⟨q1, q2, (d3.setCell (p := ⟨w.heap.size, 0, none⟩) (Nat.le_refl _) _).setCell (p := ⟨w.heap.size + 1, 0, none⟩) (by exact Nat.le_succ _) _⟩
      · have q1 := (d1.far (g' := w.heap.size + 1) 0 (.iface 96 EU) (by omega)).set 0 (.slice none 0 0) (by simp)
        have q2 := (d2.set 0 (.iface 96 EU) (by simp)).far (g' := w.heap.size) 0 (.slice none 0 0) (by omega)
        simp only [List.set] at q1 q2
        exact ⟨q1, q2, (d3.setCell (p := ⟨w.heap.size + 1, 0, none⟩) (by exact Nat.le_succ _) _).setCell (p := ⟨w.heap.size, 0, none⟩) (Nat.le_refl _) _⟩)
    clear YL3 YE3 B3 HSH
    go_region
    all_goals
      go_wp2_with fail
      refine leaves_cons (f := 42) (args := #[.pointer (some ⟨w.heap.size, 0, none⟩), .pointer (some ⟨w.heap.size + 1, 0, none⟩)]) (by simp) (by simp [go_sem]) ?_
      refine (tree_idle _ _ _).mono ?_
      rintro e u' w'' ⟨rfl, rfl, hw⟩
      obtain ⟨v1, v2, v3⟩ := unhide FIN w'' (by first | exact .inl hw | exact .inr hw)
      have HP := hide (unhide HRT _ v3)
      obtain ⟨x0, -⟩ := v1.oneI
      obtain ⟨y0, -⟩ := v2.oneI
      clear v1 v2 v3 FIN HRT l0 l1 e0 e1 hw
      simp [Leaves, settle, results, Tryz.results19, go_sem, x0, y0]
      exact unhide HP
  · obtain ⟨hon, hin, hob⟩ := (unhide R2).words
    subst hon
    have YL := hide ((unhide XL).up b2)
    have YE := hide ((unhide XE).up b2)
    have B2 := hide ((unhide B0).trans (b2.mono (unhide B0).size))
    have HBW := hide (tree_any t)
    have HC := hide h2
    have HIN := hide hin
    have HOB := hide hob
    have HNE := hide (show ∀ g o, ra = some ⟨g, o, none⟩ → g ∉ [w.heap.size + 1] from fun g o e => by have := (unhide R2).ge g (by rw [e]; rfl); simp; omega)
    have HSZ2 := hide (show w.heap.size + 1 < w2.heap.size from (unhide YE).1.1)
    clear h2 h3 b2 XL XE B0 hin R2 hob
    obtain ⟨l0, l1⟩ := (unhide YL).oneI
    obtain ⟨e0, e1⟩ := (unhide YE).oneI
    go_wp2_with fail
    have YL3 := hide ((unhide YL).far (g' := w.heap.size + 1) 0 .nilIface (by omega))
    have YE3 := hide ((unhide YE).set 0 .nilIface (by simp))
    have B3 := hide ((unhide B2).setCell (p := ⟨w.heap.size + 1, 0, none⟩) (by exact Nat.le_succ _) .nilIface)
    have T3 := hide ((Turn.refl [w.heap.size + 1] w2).setCell (g := w.heap.size + 1) (by simp) 0 .nilIface)
    simp only [List.set] at YE3
    have HS3 : (w2.setCell ⟨w.heap.size + 1, 0, none⟩ .nilIface).heap.size = w2.heap.size := by simp
    clear YL YE B2 l0 l1 e0 e1
    rw [← HS3] at HSZ2 ⊢
    generalize w2.setCell ⟨w.heap.size + 1, 0, none⟩ .nilIface = W3 at *
    have hb4 := (Below.refl W3.heap.size W3).alloc (Nat.le_refl _) (.cells #[.slice ra (bwWords t).length rc, .int .i64 0, .int .i64 (t.size : Int)] 100)
    have X4 := boxF_new W3 [.slice ra (bwWords t).length rc, .int .i64 0, .int .i64 (t.size : Int)] 100
    simp only [List.toArray] at X4
    have YL4 := hide ((unhide YL3).up hb4)
    have YE4 := hide ((unhide YE3).up hb4)
    have B4 := hide ((unhide B3).trans (hb4.mono (unhide B3).size))
    have S4 := hide ((unhide HSH).below (unhide B4) (Nat.le_refl _))
    have P4 := hide (show PrK (bwWords t) t.size (W3.alloc (.cells #[.slice ra (bwWords t).length rc, .int .i64 0, .int .i64 (t.size : Int)] 100)) W3.heap.size ra rc 0 from by
      have hl := (bw_words t).1
      have hgs := (unhide HSH).1
      refine ⟨⟨X4, ?_, Nat.zero_le _, by omega, ?_⟩, unhide S4, by have := unhide HSZ2; omega⟩
      · rcases unhide HIN with h0 | ⟨g, o, e, hg, hcc⟩
        · exact .inl h0
        · exact .inr ⟨g, o, e, Nat.lt_of_lt_of_le hg (Nat.le_trans (Nat.le_of_eq HS3.symm) hb4.size), (hcc.turn (unhide T3) hg (unhide HNE g o e)).turn (Turn.of_below (S := []) hb4) (by rw [HS3]; exact hg) (by simp)⟩
      · intro g o e
        have := unhide HOB g o e
        omega)
    generalize W3.alloc (.cells #[.slice ra (bwWords t).length rc, .int .i64 0, .int .i64 (t.size : Int)] 100) = W4 at *
    have HZ4 := hide (show W3.heap.size ≤ W4.heap.size from hb4.size)
    clear X4 hb4 YL3 YE3 B3 T3 HSH HIN HOB HNE S4
    refine (unhide HBW _ W3.heap.size ra rc (unhide HC) (unhide P4)).mono ?_
    intro e w5 hr
    cases hT : trRes t with
    | bad c a =>
      rw [hT] at hr
      obtain ⟨rfl, T5⟩ := hr
      have YL5 := (unhide YL4).turn (unhide T5) (by have := unhide HSZ2; simp; omega)
      have YE5 := (unhide YE4).turn (unhide T5) (by have := unhide HSZ2; simp; omega)
      have B5 := (unhide B4).trans ((unhide T5).below (unhide B4).size (by have := unhide HSZ2; simp; omega))
      refine leaves_cons (f := 42) (args := #[.pointer (some ⟨w.heap.size, 0, none⟩), .pointer (some ⟨w.heap.size + 1, 0, none⟩)]) (by simp) (by simp [go_sem]) ?_
      refine (tree_caught w.heap.size (w.heap.size + 1) c a _ _ w5 YL5 YE5 (by omega)).mono ?_
      rintro e u' w'' ⟨rfl, rfl, PP⟩
      obtain ⟨pa, pb, pc⟩ := unhide PP
      have HP := hide (show RetRt (trRes t) w (.returned (.tuple #[.slice none 0 0, errV c a])) w'' from by
        rw [hT]
        exact ⟨rfl, B5.trans (pc.below B5.size (by simp))⟩)
      obtain ⟨x0, -⟩ := pa.oneI
      obtain ⟨y0, -⟩ := pb.oneI
      clear pa pb pc PP B5 YL5 YE5
      unfold errV at y0 HP ⊢
      simp [Leaves, settle, results, Tryz.results19, go_sem, x0, y0]
      exact unhide HP
    | ok x =>
      rw [hT] at hr
      obtain ⟨v, rfl, R5, T5⟩ := hr
      have YL5 := hide ((unhide YL4).turn (unhide T5) (by have := unhide HSZ2; simp; omega))
      have YE5 := hide ((unhide YE4).turn (unhide T5) (by have := unhide HSZ2; simp; omega))
      have B5 := hide ((unhide B4).trans ((unhide T5).below (unhide B4).size (by have := unhide HSZ2; simp; omega)))
      obtain ⟨a5, c5, e5⟩ := (unhide R5).slice
      subst e5
      generalize (fl x.f).length = m5 at *
      have HGE := hide (show ∀ g, (Value.slice a5 m5 c5).ownBlock = some g → w.heap.size + 1 < g from fun g hg => by
        have h1 := (unhide R5).ge g hg
        have h2 := unhide HSZ2
        have h3 := unhide HZ4
        omega)
      have HW4 := hide (show w.heap.size ≤ W4.heap.size from (unhide B4).size)
      clear T5 YL4 YE4 B4 P4 HBW HC HSZ2
      obtain ⟨l0, l1⟩ := (unhide YL5).oneI
      obtain ⟨e0, e1⟩ := (unhide YE5).oneI
      go_wp2_with fail
      have q1 := ((unhide YL5).set 0 (.slice a5 m5 c5) (by simp)).far (g' := w.heap.size + 1) 0 .nilIface (by omega)
      have q2 := ((unhide YE5).far (g' := w.heap.size) 0 (.slice a5 m5 c5) (by omega)).set 0 .nilIface (by simp)
      simp only [List.set] at q1 q2
      have q3 := ((unhide B5).setCell (p := ⟨w.heap.size, 0, none⟩) (Nat.le_refl _) (.slice a5 m5 c5)).setCell (p := ⟨w.heap.size + 1, 0, none⟩) (by exact Nat.le_succ _) .nilIface
      have t6 := ((Turn.refl [w.heap.size, w.heap.size + 1] w5).setCell (g := w.heap.size) (by simp) 0 (.slice a5 m5 c5)).setCell (g := w.heap.size + 1) (by simp) 0 .nilIface
      have R6 := ((unhide R5).mono (unhide HW4)).keep (fun g hg => t6.block g ((unhide R5).lt g hg) (by have := unhide HGE g hg; simp; omega))
      have HP := hide (show RetRt (trRes t) w (.returned (.tuple #[.slice a5 m5 c5, .nilIface])) _ from by
        rw [hT]
        exact ⟨⟨_, rfl, hide R6⟩, q3⟩)
      obtain ⟨x0, -⟩ := q1.oneI
      obtain ⟨y0, -⟩ := q2.oneI
      clear q1 q2 q3 t6 R6 R5 HGE YL5 YE5 B5 l0 l1 e0 e1 hT
      generalize (w5.setCell ⟨w.heap.size, 0, none⟩ (.slice a5 m5 c5)).setCell ⟨w.heap.size + 1, 0, none⟩ .nilIface = V at *
      refine leaves_cons (f := 42) (args := #[.pointer (some ⟨w.heap.size, 0, none⟩), .pointer (some ⟨w.heap.size + 1, 0, none⟩)]) (by simp) (by simp [go_sem]) ?_
      refine (tree_idle _ _ _).mono ?_
      rintro e u' w'' ⟨rfl, rfl, rfl⟩
      simp [Leaves, settle, results, Tryz.results19, go_sem, x0, y0]
      exact unhide HP
set_option maxHeartbeats 6400000 in
theorem implTree_any (t : ByteArray) (w : World) (hs : t.size ≤ 1048576) (hsh : ShapesIn w) (hg : ErrG w) :
    Calls Tryz.prog 8 #[.string t] w fun e w' => RetTr (trRes t) w e w' := by
  have X0 := hide (boxF_new w [.int .i64 0, .int .i64 0] 27)
  have A0 := hide ((Below.refl _ w).alloc (Nat.le_refl _) (.cells #[.int .i64 0, .int .i64 0] 27))
  simp only [List.toArray] at X0
  have HG := hide hg
  have HSH := hide (hsh.below (unhide A0) (Nat.le_refl _))
  clear hsh hg
  go_enter Tryz.func8, Tryz.ntmps8
  go_wp2_with fail
  generalize w.alloc (.cells #[.int .i64 0, .int .i64 0] 27) = W at *
  refine (readTree_any t W hs (unhide HSH)).mono ?_
  rintro e w2 ⟨hr, b2⟩
  have X2 := hide ((unhide X0).up b2)
  have HWW := hide (unhide A0).size
  have B2 := hide ((unhide A0).trans (b2.mono (unhide A0).size))
  have HLT := hide (unhide X0).1.1
  cases hT : trRes t with
  | bad c a =>
    rw [hT] at hr
    obtain rfl := hr
    have HRT := hide (fun (V : World) (b : Below w.heap.size w V) => show RetTr (trRes t) w (.returned (.tuple #[.slice none 0 0, .agg #[.int .i64 c, .int .i64 a]])) V from by
      rw [hT]; exact ⟨none, 0, 0, rfl, hide (NdRow.nil _ _), b⟩)
    have HF := hide (faultOf_any c a w2 ((unhide HG).below (unhide B2) (Nat.le_refl _)))
    clear hT b2 HG X0 A0 HSH
    unfold errV at HF ⊢
    go_wp2_with fail
    refine (unhide HF).mono ?_
    rintro e w3 ⟨rfl, b3⟩
    have B3 := hide ((unhide B2).trans (b3.mono (unhide B2).size))
    have X3 := hide ((unhide X2).up b3)
    clear b3 HF X2 B2
    obtain ⟨⟨x0, x1⟩, f0, f1⟩ := (unhide X3).duoI
    go_wp2_with fail
    refine bodyPost_ret (v := .tuple #[.slice none 0 0, .agg #[.int .i64 c, .int .i64 a]]) (by simp [results, Tryz.results8, go_sem, x0, x1]) rfl ?_
    refine unhide HRT _ ?_
    (iterate 2 (refine Below.setCell ?_ (by exact Nat.le_refl _) _))
    exact unhide B3
  | ok x =>
    rw [hT] at hr
    obtain ⟨v, rfl, R2⟩ := hr
    obtain ⟨a5, c5, e5⟩ := (unhide R2).slice
    subst e5
    have HRT := hide (fun (V : World) (tV : Turn [w.heap.size] w2 V) => show RetTr (trRes t) w (.returned (.tuple #[.slice a5 (fl x.f).length c5, .agg #[.int .i64 0, .int .i64 0]])) V from by
      rw [hT]
      refine ⟨a5, (fl x.f).length, c5, rfl, hide ((((unhide R2).mono (B' := W.heap.size) (Nat.le_refl _)).keep (fun g hg => tV.block g ((unhide R2).lt g hg) (by have := (unhide R2).ge g hg; have := unhide HLT; simp; omega))).mono (unhide HWW)), (unhide B2).trans (tV.below (unhide B2).size (by simp))⟩)
    generalize (fl x.f).length = m5 at *
    clear hT b2 HG X0 A0 HSH R2 B2
    obtain ⟨⟨x0, x1⟩, f0, f1⟩ := (unhide X2).duoI
    go_wp2_with fail
    refine bodyPost_ret (v := .tuple #[.slice a5 m5 c5, .agg #[.int .i64 0, .int .i64 0]]) (by simp [results, Tryz.results8, go_sem, x0, x1]) rfl ?_
    refine unhide HRT _ ?_
    (iterate 2 (refine Turn.setCell ?_ (by simp) _ _))
    exact Turn.refl _ _
end Go.Proofs.YtkfhokeoooafnaaGreatDoor

namespace Go.Proofs.YtkfhokeoooafnaaGreatDoor
open Go.RowKit Go.Maps

theorem lt_of_cellL {w : World} {b off : Nat} {v : Value} (h : w.cell? ⟨b, off, none⟩ = some v) : b < w.heap.size := by
  by_cases hb : b < w.heap.size
  · exact hb
  · exfalso
    have : w.heap[b]? = none := Array.getElem?_eq_none (by omega)
    simp [World.cell?, this] at h
theorem gShapesType : (Tryz.prog.globals[0]?).map (·.type) = some 124 := by kernel_rfl
theorem cells_shape : Tryz.prog.cellsOf 123 = 3 := by kernel_rfl
theorem cells_shapes : Tryz.prog.cellsOf 124 = 72 := by kernel_rfl
theorem cells_i : Tryz.prog.cellsOf 3 = 1 := by kernel_rfl
theorem cells_s : Tryz.prog.cellsOf 9 = 1 := by kernel_rfl
def shapeData {H : Type} (r : Int × Int × ByteArray) : DataW H := .agg [.lit (.int .i64 r.1), .lit (.int .i64 r.2.1), .lit (.string r.2.2.data.toList)]
theorem laid_eq {H : Type} : Rows.laid_loop_example_headrace_impl_shapes (H := H) = .agg (shapesL.map shapeData) := rfl

set_option maxRecDepth 100000 in
theorem shapes_of_vars {W : World} {name : String} {rest : List (String × DataW Unit)} {ps : List MemPlace} (hg : Tryz.prog.globalNamed name = some 0) (h : DataW.LaidVars Tryz.prog W ((name, Rows.laid_loop_example_headrace_impl_shapes) :: rest) ps) : ShapesIn W := by
  obtain ⟨g', t', cs, fuel, p, q, hg', ht', hvar, hd, _, _⟩ := h
  obtain rfl := Option.some.inj (hg.symm.trans hg')
  obtain rfl := Option.some.inj (gShapesType.symm.trans ht')
  rw [laid_eq] at hd
  have hcell := World.var?_cell hg hvar
  obtain ⟨xs, m, _, hx, hlen, hxl, hf⟩ := DataW.trod_array Tryz.underlying124 hd
  have hxs : shapesL.map (shapeData (H := Unit)) = xs.map (·.1) := by
    have := congrArg Prod.fst hx
    simpa using this
  have key : ∀ i (hi : i < shapesL.length), cs.toList[i * 3]? = some (.int .i64 shapesL[i].1) ∧ cs.toList[i * 3 + 1]? = some (.int .i64 shapesL[i].2.1) ∧ cs.toList[i * 3 + 2]? = some (.string shapesL[i].2.2) := by
    intro i hi
    have hi' : i < 24 := by rw [shapes_len] at hi; exact hi
    have hfi := hf i hi'
    rw [List.getElem?_eq_getElem (by omega), cells_shape] at hfi
    have h2 : xs[i].1 = shapeData shapesL[i] := by
      have h3 := congrArg (·[i]?) hxs
      simp only [List.getElem?_map, List.getElem?_eq_getElem hi, List.getElem?_eq_getElem (show i < xs.length by omega), Option.map_some, Option.some.injEq] at h3
      exact h3.symm
    generalize shapesL[i] = row at h2 ⊢
    obtain ⟨ys, n, _, hy, hl3, hyl, hfs⟩ := DataW.trod_struct Tryz.underlying123 hfi
    generalize hcs : List.take 3 (List.drop (i * 3) cs.toList) = c3 at *
    rw [cells_shape] at hl3
    match ys, hyl, c3, hl3, hcs with
    | [y0, y1, y2], _, [v0, v1, v2], _, hcs =>
      have g0 := hfs 0 _ rfl
      have g1 := hfs 1 _ rfl
      have g2 := hfs 2 _ rfl
      simp [cells_i, cells_s] at g0 g1 g2
      obtain ⟨n0, e0, z0, _⟩ := DataW.trod_int Tryz.underlying3 g0
      obtain ⟨n1, e1, z1, _⟩ := DataW.trod_int Tryz.underlying3 g1
      obtain ⟨s2, e2, z2, _⟩ := DataW.trod_string Tryz.underlying9 g2
      rw [hy] at h2
      subst z0 z1 z2
      simp only [shapeData, List.map_cons, List.map_nil, DataW.agg.injEq, List.cons.injEq, DataW.lit.injEq, Lit.int.injEq, Lit.string.injEq, true_and, and_true] at h2 e0 e1 e2
      obtain ⟨q0, q1, q2⟩ := h2
      subst e0 e1 e2
      obtain ⟨r0, r1, r2⟩ := row
      simp only at q0 q1 q2 ⊢
      subst q0 q1
      have hs2 : s2 = r2 := by cases s2; cases r2; simp_all
      subst hs2
      have at' : ∀ k, k < 3 → cs.toList[i * 3 + k]? = (List.take 3 (List.drop (i * 3) cs.toList))[k]? := by
        intro k hk
        rw [List.getElem?_take, if_pos hk, List.getElem?_drop]
      refine ⟨?_, ?_, ?_⟩
      · have := at' 0 (by omega); rw [hcs] at this; simpa using this
      · have := at' 1 (by omega); rw [hcs] at this; simpa using this
      · have := at' 2 (by omega); rw [hcs] at this; simpa using this
  have hc' : ∀ k, W.cell? ⟨0, k, none⟩ = cs.toList[k]? := fun k => by rw [hcell k]; simp
  refine ⟨?_, fun k hk => ?_⟩
  · have := (key 0 (by rw [shapes_len]; omega)).1
    rw [← hc'] at this
    exact lt_of_cellL this
  · obtain ⟨a, b, c⟩ := key k hk
    exact ⟨(hc' _).trans a, (hc' _).trans b, (hc' _).trans c⟩

theorem shapes_of_laid {W : World} {name : String} {rest : List (String × DataW Unit)} (hg : Tryz.prog.globalNamed name = some 0) (h : laidMet Tryz.prog ((name, Rows.laid_loop_example_headrace_impl_shapes) :: rest) W) : ShapesIn W := by
  obtain ⟨ps, h, _⟩ := h
  exact shapes_of_vars hg h
end Go.Proofs.YtkfhokeoooafnaaGreatDoor

namespace Go.Proofs.YtkfhokeoooafnaaGreatDoor
open Go.RowKit Go.Maps Go.Deep Go.ChangeShapes Go.WideShapes Go.ChangeAt

theorem cells_byteA : Tryz.prog.cellsOf 5 = 1 := by kernel_rfl
theorem choose_byte {n : Nat} {P : Nat → UInt8 → Prop} (h : ∀ i, i < n → ∃ c, P i c) : ∃ bs : List UInt8, bs.length = n ∧ ∀ i (hi : i < bs.length), P i bs[i] := by
  induction n with
  | zero => exact ⟨[], rfl, fun i hi => absurd hi (Nat.not_lt_zero _)⟩
  | succ n ih =>
    obtain ⟨bs, hl, hb⟩ := ih (fun i hi => h i (by omega))
    obtain ⟨c, hc⟩ := h n (by omega)
    refine ⟨bs ++ [c], by simp [hl], fun i hi => ?_⟩
    by_cases e : i < bs.length
    · rw [List.getElem_append_left e]; exact hb i e
    · have : i = n := by simp at hi; omega
      subst this
      rw [List.getElem_append_right (by omega)]
      simpa [hl] using hc
theorem open_byte_cell {H : Type} {enc : TypeId × Value → H} {w : World} {base : Nat} {spare : Nat → Bool} {held : Bool} {c : Value} {fuel : Nat} {y : DataW H × List MemPlace}
    (hf : DataW.trod enc Tryz.prog w base spare held fuel 22 [c] = some y) :
    ∃ a cap, ∃ bs : List UInt8, c = .slice a bs.length cap ∧ bs.length ≤ maxLen ∧ bs.length ≤ cap ∧ ByIn w a bs := by
  rcases open_slice Tryz.underlying22 hf with ⟨hcs, _⟩ | ⟨a', len, cap, m, n, D, Pl, hcs, hb, hl, hm, hmm, _, hx⟩
  · simp at hcs
    subst hcs
    exact ⟨none, 0, [], rfl, by unfold maxLen; simp, Nat.le_refl _, .inl rfl⟩
  · simp at hcs
    subst hcs
    have hlm : len ≤ m := by rw [hmm]; split <;> omega
    have each : ∀ i, i < len → ∃ c : UInt8, w.cell? (a'.add i) = some (.int .u8 (c.toNat : Int)) := by
      intro i hi
      obtain ⟨cs', h1, h2⟩ := hx i (by omega)
      rw [cells_byteA] at h1
      obtain ⟨_, hlen, hcell⟩ := World.cells?_some h1
      match cs', hlen with
      | [v0], _ =>
        obtain ⟨n0, e0, _, hr⟩ := DataW.trod_int Tryz.underlying5 h2
        simp at e0
        subst e0
        have c0 := hcell 0 (by omega)
        have hr' : 0 ≤ n0 ∧ n0 ≤ 255 := by
          have hr2 := Bool.and_eq_true_iff.1 hr
          exact ⟨of_decide_eq_true hr2.1, of_decide_eq_true hr2.2⟩
        obtain ⟨v, rfl⟩ := Int.eq_ofNat_of_zero_le hr'.1
        rw [Nat.mul_one] at c0
        refine ⟨UInt8.ofNat v, ?_⟩
        rw [UInt8.toNat_ofNat', Nat.mod_eq_of_lt (by omega)]
        simpa [Addr.add] using c0
    obtain ⟨bs, hbl, hbs⟩ := choose_byte each
    refine ⟨some a', cap, bs, by rw [hbl], by omega, by omega, ?_⟩
    by_cases h0 : len = 0
    · exact .inl (List.eq_nil_of_length_eq_zero (by omega))
    · have hc0 := hbs 0 (by omega)
      obtain ⟨b, off, spot⟩ := a'
      have hspot : spot = none := by simpa [Addr.add] using World.cell?_spot hc0
      subst hspot
      refine .inr ⟨b, off, rfl, lt_of_cell0 (by simpa [Addr.add] using hc0), ?_⟩
      intro i hi
      have h2 := hbs i hi
      by_cases e : i = 0
      · subst e; simpa [Addr.add] using h2
      · simpa [Addr.add, e] using h2
theorem open_byteS {H : Type} {enc : TypeId × Value → H} {w : World} {base : Nat} {spare : Nat → Bool} {held : Bool} {a : Option Addr} {len cap : Nat} {d : DataW H} {p : List MemPlace}
    (h : DataW.Trod enc Tryz.prog w base spare held 22 (.slice a len cap) d p) :
    ∃ bs : List UInt8, bs.length = len ∧ len ≤ maxLen ∧ len ≤ cap ∧ ByIn w a bs := by
  obtain ⟨fuel, hf⟩ := h
  obtain ⟨a', cap', bs, e, h1, h2, h3⟩ := open_byte_cell (c := .slice a len cap) (by simpa [Value.cells] using hf)
  simp only [Value.slice.injEq] at e
  obtain ⟨rfl, rfl, rfl⟩ := e
  exact ⟨bs, rfl, h1, h2, h3⟩
end Go.Proofs.YtkfhokeoooafnaaGreatDoor
