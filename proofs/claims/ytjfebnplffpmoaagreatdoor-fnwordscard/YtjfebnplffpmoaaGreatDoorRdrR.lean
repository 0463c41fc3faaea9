/-
  TreeRead of the program.
-/
import Derived.Test.YtjfebnplffpmoaaGreatDoorMerged50
set_option linter.unusedVariables false
namespace Go.Proofs.YtjfebnplffpmoaaGreatDoor
open Go.RowKit Go.Maps Go.Deep

def RetRt (r : TrRes) (w : World) (e : Ending) (w' : World) : Prop := (match r with
  | .bad c a => e = .returned (.tuple #[.slice none 0 0, errV c a])
  | .ok x => ∃ v, e = .returned (.tuple #[v, .nilIface]) ∧ Hid (NdRow w.heap.size w' v (fl x.f))) ∧ Below w.heap.size w w'
set_option maxRecDepth 20000 in
set_option maxHeartbeats 12800000 in
theorem readTree_any (t : ByteArray) (w : World) (hs : t.size ≤ 1048576) (hsh : ShapesIn w) :
    Calls Tryz.prog 14 #[.string t] w fun e w' => RetRt (trRes t) w e w' := by
  have hmf : ∀ (fn : Fn) (first cap : Array Value) (w : World), (Instr.makeFunc fn first cap).run Tryz.prog w = .ok (.func fn first cap) w := fun _ _ _ _ => rfl
  have XL := hide ((boxF_new w [.slice none 0 0] 31).up ((Below.refl _ _).alloc (Nat.le_refl _) (.cells #[.nilIface] 40)))
  have XE := hide (boxF_new (w.alloc (.cells #[.slice none 0 0] 31)) [.nilIface] 40)
  have hsz : (w.alloc (.cells #[.slice none 0 0] 31)).heap.size = w.heap.size + 1 := by simp
  have B0 := hide (((Below.refl w.heap.size w).alloc (Nat.le_refl _) (.cells #[.slice none 0 0] 31)).alloc (by rw [hsz]; omega) (.cells #[.nilIface] 40))
  simp only [List.toArray] at XL XE
  rw [hsz] at XE
  have HSH := hide hsh
  clear hsh hsz
  go_enter_defers Tryz.func14, Tryz.ntmps14
  go_wp2_with fail
  have HWS : ((w.alloc (.cells #[.slice none 0 0] 31)).alloc (.cells #[.nilIface] 40)).heap.size = w.heap.size + 1 + 1 := by simp
  generalize (w.alloc (.cells #[.slice none 0 0] 31)).alloc (.cells #[.nilIface] 40) = W at *
  refine (cutWords_any t W hs).mono ?_
  rintro e w2 (⟨c, a, hc0, h1, h2, h3, rfl, b2⟩ | ⟨h2, h3, ra, rn, rc, rfl, R2, b2⟩)
  · have HR := hide (show trRes t = .bad c a from by rw [tr_words (by rw [h2]; exact hc0), h2, h3])
    have YL := hide ((unhide XL).up b2)
    have YE := hide ((unhide XE).up b2)
    have B2 := hide ((unhide B0).trans (b2.mono (unhide B0).size))
    clear hc0 h1 h2 h3 b2 XL XE B0
    obtain ⟨l0, l1⟩ := (unhide YL).oneI
    obtain ⟨e0, e1⟩ := (unhide YE).oneI
    have HRT := hide (fun (V : World) (b : Below w.heap.size w V) => show RetRt (trRes t) w (.returned (.tuple #[.slice none 0 0, errV c a])) V from by rw [unhide HR]; exact ⟨rfl, b⟩)
    unfold errV at HRT ⊢
    go_wp2_with fail
    have YL3 := hide ((unhide YL).far (g' := w.heap.size + 1) 0 (.iface 67 (.agg #[.int .i64 a, .iface 69 (.agg #[.int .i64 c])])) (by omega))
    have YE3 := hide ((unhide YE).set 0 (.iface 67 (.agg #[.int .i64 a, .iface 69 (.agg #[.int .i64 c])])) (by simp))
    have B3 := hide ((unhide B2).setCell (p := ⟨w.heap.size + 1, 0, none⟩) (by exact Nat.le_succ _) (.iface 67 (.agg #[.int .i64 a, .iface 69 (.agg #[.int .i64 c])])))
    simp only [List.set] at YE3
    clear YL YE B2 l0 l1 e0 e1 HR
    generalize w2.setCell ⟨w.heap.size + 1, 0, none⟩ (.iface 67 (.agg #[.int .i64 a, .iface 69 (.agg #[.int .i64 c])])) = W3 at *
    generalize (Value.agg #[.int .i64 a, .iface 69 (.agg #[.int .i64 c])]) = EU at *
    obtain ⟨l0, l1⟩ := (unhide YL3).oneI
    obtain ⟨e0, e1⟩ := (unhide YE3).oneI
    have FIN := hide (fun (V : World) (hv : V = (W3.drew.setCell ⟨w.heap.size, 0, none⟩ (.slice none 0 0)).setCell ⟨w.heap.size + 1, 0, none⟩ (.iface 67 EU) ∨ V = (W3.drew.setCell ⟨w.heap.size + 1, 0, none⟩ (.iface 67 EU)).setCell ⟨w.heap.size, 0, none⟩ (.slice none 0 0)) => show BoxF V w.heap.size [.slice none 0 0] ∧ BoxF V (w.heap.size + 1) [.iface 67 EU] ∧ Below w.heap.size w V from by
      have d1 := (unhide YL3).up (Below.refl _ _).drew
      have d2 := (unhide YE3).up (Below.refl _ _).drew
      have d3 := (unhide B3).drew
      rcases hv with rfl | rfl
      · have q1 := (d1.set 0 (.slice none 0 0) (by simp)).far (g' := w.heap.size + 1) 0 (.iface 67 EU) (by omega)
        have q2 := (d2.far (g' := w.heap.size) 0 (.slice none 0 0) (by omega)).set 0 (.iface 67 EU) (by simp)
        simp only [List.set] at q1 q2
        exact ⟨q1, q2, (d3.setCell (p := ⟨w.heap.size, 0, none⟩) (Nat.le_refl _) _).setCell (p := ⟨w.heap.size + 1, 0, none⟩) (by exact Nat.le_succ _) _⟩
      · have q1 := (d1.far (g' := w.heap.size + 1) 0 (.iface 67 EU) (by omega)).set 0 (.slice none 0 0) (by simp)
        have q2 := (d2.set 0 (.iface 67 EU) (by simp)).far (g' := w.heap.size) 0 (.slice none 0 0) (by omega)
        simp only [List.set] at q1 q2
        exact ⟨q1, q2, (d3.setCell (p := ⟨w.heap.size + 1, 0, none⟩) (by exact Nat.le_succ _) _).setCell (p := ⟨w.heap.size, 0, none⟩) (Nat.le_refl _) _⟩)
    clear YL3 YE3 B3 HSH
    go_region
    all_goals
      go_wp2_with fail
      refine leaves_cons (f := 30) (args := #[.pointer (some ⟨w.heap.size, 0, none⟩), .pointer (some ⟨w.heap.size + 1, 0, none⟩)]) (by simp) (by simp [go_sem]) ?_
      refine (tree_idle _ _ _).mono ?_
      rintro e u' w'' ⟨rfl, rfl, hw⟩
      obtain ⟨v1, v2, v3⟩ := unhide FIN w'' (by first | exact .inl hw | exact .inr hw)
      have HP := hide (unhide HRT _ v3)
      obtain ⟨x0, -⟩ := v1.oneI
      obtain ⟨y0, -⟩ := v2.oneI
      clear v1 v2 v3 FIN HRT l0 l1 e0 e1 hw
      simp [Leaves, settle, results, Tryz.results14, go_sem, x0, y0]
      exact unhide HP
  · obtain ⟨hon, hin, hob⟩ := (unhide R2).words
    subst hon
    have YL := hide ((unhide XL).up b2)
    have YE := hide ((unhide XE).up b2)
    have B2 := hide ((unhide B0).trans (b2.mono (unhide B0).size))
    have HBW := hide (tree_any t)
    have HC := hide h2
    have HIN := hide hin
    have HOB := hide hob
    have HNE := hide (show ∀ g o, ra = some ⟨g, o, none⟩ → g ∉ [w.heap.size + 1] from fun g o e => by have := (unhide R2).ge g (by rw [e]; rfl); simp; omega)
    have HSZ2 := hide (show w.heap.size + 1 < w2.heap.size from (unhide YE).1.1)
    clear h2 h3 b2 XL XE B0 hin R2 hob
    obtain ⟨l0, l1⟩ := (unhide YL).oneI
    obtain ⟨e0, e1⟩ := (unhide YE).oneI
    go_wp2_with fail
    have YL3 := hide ((unhide YL).far (g' := w.heap.size + 1) 0 .nilIface (by omega))
    have YE3 := hide ((unhide YE).set 0 .nilIface (by simp))
    have B3 := hide ((unhide B2).setCell (p := ⟨w.heap.size + 1, 0, none⟩) (by exact Nat.le_succ _) .nilIface)
    have T3 := hide ((Turn.refl [w.heap.size + 1] w2).setCell (g := w.heap.size + 1) (by simp) 0 .nilIface)
    simp only [List.set] at YE3
    have HS3 : (w2.setCell ⟨w.heap.size + 1, 0, none⟩ .nilIface).heap.size = w2.heap.size := by simp
    clear YL YE B2 l0 l1 e0 e1
    rw [← HS3] at HSZ2 ⊢
    generalize w2.setCell ⟨w.heap.size + 1, 0, none⟩ .nilIface = W3 at *
    have hb4 := (Below.refl W3.heap.size W3).alloc (Nat.le_refl _) (.cells #[.slice ra (bwWords t).length rc, .int .i64 0, .int .i64 (t.size : Int)] 78)
    have X4 := boxF_new W3 [.slice ra (bwWords t).length rc, .int .i64 0, .int .i64 (t.size : Int)] 78
    simp only [List.toArray] at X4
    have YL4 := hide ((unhide YL3).up hb4)
    have YE4 := hide ((unhide YE3).up hb4)
    have B4 := hide ((unhide B3).trans (hb4.mono (unhide B3).size))
    have S4 := hide ((unhide HSH).below (unhide B4) (Nat.le_refl _))
    have P4 := hide (show PrK (bwWords t) t.size (W3.alloc (.cells #[.slice ra (bwWords t).length rc, .int .i64 0, .int .i64 (t.size : Int)] 78)) W3.heap.size ra rc 0 from by
      have hl := (bw_words t).1
      have hgs := (unhide HSH).1
      refine ⟨⟨X4, ?_, Nat.zero_le _, by omega, ?_⟩, unhide S4, by have := unhide HSZ2; omega⟩
      · rcases unhide HIN with h0 | ⟨g, o, e, hg, hcc⟩
        · exact .inl h0
        · exact .inr ⟨g, o, e, Nat.lt_of_lt_of_le hg (Nat.le_trans (Nat.le_of_eq HS3.symm) hb4.size), (hcc.turn (unhide T3) hg (unhide HNE g o e)).turn (Turn.of_below (S := []) hb4) (by rw [HS3]; exact hg) (by simp)⟩
      · intro g o e
        have := unhide HOB g o e
        omega)
    generalize W3.alloc (.cells #[.slice ra (bwWords t).length rc, .int .i64 0, .int .i64 (t.size : Int)] 78) = W4 at *
    have HZ4 := hide (show W3.heap.size ≤ W4.heap.size from hb4.size)
    clear X4 hb4 YL3 YE3 B3 T3 HSH HIN HOB HNE S4
    refine (unhide HBW _ W3.heap.size ra rc (unhide HC) (unhide P4)).mono ?_
    intro e w5 hr
    cases hT : trRes t with
    | bad c a =>
      rw [hT] at hr
      obtain ⟨rfl, T5⟩ := hr
      have YL5 := (unhide YL4).turn (unhide T5) (by have := unhide HSZ2; simp; omega)
      have YE5 := (unhide YE4).turn (unhide T5) (by have := unhide HSZ2; simp; omega)
      have B5 := (unhide B4).trans ((unhide T5).below (unhide B4).size (by have := unhide HSZ2; simp; omega))
      refine leaves_cons (f := 30) (args := #[.pointer (some ⟨w.heap.size, 0, none⟩), .pointer (some ⟨w.heap.size + 1, 0, none⟩)]) (by simp) (by simp [go_sem]) ?_
      refine (tree_caught w.heap.size (w.heap.size + 1) c a _ _ w5 YL5 YE5 (by omega)).mono ?_
      rintro e u' w'' ⟨rfl, rfl, PP⟩
      obtain ⟨pa, pb, pc⟩ := unhide PP
      have HP := hide (show RetRt (trRes t) w (.returned (.tuple #[.slice none 0 0, errV c a])) w'' from by
        rw [hT]
        exact ⟨rfl, B5.trans (pc.below B5.size (by simp))⟩)
      obtain ⟨x0, -⟩ := pa.oneI
      obtain ⟨y0, -⟩ := pb.oneI
      clear pa pb pc PP B5 YL5 YE5
      unfold errV at y0 HP ⊢
      simp [Leaves, settle, results, Tryz.results14, go_sem, x0, y0]
      exact unhide HP
    | ok x =>
      rw [hT] at hr
      obtain ⟨v, rfl, R5, T5⟩ := hr
      have YL5 := hide ((unhide YL4).turn (unhide T5) (by have := unhide HSZ2; simp; omega))
      have YE5 := hide ((unhide YE4).turn (unhide T5) (by have := unhide HSZ2; simp; omega))
      have B5 := hide ((unhide B4).trans ((unhide T5).below (unhide B4).size (by have := unhide HSZ2; simp; omega)))
      obtain ⟨a5, c5, e5⟩ := (unhide R5).slice
      subst e5
      generalize (fl x.f).length = m5 at *
      have HGE := hide (show ∀ g, (Value.slice a5 m5 c5).ownBlock = some g → w.heap.size + 1 < g from fun g hg => by
        have h1 := (unhide R5).ge g hg
        have h2 := unhide HSZ2
        have h3 := unhide HZ4
        omega)
      have HW4 := hide (show w.heap.size ≤ W4.heap.size from (unhide B4).size)
      clear T5 YL4 YE4 B4 P4 HBW HC HSZ2
      obtain ⟨l0, l1⟩ := (unhide YL5).oneI
      obtain ⟨e0, e1⟩ := (unhide YE5).oneI
      go_wp2_with fail
      have q1 := ((unhide YL5).set 0 (.slice a5 m5 c5) (by simp)).far (g' := w.heap.size + 1) 0 .nilIface (by omega)
      have q2 := ((unhide YE5).far (g' := w.heap.size) 0 (.slice a5 m5 c5) (by omega)).set 0 .nilIface (by simp)
      simp only [List.set] at q1 q2
      have q3 := ((unhide B5).setCell (p := ⟨w.heap.size, 0, none⟩) (Nat.le_refl _) (.slice a5 m5 c5)).setCell (p := ⟨w.heap.size + 1, 0, none⟩) (by exact Nat.le_succ _) .nilIface
      have t6 := ((Turn.refl [w.heap.size, w.heap.size + 1] w5).setCell (g := w.heap.size) (by simp) 0 (.slice a5 m5 c5)).setCell (g := w.heap.size + 1) (by simp) 0 .nilIface
      have R6 := ((unhide R5).mono (unhide HW4)).keep (fun g hg => t6.block g ((unhide R5).lt g hg) (by have := unhide HGE g hg; simp; omega))
      have HP := hide (show RetRt (trRes t) w (.returned (.tuple #[.slice a5 m5 c5, .nilIface])) _ from by
        rw [hT]
        exact ⟨⟨_, rfl, hide R6⟩, q3⟩)
      obtain ⟨x0, -⟩ := q1.oneI
      obtain ⟨y0, -⟩ := q2.oneI
      clear q1 q2 q3 t6 R6 R5 HGE YL5 YE5 B5 l0 l1 e0 e1 hT
      generalize (w5.setCell ⟨w.heap.size, 0, none⟩ (.slice a5 m5 c5)).setCell ⟨w.heap.size + 1, 0, none⟩ .nilIface = V at *
      refine leaves_cons (f := 30) (args := #[.pointer (some ⟨w.heap.size, 0, none⟩), .pointer (some ⟨w.heap.size + 1, 0, none⟩)]) (by simp) (by simp [go_sem]) ?_
      refine (tree_idle _ _ _).mono ?_
      rintro e u' w'' ⟨rfl, rfl, rfl⟩
      simp [Leaves, settle, results, Tryz.results14, go_sem, x0, y0]
      exact unhide HP
set_option maxHeartbeats 6400000 in
theorem implTree_any (t : ByteArray) (w : World) (hs : t.size ≤ 1048576) (hsh : ShapesIn w) (hg : ErrG w) :
    Calls Tryz.prog 7 #[.string t] w fun e w' => RetTr (trRes t) w e w' := by
  have X0 := hide (boxF_new w [.int .i64 0, .int .i64 0] 26)
  have A0 := hide ((Below.refl _ w).alloc (Nat.le_refl _) (.cells #[.int .i64 0, .int .i64 0] 26))
  simp only [List.toArray] at X0
  have HG := hide hg
  have HSH := hide (hsh.below (unhide A0) (Nat.le_refl _))
  clear hsh hg
  go_enter Tryz.func7, Tryz.ntmps7
  go_wp2_with fail
  generalize w.alloc (.cells #[.int .i64 0, .int .i64 0] 26) = W at *
  refine (readTree_any t W hs (unhide HSH)).mono ?_
  rintro e w2 ⟨hr, b2⟩
  have X2 := hide ((unhide X0).up b2)
  have HWW := hide (unhide A0).size
  have B2 := hide ((unhide A0).trans (b2.mono (unhide A0).size))
  have HLT := hide (unhide X0).1.1
  cases hT : trRes t with
  | bad c a =>
    rw [hT] at hr
    obtain rfl := hr
    have HRT := hide (fun (V : World) (b : Below w.heap.size w V) => show RetTr (trRes t) w (.returned (.tuple #[.slice none 0 0, .agg #[.int .i64 c, .int .i64 a]])) V from by
      rw [hT]; exact ⟨none, 0, 0, rfl, hide (NdRow.nil _ _), b⟩)
    have HF := hide (faultOf_any c a w2 ((unhide HG).below (unhide B2) (Nat.le_refl _)))
    clear hT b2 HG X0 A0 HSH
    unfold errV at HF ⊢
    go_wp2_with fail
    refine (unhide HF).mono ?_
    rintro e w3 ⟨rfl, b3⟩
    have B3 := hide ((unhide B2).trans (b3.mono (unhide B2).size))
    have X3 := hide ((unhide X2).up b3)
    clear b3 HF X2 B2
    obtain ⟨⟨x0, x1⟩, f0, f1⟩ := (unhide X3).duoI
    go_wp2_with fail
    refine bodyPost_ret (v := .tuple #[.slice none 0 0, .agg #[.int .i64 c, .int .i64 a]]) (by simp [results, Tryz.results7, go_sem, x0, x1]) rfl ?_
    refine unhide HRT _ ?_
    (iterate 2 (refine Below.setCell ?_ (by exact Nat.le_refl _) _))
    exact unhide B3
  | ok x =>
    rw [hT] at hr
    obtain ⟨v, rfl, R2⟩ := hr
    obtain ⟨a5, c5, e5⟩ := (unhide R2).slice
    subst e5
    have HRT := hide (fun (V : World) (tV : Turn [w.heap.size] w2 V) => show RetTr (trRes t) w (.returned (.tuple #[.slice a5 (fl x.f).length c5, .agg #[.int .i64 0, .int .i64 0]])) V from by
      rw [hT]
      refine ⟨a5, (fl x.f).length, c5, rfl, hide ((((unhide R2).mono (B' := W.heap.size) (Nat.le_refl _)).keep (fun g hg => tV.block g ((unhide R2).lt g hg) (by have := (unhide R2).ge g hg; have := unhide HLT; simp; omega))).mono (unhide HWW)), (unhide B2).trans (tV.below (unhide B2).size (by simp))⟩)
    generalize (fl x.f).length = m5 at *
    clear hT b2 HG X0 A0 HSH R2 B2
    obtain ⟨⟨x0, x1⟩, f0, f1⟩ := (unhide X2).duoI
    go_wp2_with fail
    refine bodyPost_ret (v := .tuple #[.slice a5 m5 c5, .agg #[.int .i64 0, .int .i64 0]]) (by simp [results, Tryz.results7, go_sem, x0, x1]) rfl ?_
    refine unhide HRT _ ?_
    (iterate 2 (refine Turn.setCell ?_ (by simp) _ _))
    exact Turn.refl _ _
end Go.Proofs.YtjfebnplffpmoaaGreatDoor
