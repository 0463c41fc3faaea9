/-
  The specification reads a tree. (Made by wip/mkreadt.py.)
-/
import Derived.Test.YtkfhokeoooafnaaGreatDoorMerged49
import Derived.Test.YtkfhokeoooafnaaGreatDoorMerged25
import Derived.Deep.RegionHeld3
set_option linter.unusedVariables false
namespace Go.Proofs.YtkfhokeoooafnaaGreatDoor
open Go.RowKit Go.Maps Go.Deep

def RetTr (r : TrRes) (w : World) (e : Ending) (w' : World) : Prop := ∃ a n c, e = .returned (.tuple #[.slice a n c, .agg #[.int .i64 r.code, .int .i64 r.at']]) ∧ Hid (NdRow w.heap.size w' (.slice a n c) r.nodes) ∧ Below w.heap.size w w'
theorem WdRow.words {B : Nat} {w : World} {a : Option Addr} {n c : Nat} {ws : List WordV} (h : WdRow B w (.slice a n c) ws) : n = ws.length ∧ WordIn w a ws ∧ ∀ g o, a = some ⟨g, o, none⟩ → g < w.heap.size := by
  obtain ⟨a', c', e, hin⟩ := h.rd
  obtain ⟨a2, c2, e2⟩ := h.slice
  injection e with e1 e3 e4
  injection e2 with q1 q2 q3
  refine ⟨q2, by rw [e1]; exact hin, fun g o hg => h.lt g (by rw [hg]; rfl)⟩
/-- the reader's box, new -/
theorem prs_new {w : World} {a : Option Addr} {ws : List WordV} {c : Nat} (h : WordIn w a ws) (hl : ws.length ≤ 400000) (hb : ∀ g o, a = some ⟨g, o, none⟩ → g < w.heap.size) (T : TypeId) : PrS ws (w.alloc (.cells #[.slice a ws.length c, .int .i64 0, .bool false] T)) w.heap.size a c 0 false := by
  have t : Turn [] w (w.alloc (.cells #[.slice a ws.length c, .int .i64 0, .bool false] T)) := Turn.of_alloc [] w _
  refine ⟨boxF_new w [.slice a ws.length c, .int .i64 0, .bool false] T, ?_, Nat.zero_le _, hl, fun g o e => Nat.ne_of_lt (hb g o e)⟩
  rcases h with h0 | ⟨g, o, e, hg, hc⟩
  · exact .inl h0
  · exact .inr ⟨g, o, e, Nat.lt_of_lt_of_le hg t.size, hc.turn t hg (by simp)⟩
theorem NdRow.turnW {B : Nat} {w w' : World} {v : Value} {ns : List NodeV} {p : Nat} (h : NdRow B w v ns) (t : Turn [p] w w') (hp : p < B) : NdRow B w' v ns := h.turn t hp
theorem nd_at {B : Nat} {w : World} {a : Option Addr} {n c : Nat} {ns : List NodeV} (h : NdRow B w (.slice a n c) ns) (hne : ns ≠ []) : ∃ g o, a = some ⟨g, o, none⟩ ∧ NodesAt w g o ns := by
  obtain ⟨a', c', e, hin⟩ := h.rd
  injection e with e1 e2 e3
  subst e1
  rcases hin with h0 | ⟨g, o, ha, _, hc⟩
  · exact absurd h0 hne
  · exact ⟨g, o, ha, hc⟩
theorem bad_of {ws : List WordV} {f k k2 : Nat} {l : List NodeV} {b : Bool} (h : parse ws f .expr 0 = .bad k) (p : PRin false (parse ws f .expr 0) 0 l k2 b) : b = true ∧ k2 = k := by
  rw [h] at p
  exact p.2
theorem ok_of {ws : List WordV} {f k k2 : Nat} {x : TreeV} {l : List NodeV} {b : Bool} (h : parse ws f .expr 0 = .ok x k) (p : PRin false (parse ws f .expr 0) 0 l k2 b) : b = false ∧ k2 = k ∧ l = fl x.f := by
  rw [h] at p
  exact p.2
theorem word_in_up {w w' : World} {a : Option Addr} {ws : List WordV} (h : WordIn w a ws) (b : Below w.heap.size w w') : WordIn w' a ws := by
  rcases h with h0 | ⟨g, o, e, hg, hc⟩
  · exact .inl h0
  · exact .inr ⟨g, o, e, Nat.lt_of_lt_of_le hg b.size, hc.turn (Turn.of_below (S := []) b) hg (by simp)⟩
theorem nd_slice {B : Nat} {w : World} {v : Value} {l : List NodeV} (h : NdRow B w v l) : ∃ a c, v = .slice a l.length c := h.slice
set_option maxHeartbeats 6400000 in
set_option maxRecDepth 20000 in
theorem specTree_any (t : ByteArray) (w : World) (hs : t.size ≤ 1048576) :
    Calls Tryz.prog 12 #[.string t] w fun e w' => RetTr (trRes t) w e w' := by
  have A0 := hide ((Below.refl _ w).alloc (Nat.le_refl _) (.cells #[.int .i64 0, .int .i64 0] 27))
  have X0 := hide (boxF_new w [.int .i64 0, .int .i64 0] 27)
  simp only [List.toArray] at X0
  have HW0 : (w.alloc (.cells #[.int .i64 0, .int .i64 0] 27)).heap.size = w.heap.size + 1 := by simp
  have HBW := hide (fun (W : World) => specWords_any t W hs)
  obtain ⟨hlen, hwis⟩ := bw_words t
  have HPE := hide ((said_all (bwWords t) hwis (fuelT (bwWords t))).1)
  have HFU := hide (fuel_ok (bwWords t))
  by_cases hc : bwCode t = 0
  rotate_left
  · have c1 : (bwCode t == 0) = false := by rw [beq_eq_false_iff_ne]; exact hc
    have c2 : (bwCode t != 0) = true := by rw [bne, c1]; rfl
    have FIN := hide (fun (V : World) (bV : Below w.heap.size w V) => show RetTr (trRes t) w (.returned (.tuple #[.slice none 0 0, .agg #[.int .i64 (bwCode t), .int .i64 (bwAt t)]])) V from by rw [tr_words hc]; exact ⟨none, 0, 0, rfl, hide (NdRow.nil _ _), bV⟩)
    clear hc HPE HFU
    go_enter Tryz.func12, Tryz.ntmps12
    go_wp2_with (first
      | (go_at_call 25; refine (unhide HBW _).mono ?_; rintro e w1 ⟨oa, on, oc, rfl, r1, d1⟩; obtain ⟨hon, hin, hob⟩ := (unhide r1).words; subst hon; have B1 := hide ((unhide A0).trans (d1.mono (unhide A0).size)); have X1 := hide ((unhide X0).up d1); have HGE := hide (show w.heap.size + 1 ≤ w1.heap.size from (by have := d1.size; omega)); have R1 := hide ((unhide r1).mono (B' := w.heap.size + 1) (by simp)); have HIN := hide hin; have HOB := hide hob; clear r1 d1 HBW A0 X0 hin hob)
      | fail)
    have X2 := hide ((unhide X1).up ((Below.refl w1.heap.size w1).alloc (Nat.le_refl _) (.cells #[.int .i64 (bwCode t), .int .i64 (bwAt t)] 27)))
    have B2 := hide ((unhide B1).alloc (unhide B1).size (.cells #[.int .i64 (bwCode t), .int .i64 (bwAt t)] 27))
    have hne : ¬ w1.heap.size = w.heap.size := by have := unhide HGE; omega
    have hne2 : ¬ w.heap.size = w1.heap.size := by omega
    generalize hW2 : w1.alloc (.cells #[.int .i64 (bwCode t), .int .i64 (bwAt t)] 27) = W2 at *
    have y0 : W2.cell? ⟨w1.heap.size, 0, none⟩ = some (.int .i64 (bwCode t)) := by rw [← hW2]; exact (boxF_new w1 [.int .i64 (bwCode t), .int .i64 (bwAt t)] 27).duoW.1.1
    have y1 : W2.cell? ⟨w1.heap.size, 1, none⟩ = some (.int .i64 (bwAt t)) := by rw [← hW2]; exact (boxF_new w1 [.int .i64 (bwCode t), .int .i64 (bwAt t)] 27).duoW.1.2
    clear hW2
    obtain ⟨⟨x0, x1⟩, f0, f1⟩ := (unhide X2).duoW
    go_region
    all_goals
      go_wp2_with fail
      refine bodyPost_ret (v := .tuple #[.slice none 0 0, .agg #[.int .i64 (bwCode t), .int .i64 (bwAt t)]]) (by simp [results, Tryz.results12, go_sem, x0, x1]) rfl ?_
      refine unhide FIN _ ?_
      exact (unhide B2).trans (((Turn.refl [w.heap.size] W2).setCell (g := w.heap.size) (by simp) 0 _).setCell (g := w.heap.size) (by simp) 1 _ |>.trans (Turn.of_below (Below.refl _ _).drew) |>.below (unhide B2).size (by simp))
  have c1 : (bwCode t == 0) = true := by rw [beq_iff_eq]; exact hc
  have c2 : (bwCode t != 0) = false := by rw [bne, c1]; rfl
  have HTR := hide (tr_tree t)
  have HGD := hide (tr_good t)
  cases hR : parse (bwWords t) (fuelT (bwWords t)) .expr 0 with
  | out => have := unhide HGD; rw [hR] at this; exact this.elim
  | bad k =>
    have HPR := hide hR
    clear HTR HGD
    by_cases hk : k < (bwWords t).length
    · have HLT := hide hk
      have hk1 : (k : Int) < ((bwWords t).length : Int) := by omega
      have HAT := hide (show atW (bwWords t) t.size k = (bwWords t)[k].a2 from by unfold atW; rw [List.getElem?_eq_getElem hk]; rfl)
      have FIN := hide (fun (V : World) (bV : Below w.heap.size w V) => show RetTr (trRes t) w (.returned (.tuple #[.slice none 0 0, .agg #[.int .i64 5, .int .i64 (bwWords t)[k].a2]])) V from by rw [tr_bad hc hR, ← unhide HAT]; exact ⟨none, 0, 0, rfl, hide (NdRow.nil _ _), bV⟩)
      clear hc hR HAT
      go_enter Tryz.func12, Tryz.ntmps12
      go_wp2_with (first
        | (go_at_call 25; refine (unhide HBW _).mono ?_; rintro e w1 ⟨oa, on, oc, rfl, r1, d1⟩; obtain ⟨hon, hin, hob⟩ := (unhide r1).words; subst hon; have B1 := hide ((unhide A0).trans (d1.mono (unhide A0).size)); have X1 := hide ((unhide X0).up d1); have HGE := hide (show w.heap.size + 1 ≤ w1.heap.size from (by have := d1.size; omega)); have R1 := hide ((unhide r1).mono (B' := w.heap.size + 1) (by simp)); have HIN := hide hin; have HOB := hide hob; clear r1 d1 HBW A0 X0 hin hob)
        | (go_at_call 26; have _t := HOB; have HZ1 := (show (w1.alloc (.cells #[.int .i64 (bwCode t), .int .i64 (bwAt t)] 27)).heap.size = w1.heap.size + 1 from (by simp)); have dA := (Below.refl w1.heap.size w1).alloc (Nat.le_refl _) (.cells #[.int .i64 (bwCode t), .int .i64 (bwAt t)] 27); have PN := hide (prs_new (c := oc) ((word_in_up (unhide HIN) dA)) (Nat.le_trans hlen (by omega)) (fun g o e => Nat.lt_of_lt_of_le (unhide HOB g o e) dA.size) 59); rw [HZ1] at PN; have dB := dA.trans (((Below.refl _ (w1.alloc (.cells #[.int .i64 (bwCode t), .int .i64 (bwAt t)] 27))).alloc (Nat.le_refl _) (.cells #[.slice oa (bwWords t).length oc, .int .i64 0, .bool false] 59)).mono dA.size); have X2 := hide ((unhide X1).up dB); have B2 := hide ((unhide B1).trans (dB.mono (unhide B1).size)); have HZ2 := hide (show w1.heap.size + 1 + 1 ≤ ((w1.alloc (.cells #[.int .i64 (bwCode t), .int .i64 (bwAt t)] 27)).alloc (.cells #[.slice oa (bwWords t).length oc, .int .i64 0, .bool false] 59)).heap.size from (by simp)); refine (unhide HPE _ (w1.heap.size + 1) oa oc 0 false (unhide PN) (unhide HFU)).mono ?_; rintro e w2 ⟨v2, l2, k2, b2, rfl, r2, s2, t2, p2⟩; have X3 := hide ((unhide X2).turn (unhide t2) (by have := unhide HGE; simp; omega)); have B3 := hide ((unhide B2).trans ((unhide t2).below (unhide B2).size (by have := unhide HGE; simp; omega))); have R3 := hide ((unhide r2).mono (B' := w.heap.size + 1) (by have := unhide HGE; have := unhide HZ2; omega)); have S3 := s2; have P3 := p2; clear PN X1 X2 B1 B2 r2 s2 t2 p2 HIN R1 HOB HPE HFU dA dB HZ1 HZ2; have hbk := bad_of (unhide HPR) (unhide P3); obtain ⟨hb2, hk2⟩ := hbk; subst hb2; subst k2; obtain ⟨⟨z0, z1, z2⟩, -⟩ := (unhide S3).box.triR; obtain ⟨⟨x0, x1⟩, f0, f1⟩ := (unhide X3).duoW; obtain ⟨g, o, hoa, hg, q0, q1, q2⟩ := (unhide S3).cell (unhide HLT); subst hoa)
        | fail)
      refine bodyPost_ret (v := .tuple #[.slice none 0 0, .agg #[.int .i64 5, .int .i64 (bwWords t)[k].a2]]) (by simp [results, Tryz.results12, go_sem, x0, x1]; rfl) rfl ?_
      refine unhide FIN _ ?_
      first
        | exact (unhide B3).trans (((Turn.refl [w.heap.size] w2).setCell (g := w.heap.size) (by simp) 0 _).setCell (g := w.heap.size) (by simp) 1 _ |>.below (unhide B3).size (by simp))
        | exact (unhide B3).trans (((Turn.refl [w.heap.size] w2).setCell (g := w.heap.size) (by simp) 0 _).setCell (g := w.heap.size) (by simp) 1 _ |>.trans (Turn.of_below (Below.refl _ _).drew) |>.below (unhide B3).size (by simp))
    · have HAT := hide (show atW (bwWords t) t.size k = (t.size : Int) from by unfold atW; rw [List.getElem?_eq_none (by omega)])
      have hk1 : ¬ (k : Int) < ((bwWords t).length : Int) := by omega
      have FIN := hide (fun (V : World) (bV : Below w.heap.size w V) => show RetTr (trRes t) w (.returned (.tuple #[.slice none 0 0, .agg #[.int .i64 5, .int .i64 (t.size : Int)]])) V from by rw [tr_bad hc hR, ← unhide HAT]; exact ⟨none, 0, 0, rfl, hide (NdRow.nil _ _), bV⟩)
      clear hc hR HAT
      go_enter Tryz.func12, Tryz.ntmps12
      go_wp2_with (first
        | (go_at_call 25; refine (unhide HBW _).mono ?_; rintro e w1 ⟨oa, on, oc, rfl, r1, d1⟩; obtain ⟨hon, hin, hob⟩ := (unhide r1).words; subst hon; have B1 := hide ((unhide A0).trans (d1.mono (unhide A0).size)); have X1 := hide ((unhide X0).up d1); have HGE := hide (show w.heap.size + 1 ≤ w1.heap.size from (by have := d1.size; omega)); have R1 := hide ((unhide r1).mono (B' := w.heap.size + 1) (by simp)); have HIN := hide hin; have HOB := hide hob; clear r1 d1 HBW A0 X0 hin hob)
        | (go_at_call 26; have _t := HOB; have HZ1 := (show (w1.alloc (.cells #[.int .i64 (bwCode t), .int .i64 (bwAt t)] 27)).heap.size = w1.heap.size + 1 from (by simp)); have dA := (Below.refl w1.heap.size w1).alloc (Nat.le_refl _) (.cells #[.int .i64 (bwCode t), .int .i64 (bwAt t)] 27); have PN := hide (prs_new (c := oc) ((word_in_up (unhide HIN) dA)) (Nat.le_trans hlen (by omega)) (fun g o e => Nat.lt_of_lt_of_le (unhide HOB g o e) dA.size) 59); rw [HZ1] at PN; have dB := dA.trans (((Below.refl _ (w1.alloc (.cells #[.int .i64 (bwCode t), .int .i64 (bwAt t)] 27))).alloc (Nat.le_refl _) (.cells #[.slice oa (bwWords t).length oc, .int .i64 0, .bool false] 59)).mono dA.size); have X2 := hide ((unhide X1).up dB); have B2 := hide ((unhide B1).trans (dB.mono (unhide B1).size)); have HZ2 := hide (show w1.heap.size + 1 + 1 ≤ ((w1.alloc (.cells #[.int .i64 (bwCode t), .int .i64 (bwAt t)] 27)).alloc (.cells #[.slice oa (bwWords t).length oc, .int .i64 0, .bool false] 59)).heap.size from (by simp)); refine (unhide HPE _ (w1.heap.size + 1) oa oc 0 false (unhide PN) (unhide HFU)).mono ?_; rintro e w2 ⟨v2, l2, k2, b2, rfl, r2, s2, t2, p2⟩; have X3 := hide ((unhide X2).turn (unhide t2) (by have := unhide HGE; simp; omega)); have B3 := hide ((unhide B2).trans ((unhide t2).below (unhide B2).size (by have := unhide HGE; simp; omega))); have R3 := hide ((unhide r2).mono (B' := w.heap.size + 1) (by have := unhide HGE; have := unhide HZ2; omega)); have S3 := s2; have P3 := p2; clear PN X1 X2 B1 B2 r2 s2 t2 p2 HIN R1 HOB HPE HFU dA dB HZ1 HZ2; have hbk := bad_of (unhide HPR) (unhide P3); obtain ⟨hb2, hk2⟩ := hbk; subst hb2; subst k2; obtain ⟨⟨z0, z1, z2⟩, -⟩ := (unhide S3).box.triR; obtain ⟨⟨x0, x1⟩, f0, f1⟩ := (unhide X3).duoW)
        | fail)
      refine bodyPost_ret (v := .tuple #[.slice none 0 0, .agg #[.int .i64 5, .int .i64 (t.size : Int)]]) (by simp [results, Tryz.results12, go_sem, x0, x1]) rfl ?_
      refine unhide FIN _ ?_
      first
        | exact (unhide B3).trans (((Turn.refl [w.heap.size] w2).setCell (g := w.heap.size) (by simp) 0 _).setCell (g := w.heap.size) (by simp) 1 _ |>.below (unhide B3).size (by simp))
        | exact (unhide B3).trans (((Turn.refl [w.heap.size] w2).setCell (g := w.heap.size) (by simp) 0 _).setCell (g := w.heap.size) (by simp) 1 _ |>.trans (Turn.of_below (Below.refl _ _).drew) |>.below (unhide B3).size (by simp))
  | ok x k =>
    have HPR := hide hR
    have HOK := hide (show OkT x from by have := unhide HTR; rw [hR] at this; exact this.1)
    clear HTR HGD
    by_cases hk : k < (bwWords t).length
    · have HLT := hide hk
      have hk1 : (k : Int) < ((bwWords t).length : Int) := by omega
      have HAT := hide (show atW (bwWords t) t.size k = (bwWords t)[k].a2 from by unfold atW; rw [List.getElem?_eq_getElem hk]; rfl)
      have FIN := hide (fun (V : World) (bV : Below w.heap.size w V) => show RetTr (trRes t) w (.returned (.tuple #[.slice none 0 0, .agg #[.int .i64 5, .int .i64 (bwWords t)[k].a2]])) V from by rw [tr_more hc hR hk, ← unhide HAT]; exact ⟨none, 0, 0, rfl, hide (NdRow.nil _ _), bV⟩)
      clear hc hR HAT
      go_enter Tryz.func12, Tryz.ntmps12
      go_wp2_with (first
        | (go_at_call 25; refine (unhide HBW _).mono ?_; rintro e w1 ⟨oa, on, oc, rfl, r1, d1⟩; obtain ⟨hon, hin, hob⟩ := (unhide r1).words; subst hon; have B1 := hide ((unhide A0).trans (d1.mono (unhide A0).size)); have X1 := hide ((unhide X0).up d1); have HGE := hide (show w.heap.size + 1 ≤ w1.heap.size from (by have := d1.size; omega)); have R1 := hide ((unhide r1).mono (B' := w.heap.size + 1) (by simp)); have HIN := hide hin; have HOB := hide hob; clear r1 d1 HBW A0 X0 hin hob)
        | (go_at_call 26; have _t := HOB; have HZ1 := (show (w1.alloc (.cells #[.int .i64 (bwCode t), .int .i64 (bwAt t)] 27)).heap.size = w1.heap.size + 1 from (by simp)); have dA := (Below.refl w1.heap.size w1).alloc (Nat.le_refl _) (.cells #[.int .i64 (bwCode t), .int .i64 (bwAt t)] 27); have PN := hide (prs_new (c := oc) ((word_in_up (unhide HIN) dA)) (Nat.le_trans hlen (by omega)) (fun g o e => Nat.lt_of_lt_of_le (unhide HOB g o e) dA.size) 59); rw [HZ1] at PN; have dB := dA.trans (((Below.refl _ (w1.alloc (.cells #[.int .i64 (bwCode t), .int .i64 (bwAt t)] 27))).alloc (Nat.le_refl _) (.cells #[.slice oa (bwWords t).length oc, .int .i64 0, .bool false] 59)).mono dA.size); have X2 := hide ((unhide X1).up dB); have B2 := hide ((unhide B1).trans (dB.mono (unhide B1).size)); have HZ2 := hide (show w1.heap.size + 1 + 1 ≤ ((w1.alloc (.cells #[.int .i64 (bwCode t), .int .i64 (bwAt t)] 27)).alloc (.cells #[.slice oa (bwWords t).length oc, .int .i64 0, .bool false] 59)).heap.size from (by simp)); refine (unhide HPE _ (w1.heap.size + 1) oa oc 0 false (unhide PN) (unhide HFU)).mono ?_; rintro e w2 ⟨v2, l2, k2, b2, rfl, r2, s2, t2, p2⟩; have X3 := hide ((unhide X2).turn (unhide t2) (by have := unhide HGE; simp; omega)); have B3 := hide ((unhide B2).trans ((unhide t2).below (unhide B2).size (by have := unhide HGE; simp; omega))); have R3 := hide ((unhide r2).mono (B' := w.heap.size + 1) (by have := unhide HGE; have := unhide HZ2; omega)); have S3 := s2; have P3 := p2; clear PN X1 X2 B1 B2 r2 s2 t2 p2 HIN R1 HOB HPE HFU dA dB HZ1 HZ2; have hbk := ok_of (unhide HPR) (unhide P3); obtain ⟨hb2, hk2, hl2⟩ := hbk; subst hb2; subst k2; subst hl2; obtain ⟨⟨z0, z1, z2⟩, -⟩ := (unhide S3).box.triR; obtain ⟨⟨x0, x1⟩, f0, f1⟩ := (unhide X3).duoW; obtain ⟨va, vc, hv⟩ := nd_slice (unhide R3); subst hv; obtain ⟨g, o, hoa, hg, q0, q1, q2⟩ := (unhide S3).cell (unhide HLT); subst hoa)
        | fail)
      refine bodyPost_ret (v := .tuple #[.slice none 0 0, .agg #[.int .i64 5, .int .i64 (bwWords t)[k].a2]]) (by simp [results, Tryz.results12, go_sem, x0, x1]; rfl) rfl ?_
      refine unhide FIN _ ?_
      first
        | exact (unhide B3).trans (((Turn.refl [w.heap.size] w2).setCell (g := w.heap.size) (by simp) 0 _).setCell (g := w.heap.size) (by simp) 1 _ |>.below (unhide B3).size (by simp))
        | exact (unhide B3).trans (((Turn.refl [w.heap.size] w2).setCell (g := w.heap.size) (by simp) 0 _).setCell (g := w.heap.size) (by simp) 1 _ |>.trans (Turn.of_below (Below.refl _ _).drew) |>.below (unhide B3).size (by simp))
    have hk1 : ¬ (k : Int) < ((bwWords t).length : Int) := by omega
    by_cases hsz : 400 < sizeT x
    · have hs1 : (400 : Int) < ((fl x.f).length : Int) := by simp only [sizeT] at hsz; omega
      have FIN := hide (fun (V : World) (bV : Below w.heap.size w V) => show RetTr (trRes t) w (.returned (.tuple #[.slice none 0 0, .agg #[.int .i64 6, .int .i64 0]])) V from by rw [tr_many hc hR hk hsz]; exact ⟨none, 0, 0, rfl, hide (NdRow.nil _ _), bV⟩)
      clear hc hR
      go_enter Tryz.func12, Tryz.ntmps12
      go_wp2_with (first
        | (go_at_call 25; refine (unhide HBW _).mono ?_; rintro e w1 ⟨oa, on, oc, rfl, r1, d1⟩; obtain ⟨hon, hin, hob⟩ := (unhide r1).words; subst hon; have B1 := hide ((unhide A0).trans (d1.mono (unhide A0).size)); have X1 := hide ((unhide X0).up d1); have HGE := hide (show w.heap.size + 1 ≤ w1.heap.size from (by have := d1.size; omega)); have R1 := hide ((unhide r1).mono (B' := w.heap.size + 1) (by simp)); have HIN := hide hin; have HOB := hide hob; clear r1 d1 HBW A0 X0 hin hob)
        | (go_at_call 26; have _t := HOB; have HZ1 := (show (w1.alloc (.cells #[.int .i64 (bwCode t), .int .i64 (bwAt t)] 27)).heap.size = w1.heap.size + 1 from (by simp)); have dA := (Below.refl w1.heap.size w1).alloc (Nat.le_refl _) (.cells #[.int .i64 (bwCode t), .int .i64 (bwAt t)] 27); have PN := hide (prs_new (c := oc) ((word_in_up (unhide HIN) dA)) (Nat.le_trans hlen (by omega)) (fun g o e => Nat.lt_of_lt_of_le (unhide HOB g o e) dA.size) 59); rw [HZ1] at PN; have dB := dA.trans (((Below.refl _ (w1.alloc (.cells #[.int .i64 (bwCode t), .int .i64 (bwAt t)] 27))).alloc (Nat.le_refl _) (.cells #[.slice oa (bwWords t).length oc, .int .i64 0, .bool false] 59)).mono dA.size); have X2 := hide ((unhide X1).up dB); have B2 := hide ((unhide B1).trans (dB.mono (unhide B1).size)); have HZ2 := hide (show w1.heap.size + 1 + 1 ≤ ((w1.alloc (.cells #[.int .i64 (bwCode t), .int .i64 (bwAt t)] 27)).alloc (.cells #[.slice oa (bwWords t).length oc, .int .i64 0, .bool false] 59)).heap.size from (by simp)); refine (unhide HPE _ (w1.heap.size + 1) oa oc 0 false (unhide PN) (unhide HFU)).mono ?_; rintro e w2 ⟨v2, l2, k2, b2, rfl, r2, s2, t2, p2⟩; have X3 := hide ((unhide X2).turn (unhide t2) (by have := unhide HGE; simp; omega)); have B3 := hide ((unhide B2).trans ((unhide t2).below (unhide B2).size (by have := unhide HGE; simp; omega))); have R3 := hide ((unhide r2).mono (B' := w.heap.size + 1) (by have := unhide HGE; have := unhide HZ2; omega)); have S3 := s2; have P3 := p2; clear PN X1 X2 B1 B2 r2 s2 t2 p2 HIN R1 HOB HPE HFU dA dB HZ1 HZ2; have hbk := ok_of (unhide HPR) (unhide P3); obtain ⟨hb2, hk2, hl2⟩ := hbk; subst hb2; subst k2; subst hl2; obtain ⟨⟨z0, z1, z2⟩, -⟩ := (unhide S3).box.triR; obtain ⟨⟨x0, x1⟩, f0, f1⟩ := (unhide X3).duoW; obtain ⟨va, vc, hv⟩ := nd_slice (unhide R3); subst hv)
        | fail)
      refine bodyPost_ret (v := .tuple #[.slice none 0 0, .agg #[.int .i64 6, .int .i64 0]]) (by simp [results, Tryz.results12, go_sem, x0, x1]) rfl ?_
      refine unhide FIN _ ?_
      first
        | exact (unhide B3).trans (((Turn.refl [w.heap.size] w2).setCell (g := w.heap.size) (by simp) 0 _).setCell (g := w.heap.size) (by simp) 1 _ |>.below (unhide B3).size (by simp))
        | exact (unhide B3).trans (((Turn.refl [w.heap.size] w2).setCell (g := w.heap.size) (by simp) 0 _).setCell (g := w.heap.size) (by simp) 1 _ |>.trans (Turn.of_below (Below.refl _ _).drew) |>.below (unhide B3).size (by simp))
    have hs1 : ¬ (400 : Int) < ((fl x.f).length : Int) := by simp only [sizeT] at hsz; omega
    have HLN := hide (show (fl x.f).length ≤ 1048576 from by simp only [sizeT] at hsz; omega)
    have HST := hide (show StandsAt (fl x.f) 0 x.x x.l from ⟨[], [], by simp [TreeV.f, fl], rfl⟩)
    have HNE := hide (show fl x.f ≠ [] from by simp [TreeV.f, fl])
    by_cases hd : 40 < dp x.l + 1
    · have hd1 : (40 : Int) < ((dp x.l + 1 : Nat) : Int) := by omega
      have hd2 : (40 : Int) < ((dp x.l : Nat) : Int) + 1 := by omega
      have FIN := hide (fun (V : World) (bV : Below w.heap.size w V) => show RetTr (trRes t) w (.returned (.tuple #[.slice none 0 0, .agg #[.int .i64 7, .int .i64 0]])) V from by rw [tr_deep hc hR hk hsz hd]; exact ⟨none, 0, 0, rfl, hide (NdRow.nil _ _), bV⟩)
      clear hc hR hsz hd
      go_enter Tryz.func12, Tryz.ntmps12
      go_wp2_with (first
        | (go_at_call 25; refine (unhide HBW _).mono ?_; rintro e w1 ⟨oa, on, oc, rfl, r1, d1⟩; obtain ⟨hon, hin, hob⟩ := (unhide r1).words; subst hon; have B1 := hide ((unhide A0).trans (d1.mono (unhide A0).size)); have X1 := hide ((unhide X0).up d1); have HGE := hide (show w.heap.size + 1 ≤ w1.heap.size from (by have := d1.size; omega)); have R1 := hide ((unhide r1).mono (B' := w.heap.size + 1) (by simp)); have HIN := hide hin; have HOB := hide hob; clear r1 d1 HBW A0 X0 hin hob)
        | (go_at_call 26; have _t := HOB; have HZ1 := (show (w1.alloc (.cells #[.int .i64 (bwCode t), .int .i64 (bwAt t)] 27)).heap.size = w1.heap.size + 1 from (by simp)); have dA := (Below.refl w1.heap.size w1).alloc (Nat.le_refl _) (.cells #[.int .i64 (bwCode t), .int .i64 (bwAt t)] 27); have PN := hide (prs_new (c := oc) ((word_in_up (unhide HIN) dA)) (Nat.le_trans hlen (by omega)) (fun g o e => Nat.lt_of_lt_of_le (unhide HOB g o e) dA.size) 59); rw [HZ1] at PN; have dB := dA.trans (((Below.refl _ (w1.alloc (.cells #[.int .i64 (bwCode t), .int .i64 (bwAt t)] 27))).alloc (Nat.le_refl _) (.cells #[.slice oa (bwWords t).length oc, .int .i64 0, .bool false] 59)).mono dA.size); have X2 := hide ((unhide X1).up dB); have B2 := hide ((unhide B1).trans (dB.mono (unhide B1).size)); have HZ2 := hide (show w1.heap.size + 1 + 1 ≤ ((w1.alloc (.cells #[.int .i64 (bwCode t), .int .i64 (bwAt t)] 27)).alloc (.cells #[.slice oa (bwWords t).length oc, .int .i64 0, .bool false] 59)).heap.size from (by simp)); refine (unhide HPE _ (w1.heap.size + 1) oa oc 0 false (unhide PN) (unhide HFU)).mono ?_; rintro e w2 ⟨v2, l2, k2, b2, rfl, r2, s2, t2, p2⟩; have X3 := hide ((unhide X2).turn (unhide t2) (by have := unhide HGE; simp; omega)); have B3 := hide ((unhide B2).trans ((unhide t2).below (unhide B2).size (by have := unhide HGE; simp; omega))); have R3 := hide ((unhide r2).mono (B' := w.heap.size + 1) (by have := unhide HGE; have := unhide HZ2; omega)); have S3 := s2; have P3 := p2; clear PN X1 X2 B1 B2 r2 s2 t2 p2 HIN R1 HOB HPE HFU dA dB HZ1 HZ2; have hbk := ok_of (unhide HPR) (unhide P3); obtain ⟨hb2, hk2, hl2⟩ := hbk; subst hb2; subst k2; subst hl2; obtain ⟨⟨z0, z1, z2⟩, -⟩ := (unhide S3).box.triR; obtain ⟨⟨x0, x1⟩, f0, f1⟩ := (unhide X3).duoW; obtain ⟨va, vc, hv⟩ := nd_slice (unhide R3); subst hv; have hrd := nd_at (unhide R3) (unhide HNE); obtain ⟨g, o, hva, hat⟩ := hrd; subst hva; have HNA := hide hat; clear hat)
        | (go_at_call 23; refine (l2Deep_any x.x x.l (unhide HOK).kids (unhide HOK).kok _ g o vc (fl x.f) 0 (unhide HST) (unhide HNA) (unhide HLN)).mono ?_; rintro e w3 ⟨rfl, hw3⟩; subst w3)
        | fail)
      refine bodyPost_ret (v := .tuple #[.slice none 0 0, .agg #[.int .i64 7, .int .i64 0]]) (by simp [results, Tryz.results12, go_sem, x0, x1]) rfl ?_
      refine unhide FIN _ ?_
      first
        | exact (unhide B3).trans (((Turn.refl [w.heap.size] w2).setCell (g := w.heap.size) (by simp) 0 _).setCell (g := w.heap.size) (by simp) 1 _ |>.below (unhide B3).size (by simp))
        | exact (unhide B3).trans (((Turn.refl [w.heap.size] w2).setCell (g := w.heap.size) (by simp) 0 _).setCell (g := w.heap.size) (by simp) 1 _ |>.trans (Turn.of_below (Below.refl _ _).drew) |>.below (unhide B3).size (by simp))
    have hd1 : ¬ (40 : Int) < ((dp x.l + 1 : Nat) : Int) := by omega
    have hd2 : ¬ (40 : Int) < ((dp x.l : Nat) : Int) + 1 := by omega
    have FIN := hide (fun (V : World) (va : Option Addr) (n vc : Nat) (bV : Below w.heap.size w V) (r : NdRow w.heap.size V (.slice va n vc) (fl x.f)) => show RetTr (trRes t) w (.returned (.tuple #[.slice va n vc, .agg #[.int .i64 0, .int .i64 0]])) V from by rw [tr_ok hc hR hk hsz hd]; exact ⟨va, n, vc, rfl, hide r, bV⟩)
    clear hc hR hsz hd
    go_enter Tryz.func12, Tryz.ntmps12
    go_wp2_with (first
      | (go_at_call 25; refine (unhide HBW _).mono ?_; rintro e w1 ⟨oa, on, oc, rfl, r1, d1⟩; obtain ⟨hon, hin, hob⟩ := (unhide r1).words; subst hon; have B1 := hide ((unhide A0).trans (d1.mono (unhide A0).size)); have X1 := hide ((unhide X0).up d1); have HGE := hide (show w.heap.size + 1 ≤ w1.heap.size from (by have := d1.size; omega)); have R1 := hide ((unhide r1).mono (B' := w.heap.size + 1) (by simp)); have HIN := hide hin; have HOB := hide hob; clear r1 d1 HBW A0 X0 hin hob)
      | (go_at_call 26; have _t := HOB; have HZ1 := (show (w1.alloc (.cells #[.int .i64 (bwCode t), .int .i64 (bwAt t)] 27)).heap.size = w1.heap.size + 1 from (by simp)); have dA := (Below.refl w1.heap.size w1).alloc (Nat.le_refl _) (.cells #[.int .i64 (bwCode t), .int .i64 (bwAt t)] 27); have PN := hide (prs_new (c := oc) ((word_in_up (unhide HIN) dA)) (Nat.le_trans hlen (by omega)) (fun g o e => Nat.lt_of_lt_of_le (unhide HOB g o e) dA.size) 59); rw [HZ1] at PN; have dB := dA.trans (((Below.refl _ (w1.alloc (.cells #[.int .i64 (bwCode t), .int .i64 (bwAt t)] 27))).alloc (Nat.le_refl _) (.cells #[.slice oa (bwWords t).length oc, .int .i64 0, .bool false] 59)).mono dA.size); have X2 := hide ((unhide X1).up dB); have B2 := hide ((unhide B1).trans (dB.mono (unhide B1).size)); have HZ2 := hide (show w1.heap.size + 1 + 1 ≤ ((w1.alloc (.cells #[.int .i64 (bwCode t), .int .i64 (bwAt t)] 27)).alloc (.cells #[.slice oa (bwWords t).length oc, .int .i64 0, .bool false] 59)).heap.size from (by simp)); refine (unhide HPE _ (w1.heap.size + 1) oa oc 0 false (unhide PN) (unhide HFU)).mono ?_; rintro e w2 ⟨v2, l2, k2, b2, rfl, r2, s2, t2, p2⟩; have X3 := hide ((unhide X2).turn (unhide t2) (by have := unhide HGE; simp; omega)); have B3 := hide ((unhide B2).trans ((unhide t2).below (unhide B2).size (by have := unhide HGE; simp; omega))); have R3 := hide ((unhide r2).mono (B' := w.heap.size + 1) (by have := unhide HGE; have := unhide HZ2; omega)); have S3 := s2; have P3 := p2; clear PN X1 X2 B1 B2 r2 s2 t2 p2 HIN R1 HOB HPE HFU dA dB HZ1 HZ2; have hbk := ok_of (unhide HPR) (unhide P3); obtain ⟨hb2, hk2, hl2⟩ := hbk; subst hb2; subst k2; subst hl2; obtain ⟨⟨z0, z1, z2⟩, -⟩ := (unhide S3).box.triR; obtain ⟨⟨x0, x1⟩, f0, f1⟩ := (unhide X3).duoW; obtain ⟨va, vc, hv⟩ := nd_slice (unhide R3); subst hv; have hrd := nd_at (unhide R3) (unhide HNE); obtain ⟨g, o, hva, hat⟩ := hrd; subst hva; have HNA := hide hat; clear hat)
      | (go_at_call 23; refine (l2Deep_any x.x x.l (unhide HOK).kids (unhide HOK).kok _ g o vc (fl x.f) 0 (unhide HST) (unhide HNA) (unhide HLN)).mono ?_; rintro e w3 ⟨rfl, hw3⟩; subst w3)
      | fail)
    refine bodyPost_ret (v := .tuple #[.slice (some ⟨g, o, none⟩) (fl x.f).length vc, .agg #[.int .i64 0, .int .i64 0]]) (by simp [results, Tryz.results12, go_sem, x0, x1]) rfl ?_
    refine unhide FIN _ _ _ _ ?_ ?_
    · exact (unhide B3).trans (((Turn.refl [w.heap.size] w2).setCell (g := w.heap.size) (by simp) 0 _).setCell (g := w.heap.size) (by simp) 1 _ |>.below (unhide B3).size (by simp))
    · exact ((unhide R3).turnW (((Turn.refl [w.heap.size] w2).setCell (g := w.heap.size) (by simp) 0 _).setCell (g := w.heap.size) (by simp) 1 _) (by omega)).mono (by omega)
end Go.Proofs.YtkfhokeoooafnaaGreatDoor
