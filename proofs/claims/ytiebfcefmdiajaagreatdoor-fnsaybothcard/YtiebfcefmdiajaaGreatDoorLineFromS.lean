/-
  SayFrom of the specification.
-/
import Derived.Test.YtiebfcefmdiajaaGreatDoorMerged48
import Derived.Test.YtiebfcefmdiajaaGreatDoorLineS
import Derived.Deep.DeepCutAuto
import Derived.Deep.CutBlock
set_option linter.unusedVariables false
namespace Go.Proofs.YtiebfcefmdiajaaGreatDoor
open Go.RowKit Go.Maps Go.Deep

def RetSf (t : ByteArray) (w : World) (e : Ending) (w' : World) : Prop := ∃ v S, e = .returned (.tuple #[v, .bool (lnB t)]) ∧ Hid (SayOwn S w' v (lnOut t)) ∧ Hid (∀ k ∈ S, w.heap.size ≤ k) ∧ Below w.heap.size w w'
theorem VrRow.lower {B B' : Nat} {w : World} {v : Value} {ns : List VerV} (h : VrRow B w v ns) (hB : B' ≤ B) : VrRow B' w v ns := by
  obtain ⟨h0, h⟩ := h
  refine ⟨h0, ?_⟩
  rcases h with h | ⟨g, cap, cur, e, hg, r⟩
  · exact .inl h
  · exact .inr ⟨g, cap, cur, e, Nat.le_trans hB hg, r⟩
def zeroC : List Value := [.int .i64 0, .int .i64 0, .int .i64 0, .string ⟨#[]⟩, .int .i64 0, .slice none 0 0]
theorem zero_own (w : World) : SayOwn [] w (.agg #[.int .i64 0, .int .i64 0, .int .i64 0, .string ⟨#[]⟩, .int .i64 0, .slice none 0 0]) sayNone := ⟨_, rfl, .inl ⟨rfl, rfl, none, 0, rfl⟩⟩
theorem four_of {l : List (List UInt8)} (h : 4 ≤ l.length) : ∃ a b c d r, l = a :: b :: c :: d :: r := by
  match l, h with
  | a :: b :: c :: d :: r, _ => exact ⟨a, b, c, d, r, rfl⟩
theorem loose_small {t : ByteArray} (h : t.size ≤ 1000) : SmallSay (looseS t.data.toList) := by
  have hl : t.data.toList.length ≤ 1000 := by simpa using h
  obtain ⟨c1, c2⟩ := cut_lenL 32 t.data.toList
  have hg : ∀ i, ((cutB 32 t.data.toList).getD i []).length ≤ 1000 := fun i => by
    rw [List.getD_eq_getElem?_getD]
    cases hq : (cutB 32 t.data.toList)[i]? with
    | none => simp
    | some p => have := c2 p (List.mem_of_getElem? hq); simp; omega
  have hb : ∀ i, (bytL ((cutB 32 t.data.toList).getD i [])).size ≤ 1000 := fun i => by rw [bytL, size_lit]; exact hg i
  have hv : ∀ x ∈ ((cutB 32 t.data.toList).drop 5).map looseVr, x.a0.size ≤ 1000 ∧ (-9223372036854775808 ≤ x.a1 ∧ x.a1 ≤ 9223372036854775807) := by
    intro x hx
    obtain ⟨p, hp, rfl⟩ := List.mem_map.1 hx
    have hpl := c2 p (List.mem_of_mem_drop hp)
    unfold looseVr
    split
    · refine ⟨?_, loose_fit _⟩
      obtain ⟨d1, d2⟩ := cut_lenL 58 p
      simp only
      rw [bytL, size_lit, List.getD_eq_getElem?_getD]
      cases hq : (cutB 58 p)[0]? with
      | none => simp
      | some q => have := d2 q (List.mem_of_getElem? hq); simp; omega
    · exact ⟨by show (⟨#[]⟩ : ByteArray).size ≤ 1000; decide, by simp⟩
  have hkf := kindN_fit (bytL ((cutB 32 t.data.toList).getD 2 []))
  unfold looseS looseW
  split
  · exact ⟨⟨by decide, by simp [VerSmall]⟩, ⟨by decide, by simp, fun x hx => by simp at hx⟩, by simp, by simp, by simp, by simp⟩
  split
  · refine ⟨⟨by simp only; have := hb 3; omega, ?_⟩, ⟨by simp only; have := hb 3; unfold maxLen; omega, by simp only [List.length_map, List.length_drop]; unfold maxLen; omega, fun x hx => ?_⟩, by simp, loose_fit _, loose_fit _, loose_fit _⟩
    · exact ⟨by simp only [List.length_map, List.length_drop]; omega, fun x hx => by have := (hv x hx).1; omega⟩
    · obtain ⟨q1, q2⟩ := hv x hx
      exact ⟨by unfold maxLen; omega, q2⟩
  · refine ⟨⟨by simp only; have := hb 3; omega, by simp [VerSmall]⟩, ⟨by simp only; have := hb 3; unfold maxLen; omega, by simp, fun x hx => by simp at hx⟩, by simp only; omega, loose_fit _, loose_fit _, by simp⟩
set_option maxRecDepth 20000 in
set_option maxHeartbeats 12800000 in
theorem specFrom_any (t : ByteArray) (w : World) (hs : t.size ≤ 1048576) :
    Calls Tryz.prog 6 #[.string t] w fun e w' => RetSf t w e w' := by
  have NO := hide (fun (h : lnB t = false ∧ lnOut t = sayNone) (W : World) (bW : Below w.heap.size w W) => show RetSf t w (.returned (.tuple #[.agg #[.int .i64 0, .int .i64 0, .int .i64 0, .string ⟨#[]⟩, .int .i64 0, .slice none 0 0], .bool false])) W from
    ⟨_, [], by rw [h.1], hide (by rw [h.2]; exact zero_own W), hide (by simp), bW⟩)
  have HSP := hide (fun (W : World) => show Calls Tryz.prog 21 #[.string t, .int .u8 32] W _ from l10Split_any t 32 W hs)
  have X0 := hide (boxF_new w zeroC 24)
  have A0 := hide ((Below.refl _ w).alloc (Nat.le_refl _) (.cells zeroC.toArray 24))
  have hz0 : w.heap.size < (w.alloc (.cells zeroC.toArray 24)).heap.size := by simp
  go_enter Tryz.func6, Tryz.ntmps6
  go_wp2_with fail
  refine (unhide HSP _).mono ?_
  rintro e w1 ⟨v, rfl, T1, b1⟩
  have B1 := hide ((unhide A0).trans (b1.mono (unhide A0).size))
  have X1 := hide ((unhide X0).up b1)
  obtain ⟨va, vc, rfl⟩ := (unhide T1).slice
  rw [List.length_map] at T1 ⊢
  have hwz : w.heap.size < w1.heap.size := (unhide X1).1.1
  clear b1 HSP X0 A0 hz0
  obtain ⟨⟨x0, x1, x2, x3, x4, x5⟩, y0, y1, y2, y3, y4, y5⟩ := (unhide X1).six6
  have KEY := hide (fun (h : lnB t = false ∧ lnOut t = sayNone) (W W' : World) (bW : Below w.heap.size w W) (ht : Turn [w.heap.size] W W') => unhide NO h W' (bW.trans (ht.below bW.size (by simp))))
  by_cases hbig : 400 < t.size
  · have hbig' : (400 : Int) < (t.size : Int) := by omega
    have hN := hide (ln_no (t := t) (.inl (by omega)))
    clear hbig T1 NO X1
    generalize (cutB 32 t.data.toList).length = n at *
    go_wp2_with fail
    refine bodyPost_ret (v := .tuple #[.agg #[.int .i64 0, .int .i64 0, .int .i64 0, .string ⟨#[]⟩, .int .i64 0, .slice none 0 0], .bool false]) (by simp [results, Tryz.results6, go_sem, x0, x1, x2, x3, x4, x5]) rfl ?_
    exact unhide KEY (unhide hN) w1 _ (unhide B1) (by (iterate 6 (refine Turn.setCell ?_ (by simp) _ _)); exact Turn.refl _ _)
  have hbig' : ¬ (400 : Int) < (t.size : Int) := by omega
  by_cases h4 : 4 ≤ (cutB 32 t.data.toList).length
  rotate_left
  · have hN := hide (ln_parts (t := t) (by unfold partsB; simp [h4]))
    have h4' : ((cutB 32 t.data.toList).length : Int) < 4 := by omega
    clear hbig h4 T1 NO X1
    generalize (cutB 32 t.data.toList).length = n at *
    go_wp2_with fail
    refine bodyPost_ret (v := .tuple #[.agg #[.int .i64 0, .int .i64 0, .int .i64 0, .string ⟨#[]⟩, .int .i64 0, .slice none 0 0], .bool false]) (by simp [results, Tryz.results6, go_sem, x0, x1, x2, x3, x4, x5]) rfl ?_
    exact unhide KEY (unhide hN) w1 _ (unhide B1) (by (iterate 6 (refine Turn.setCell ?_ (by simp) _ _)); exact Turn.refl _ _)
  have HSM := hide (loose_small (t := t) (by omega))
  have HCL := hide (cut_lenL 32 t.data.toList)
  have htl : t.data.toList.length ≤ 400 := by simpa using (show t.size ≤ 400 by omega)
  have HPB := hide (fun (h : partsB (cutB 32 t.data.toList) = false) => ln_parts (t := t) h)
  have HLS := hide (show looseS t.data.toList = looseW (cutB 32 t.data.toList) from rfl)
  obtain ⟨p0, p1, p2, p3, r, hc⟩ := four_of h4
  rw [hc] at T1 HCL HPB HLS ⊢
  have hps : ∀ p ∈ p0 :: p1 :: p2 :: p3 :: r, p.length ≤ 400 := fun p hp => by have := (unhide HCL).2 p hp; omega
  have hrl : (p0 :: p1 :: p2 :: p3 :: r).length ≤ 401 := by have := (unhide HCL).1; omega
  obtain ⟨-, g, rfl, hg, hcell⟩ := (unhide T1).at (by simp)
  have HCE := hide hcell
  have hnvc : (p0 :: p1 :: p2 :: p3 :: r).length ≤ vc := by
    have h1 := (unhide T1).2
    simp only [List.length_map] at h1
    rcases h1 with ⟨e, -⟩ | ⟨g', cap, cur, e, -, -, hnc, -⟩
    · simp at e
    · simp only [Value.slice.injEq] at e
      rw [e.2.2]
      simpa using hnc
  have c0 := hcell 0 (by simp)
  have c1 := hcell 1 (by simp)
  have c2 := hcell 2 (by simp)
  have c3 := hcell 3 (by simp)
  simp only [List.map_cons, List.getElem_cons_zero, List.getElem_cons_succ] at c0 c1 c2 c3
  have hN0 := hide (fun (W : World) => l10Num_any (bytL p0) W (by have := hps p0 (by simp); simp [bytL, ByteArray.size]; omega))
  have hN1 := hide (fun (W : World) => l10Num_any (bytL p1) W (by have := hps p1 (by simp); simp [bytL, ByteArray.size]; omega))
  rw [bytL_list] at hN0 hN1
  have HPS := hide hps
  have hlen : (p0 :: p1 :: p2 :: p3 :: r).length = r.length + 4 := by simp
  rw [hlen]
  rw [hlen] at hrl hnvc
  clear hcell hps HCL h4 hc hbig T1 htl hlen
  have h4' : ¬ (((r.length + 4 : Nat) : Int) < 4) := by omega
  have i0 : (0 : Int) < ((r.length + 4 : Nat) : Int) := by omega
  have i1 : (1 : Int) < ((r.length + 4 : Nat) : Int) := by omega
  have i2 : (2 : Int) < ((r.length + 4 : Nat) : Int) := by omega
  have i3 : (3 : Int) < ((r.length + 4 : Nat) : Int) := by omega
  generalize hn : r.length + 4 = n at *
  have HN := hide hn
  clear hn
  go_wp2_with fail
  refine (unhide hN0 _).mono ?_
  rintro e w2 ⟨rfl, b2⟩
  have B2 := hide ((unhide B1).trans (b2.mono (unhide B1).size))
  have X2 := hide ((unhide X1).up b2)
  have d1 := (b2.cell hg).trans c1
  have d2 := (b2.cell hg).trans c2
  have d3 := (b2.cell hg).trans c3
  have hg2 := Nat.lt_of_lt_of_le hg b2.size
  have BC2 := hide b2
  clear b2 hN0 c0 c1 c2 c3 x0 x1 x2 x3 x4 x5 y0 y1 y2 y3 y4 y5 X1 B1
  go_wp2_with fail
  refine (unhide hN1 _).mono ?_
  rintro e w3 ⟨rfl, b3⟩
  have B3 := hide ((unhide B2).trans (b3.mono (unhide B2).size))
  have X3 := hide ((unhide X2).up b3)
  have e2 := (b3.cell hg2).trans d2
  have e3 := (b3.cell hg2).trans d3
  have hg3 := Nat.lt_of_lt_of_le hg2 b3.size
  have BC3 := hide ((unhide BC2).trans (b3.mono (unhide BC2).size))
  clear b3 hN1 d1 d2 d3 X2 B2 BC2 hg2
  obtain ⟨⟨x0, x1, x2, x3, x4, x5⟩, y0, y1, y2, y3, y4, y5⟩ := (unhide X3).six6
  cases hx0 : numXB p0
  · have hN := hide (unhide HPB (by unfold partsB; simp [hx0]))
    clear hx0 NO X3 e2 e3 HSM HPB HLS HPS HCE
    generalize numX p0 = z0 at *
    generalize numX p1 = z1 at *
    generalize numXB p1 = q1 at *
    go_wp2_with fail
    refine bodyPost_ret (v := .tuple #[.agg #[.int .i64 0, .int .i64 0, .int .i64 0, .string ⟨#[]⟩, .int .i64 0, .slice none 0 0], .bool false]) (by simp [results, Tryz.results6, go_sem, x0, x1, x2, x3, x4, x5]) rfl ?_
    exact unhide KEY (unhide hN) _ _ (unhide B3) (by (iterate 6 (refine Turn.setCell ?_ (by simp) _ _)); exact Turn.refl _ _)
  cases hx1 : numXB p1
  · have hN := hide (unhide HPB (by unfold partsB; simp [hx1]))
    clear hx0 hx1 NO X3 e2 e3 HSM HPB HLS HPS HCE
    generalize numX p0 = z0 at *
    generalize numX p1 = z1 at *
    go_wp2_with fail
    refine bodyPost_ret (v := .tuple #[.agg #[.int .i64 0, .int .i64 0, .int .i64 0, .string ⟨#[]⟩, .int .i64 0, .slice none 0 0], .bool false]) (by simp [results, Tryz.results6, go_sem, x0, x1, x2, x3, x4, x5]) rfl ?_
    exact unhide KEY (unhide hN) _ _ (unhide B3) (by (iterate 6 (refine Turn.setCell ?_ (by simp) _ _)); exact Turn.refl _ _)
  have HZ0 := hide (show numX p0 = looseV p0 from by unfold numX; rw [hx0]; rfl)
  have HZ1 := hide (show numX p1 = looseV p1 from by unfold numX; rw [hx1]; rfl)
  have HX01 := hide (And.intro hx0 hx1)
  clear hx0 hx1
  generalize numX p0 = z0 at *
  generalize numX p1 = z1 at *
  -- the word that is being read
  have X9 := hide (boxF_new w3 [.int .i64 0, .int .i64 z0, .int .i64 z1, .string (bytL p3), .int .i64 0, .slice none 0 0] 24)
  have A9 := hide ((Below.refl _ w3).alloc (Nat.le_refl _) (.cells #[.int .i64 0, .int .i64 z0, .int .i64 z1, .string (bytL p3), .int .i64 0, .slice none 0 0] 24))
  have B9 := hide ((unhide B3).trans ((unhide A9).mono (unhide B3).size))
  have X29 := hide ((unhide X3).up (unhide A9))
  have f2 := ((unhide A9).cell hg3).trans e2
  have hg9 := Nat.lt_of_lt_of_le hg3 (unhide A9).size
  have BC9 := hide ((unhide BC3).trans ((unhide A9).mono (unhide BC3).size))
  have hw9 : w.heap.size < w3.heap.size := (unhide X3).1.1
  have hs3 := (unhide B3).size
  clear X3 A9 B3 BC3 e2 x0 x1 x2 x3 x4 x5 y0 y1 y2 y3 y4 y5
  go_upto_region 9 with fail
  have hgs : w.heap.size ≤ w3.heap.size := hs3
  have hgn : w.heap.size ≠ w3.heap.size := by omega
  generalize w3.alloc (.cells #[.int .i64 0, .int .i64 z0, .int .i64 z1, .string (bytL p3), .int .i64 0, .slice none 0 0] 24) = W9 at *
  generalize hgq : w3.heap.size = gs at *
  have hggs : g ≠ gs := by omega
  clear hgq e3 hg3
  obtain ⟨⟨g0, g1, g2, g3, g4, g5⟩, u0, u1, u2, u3, u4, u5⟩ := (unhide X9).six6
  have ka := str_same10 (bytL p2) askT
  have kg := str_same10 (bytL p2) goneT
  have kt := str_same10 (bytL p2) tellT
  rw [show askT.toList = [97, 115, 107, 115] from by rw [ByteArray.toList_eq]; rfl] at ka
  rw [show goneT.toList = [103, 111, 110, 101] from by rw [ByteArray.toList_eq]; rfl] at kg
  rw [show tellT.toList = [116, 101, 108, 108, 115] from by rw [ByteArray.toList_eq]; rfl] at kt
  have hat : askT ≠ tellT := by decide
  have hag : askT ≠ goneT := by decide
  have hgt : goneT ≠ tellT := by decide
  by_cases wa : bytL p2 = askT
  · -- asks
    have hk : kindN (bytL p2) = 1 := by rw [wa]; decide
    have q1 : ((bytL p2).toList == [97, 115, 107, 115]) = true := by rw [ka]; simp [wa]
    have q2 : True := trivial
    have q3 : True := trivial
    clear wa ka kg kt hat hag hgt
    have HS := hide (show looseS t.data.toList = ⟨1, z0, z1, bytL p3, 0, []⟩ from by
      rw [unhide HLS]
      unfold looseW
      rw [if_neg (by simp), if_neg (by simp only [List.getD_cons_zero, List.getD_cons_succ]; rw [hk]; simp)]
      simp only [List.getD_cons_zero, List.getD_cons_succ]
      rw [hk, unhide HZ0, unhide HZ1])
    clear hk
    generalize bytL p3 = nm at *
    generalize bytL p2 = c2 at *
    go_wp2_with fail
    have XK := hide (show BoxF (W9.setCell ⟨gs, 0, none⟩ (.int .i64 1)) gs [.int .i64 1, .int .i64 z0, .int .i64 z1, .string nm, .int .i64 0, .slice none 0 0] from (unhide X9).set 0 _ (by simp))
    have BK := hide (show Below w.heap.size w (W9.setCell ⟨gs, 0, none⟩ (.int .i64 1)) from (unhide B9).setCell (p := ⟨gs, 0, none⟩) hgs _)
    have X2K := hide (show BoxF (W9.setCell ⟨gs, 0, none⟩ (.int .i64 1)) w.heap.size zeroC from (unhide X29).far 0 _ hgn)
    have RK := hide (show VrRow w.heap.size (W9.setCell ⟨gs, 0, none⟩ (.int .i64 1)) (.slice none 0 0) [] from VrRow.nil _ _)
    have hrne : ∀ y, (Value.slice none 0 0).ownBlock = some y → y ≠ w.heap.size := fun y hy => by simp [Value.ownBlock] at hy
    clear X9 B9 X29 f2 g0 g1 g2 g3 g4 g5 u0 u1 u2 u3 u4 u5 q1 q2 q3
    generalize W9.setCell ⟨gs, 0, none⟩ (.int .i64 1) = Wk at *
    have HSM2 := hide (show SmallSay ⟨1, z0, z1, nm, 0, []⟩ from by rw [← unhide HS]; exact unhide HSM)
    have HOK := hide (specSayOk_any ⟨1, z0, z1, nm, 0, []⟩ (.agg #[.int .i64 1, .int .i64 z0, .int .i64 z1, .string nm, .int .i64 0, .slice none 0 0]) Wk (unhide HSM2) ⟨_, rfl, (unhide RK).rd⟩)
    have HLN := hide (fun (W : World) (bW : Below Wk.heap.size Wk W) => specLine_any ⟨1, z0, z1, nm, 0, []⟩ (.agg #[.int .i64 1, .int .i64 z0, .int .i64 z1, .string nm, .int .i64 0, .slice none 0 0]) W (unhide HSM2) ⟨_, rfl, ((unhide RK).up bW).rd⟩)
    have HYS := hide (fun (h1 : sayOkB ⟨1, z0, z1, nm, 0, []⟩ = true) (h2 : lineT ⟨1, z0, z1, nm, 0, []⟩ = t) => ln_yes (t := t) (by omega) (by rw [unhide HS]; exact h1) (by rw [unhide HS]; exact h2))
    have HNS := hide (fun (h : sayOkB ⟨1, z0, z1, nm, 0, []⟩ = false ∨ lineT ⟨1, z0, z1, nm, 0, []⟩ ≠ t) => ln_no (t := t) (.inr (by rw [unhide HS]; exact h)))
    have HLO := hide (fun (h : sayOkB ⟨1, z0, z1, nm, 0, []⟩ = true) => show lineOut ⟨1, z0, z1, nm, 0, []⟩ = lineT ⟨1, z0, z1, nm, 0, []⟩ from by unfold lineOut; rw [if_pos h])
    have hgk : gs < Wk.heap.size := (unhide XK).1.1
    clear HSM HSM2 HPB HLS HPS HCE HX01 HZ0 HZ1 HN
    refine (unhide HOK).mono ?_
    rintro e w4 ⟨rfl, b4⟩
    have BK4 := hide b4
    have B4 := hide ((unhide BK).trans (b4.mono (unhide BK).size))
    have X4 := hide ((unhide XK).up b4)
    have X24 := hide ((unhide X2K).up b4)
    clear b4 HOK
    obtain ⟨⟨x0, x1, x2, x3, x4, x5⟩, y0, y1, y2, y3, y4, y5⟩ := (unhide X24).six6
    obtain ⟨⟨k0, k1, k2, k3, k4, k5⟩, -⟩ := (unhide X4).six6
    cases hok : sayOkB ⟨1, z0, z1, nm, 0, []⟩
    · have hN := hide (unhide HNS (.inl hok))
      clear hok HYS HNS HLO HLN HS RK XK X2K BK BK4 X4 X24
      go_wp2_with fail
      refine bodyPost_ret (v := .tuple #[.agg #[.int .i64 0, .int .i64 0, .int .i64 0, .string ⟨#[]⟩, .int .i64 0, .slice none 0 0], .bool false]) (by simp [results, Tryz.results6, go_sem, x0, x1, x2, x3, x4, x5]) rfl ?_
      exact unhide KEY (unhide hN) _ _ (unhide B4) (by (iterate 6 (refine Turn.setCell ?_ (by simp) _ _)); exact Turn.refl _ _)
    · have HOKT := hide hok
      clear hok
      go_wp2_with fail
      refine (unhide HLN _ (unhide BK4)).mono ?_
      rintro e w5 ⟨rfl, b5⟩
      have B5 := hide ((unhide B4).trans (b5.mono (unhide B4).size))
      have X5 := hide ((unhide X4).up b5)
      have X25 := hide ((unhide X24).up b5)
      have RK5 := hide ((unhide RK).up ((unhide BK4).trans (b5.mono (unhide BK4).size)))
      clear b5 HLN BK4 B4 X4 X24 XK X2K BK RK x0 x1 x2 x3 x4 x5 y0 y1 y2 y3 y4 y5 k0 k1 k2 k3 k4 k5
      obtain ⟨⟨x0, x1, x2, x3, x4, x5⟩, y0, y1, y2, y3, y4, y5⟩ := (unhide X25).six6
      obtain ⟨⟨k0, k1, k2, k3, k4, k5⟩, -⟩ := (unhide X5).six6
      have hlo := unhide HLO (unhide HOKT)
      have hsm := str_same10 (lineT ⟨1, z0, z1, nm, 0, []⟩) t
      rw [hlo]
      by_cases hq : lineT ⟨1, z0, z1, nm, 0, []⟩ = t
      · have HY := hide (unhide HYS (unhide HOKT) hq)
        rw [decide_eq_true hq] at hsm
        have HEND := hide (fun (W : World) (tW : Turn [w.heap.size] w5 W) (hvr : VrRow w.heap.size W (.slice none 0 0) ([])) => show RetSf t w (.returned (.tuple #[.agg #[.int .i64 1, .int .i64 z0, .int .i64 z1, .string nm, .int .i64 0, .slice none 0 0], .bool true])) W from by
          obtain ⟨Sv, hSv, hge, -⟩ := hvr.own
          exact ⟨_, Sv, by rw [(unhide HY).1], hide (by rw [(unhide HY).2, unhide HS]; exact ⟨_, rfl, hSv⟩), hide hge, (unhide B5).trans (tW.below (unhide B5).size (by simp))⟩)
        have HRW := hide (fun (W : World) (tW : Turn [w.heap.size] w5 W) => show VrRow w.heap.size W (.slice none 0 0) ([]) from (unhide RK5).keep (fun y hy => tW.block y ((unhide RK5).lt y hy) (by simp; have := hrne y hy; omega)))
        clear hq hlo HYS HNS HLO HOKT HS HY
        generalize lineT ⟨1, z0, z1, nm, 0, []⟩ = LT at *
        go_wp2_with fail
        refine bodyPost_ret (v := .tuple #[.agg #[.int .i64 1, .int .i64 z0, .int .i64 z1, .string nm, .int .i64 0, .slice none 0 0], .bool true]) (by simp [results, Tryz.results6, go_sem, x0, x1, x2, x3, x4, x5]) rfl ?_
        have TT : Turn [w.heap.size] w5 ((((((w5.setCell ⟨w.heap.size, 0, none⟩ (.int .i64 1)).setCell ⟨w.heap.size, 1, none⟩ (.int .i64 z0)).setCell ⟨w.heap.size, 2, none⟩ (.int .i64 z1)).setCell ⟨w.heap.size, 3, none⟩ (.string nm)).setCell ⟨w.heap.size, 4, none⟩ (.int .i64 0)).setCell ⟨w.heap.size, 5, none⟩ (.slice none 0 0)) := by
          (iterate 6 (refine Turn.setCell ?_ (by simp) _ _)); exact Turn.refl _ _
        exact unhide HEND _ TT (unhide HRW _ TT)
      · have hN := hide (unhide HNS (.inr hq))
        rw [decide_eq_false hq] at hsm
        clear hq hlo HYS HNS HLO HOKT HS RK5 X5 X25
        generalize lineT ⟨1, z0, z1, nm, 0, []⟩ = LT at *
        go_wp2_with fail
        refine bodyPost_ret (v := .tuple #[.agg #[.int .i64 0, .int .i64 0, .int .i64 0, .string ⟨#[]⟩, .int .i64 0, .slice none 0 0], .bool false]) (by simp [results, Tryz.results6, go_sem, x0, x1, x2, x3, x4, x5]) rfl ?_
        exact unhide KEY (unhide hN) _ _ (unhide B5) (by (iterate 6 (refine Turn.setCell ?_ (by simp) _ _)); exact Turn.refl _ _)
  by_cases wg : bytL p2 = goneT
  · -- gone
    have hk : kindN (bytL p2) = 3 := by rw [wg]; decide
    have q1 : ((bytL p2).toList == [97, 115, 107, 115]) = false := by rw [ka]; simp [wa]
    have q2 : ((bytL p2).toList == [103, 111, 110, 101]) = true := by rw [kg]; simp [wg]
    have q3 : True := trivial
    clear wa wg ka kg kt hat hag hgt
    have HS := hide (show looseS t.data.toList = ⟨3, z0, z1, bytL p3, 0, []⟩ from by
      rw [unhide HLS]
      unfold looseW
      rw [if_neg (by simp), if_neg (by simp only [List.getD_cons_zero, List.getD_cons_succ]; rw [hk]; simp)]
      simp only [List.getD_cons_zero, List.getD_cons_succ]
      rw [hk, unhide HZ0, unhide HZ1])
    clear hk
    generalize bytL p3 = nm at *
    generalize bytL p2 = c2 at *
    go_wp2_with fail
    have XK := hide (show BoxF (W9.setCell ⟨gs, 0, none⟩ (.int .i64 3)) gs [.int .i64 3, .int .i64 z0, .int .i64 z1, .string nm, .int .i64 0, .slice none 0 0] from (unhide X9).set 0 _ (by simp))
    have BK := hide (show Below w.heap.size w (W9.setCell ⟨gs, 0, none⟩ (.int .i64 3)) from (unhide B9).setCell (p := ⟨gs, 0, none⟩) hgs _)
    have X2K := hide (show BoxF (W9.setCell ⟨gs, 0, none⟩ (.int .i64 3)) w.heap.size zeroC from (unhide X29).far 0 _ hgn)
    have RK := hide (show VrRow w.heap.size (W9.setCell ⟨gs, 0, none⟩ (.int .i64 3)) (.slice none 0 0) [] from VrRow.nil _ _)
    have hrne : ∀ y, (Value.slice none 0 0).ownBlock = some y → y ≠ w.heap.size := fun y hy => by simp [Value.ownBlock] at hy
    clear X9 B9 X29 f2 g0 g1 g2 g3 g4 g5 u0 u1 u2 u3 u4 u5 q1 q2 q3
    generalize W9.setCell ⟨gs, 0, none⟩ (.int .i64 3) = Wk at *
    have HSM2 := hide (show SmallSay ⟨3, z0, z1, nm, 0, []⟩ from by rw [← unhide HS]; exact unhide HSM)
    have HOK := hide (specSayOk_any ⟨3, z0, z1, nm, 0, []⟩ (.agg #[.int .i64 3, .int .i64 z0, .int .i64 z1, .string nm, .int .i64 0, .slice none 0 0]) Wk (unhide HSM2) ⟨_, rfl, (unhide RK).rd⟩)
    have HLN := hide (fun (W : World) (bW : Below Wk.heap.size Wk W) => specLine_any ⟨3, z0, z1, nm, 0, []⟩ (.agg #[.int .i64 3, .int .i64 z0, .int .i64 z1, .string nm, .int .i64 0, .slice none 0 0]) W (unhide HSM2) ⟨_, rfl, ((unhide RK).up bW).rd⟩)
    have HYS := hide (fun (h1 : sayOkB ⟨3, z0, z1, nm, 0, []⟩ = true) (h2 : lineT ⟨3, z0, z1, nm, 0, []⟩ = t) => ln_yes (t := t) (by omega) (by rw [unhide HS]; exact h1) (by rw [unhide HS]; exact h2))
    have HNS := hide (fun (h : sayOkB ⟨3, z0, z1, nm, 0, []⟩ = false ∨ lineT ⟨3, z0, z1, nm, 0, []⟩ ≠ t) => ln_no (t := t) (.inr (by rw [unhide HS]; exact h)))
    have HLO := hide (fun (h : sayOkB ⟨3, z0, z1, nm, 0, []⟩ = true) => show lineOut ⟨3, z0, z1, nm, 0, []⟩ = lineT ⟨3, z0, z1, nm, 0, []⟩ from by unfold lineOut; rw [if_pos h])
    have hgk : gs < Wk.heap.size := (unhide XK).1.1
    clear HSM HSM2 HPB HLS HPS HCE HX01 HZ0 HZ1 HN
    refine (unhide HOK).mono ?_
    rintro e w4 ⟨rfl, b4⟩
    have BK4 := hide b4
    have B4 := hide ((unhide BK).trans (b4.mono (unhide BK).size))
    have X4 := hide ((unhide XK).up b4)
    have X24 := hide ((unhide X2K).up b4)
    clear b4 HOK
    obtain ⟨⟨x0, x1, x2, x3, x4, x5⟩, y0, y1, y2, y3, y4, y5⟩ := (unhide X24).six6
    obtain ⟨⟨k0, k1, k2, k3, k4, k5⟩, -⟩ := (unhide X4).six6
    cases hok : sayOkB ⟨3, z0, z1, nm, 0, []⟩
    · have hN := hide (unhide HNS (.inl hok))
      clear hok HYS HNS HLO HLN HS RK XK X2K BK BK4 X4 X24
      go_wp2_with fail
      refine bodyPost_ret (v := .tuple #[.agg #[.int .i64 0, .int .i64 0, .int .i64 0, .string ⟨#[]⟩, .int .i64 0, .slice none 0 0], .bool false]) (by simp [results, Tryz.results6, go_sem, x0, x1, x2, x3, x4, x5]) rfl ?_
      exact unhide KEY (unhide hN) _ _ (unhide B4) (by (iterate 6 (refine Turn.setCell ?_ (by simp) _ _)); exact Turn.refl _ _)
    · have HOKT := hide hok
      clear hok
      go_wp2_with fail
      refine (unhide HLN _ (unhide BK4)).mono ?_
      rintro e w5 ⟨rfl, b5⟩
      have B5 := hide ((unhide B4).trans (b5.mono (unhide B4).size))
      have X5 := hide ((unhide X4).up b5)
      have X25 := hide ((unhide X24).up b5)
      have RK5 := hide ((unhide RK).up ((unhide BK4).trans (b5.mono (unhide BK4).size)))
      clear b5 HLN BK4 B4 X4 X24 XK X2K BK RK x0 x1 x2 x3 x4 x5 y0 y1 y2 y3 y4 y5 k0 k1 k2 k3 k4 k5
      obtain ⟨⟨x0, x1, x2, x3, x4, x5⟩, y0, y1, y2, y3, y4, y5⟩ := (unhide X25).six6
      obtain ⟨⟨k0, k1, k2, k3, k4, k5⟩, -⟩ := (unhide X5).six6
      have hlo := unhide HLO (unhide HOKT)
      have hsm := str_same10 (lineT ⟨3, z0, z1, nm, 0, []⟩) t
      rw [hlo]
      by_cases hq : lineT ⟨3, z0, z1, nm, 0, []⟩ = t
      · have HY := hide (unhide HYS (unhide HOKT) hq)
        rw [decide_eq_true hq] at hsm
        have HEND := hide (fun (W : World) (tW : Turn [w.heap.size] w5 W) (hvr : VrRow w.heap.size W (.slice none 0 0) ([])) => show RetSf t w (.returned (.tuple #[.agg #[.int .i64 3, .int .i64 z0, .int .i64 z1, .string nm, .int .i64 0, .slice none 0 0], .bool true])) W from by
          obtain ⟨Sv, hSv, hge, -⟩ := hvr.own
          exact ⟨_, Sv, by rw [(unhide HY).1], hide (by rw [(unhide HY).2, unhide HS]; exact ⟨_, rfl, hSv⟩), hide hge, (unhide B5).trans (tW.below (unhide B5).size (by simp))⟩)
        have HRW := hide (fun (W : World) (tW : Turn [w.heap.size] w5 W) => show VrRow w.heap.size W (.slice none 0 0) ([]) from (unhide RK5).keep (fun y hy => tW.block y ((unhide RK5).lt y hy) (by simp; have := hrne y hy; omega)))
        clear hq hlo HYS HNS HLO HOKT HS HY
        generalize lineT ⟨3, z0, z1, nm, 0, []⟩ = LT at *
        go_wp2_with fail
        refine bodyPost_ret (v := .tuple #[.agg #[.int .i64 3, .int .i64 z0, .int .i64 z1, .string nm, .int .i64 0, .slice none 0 0], .bool true]) (by simp [results, Tryz.results6, go_sem, x0, x1, x2, x3, x4, x5]) rfl ?_
        have TT : Turn [w.heap.size] w5 ((((((w5.setCell ⟨w.heap.size, 0, none⟩ (.int .i64 3)).setCell ⟨w.heap.size, 1, none⟩ (.int .i64 z0)).setCell ⟨w.heap.size, 2, none⟩ (.int .i64 z1)).setCell ⟨w.heap.size, 3, none⟩ (.string nm)).setCell ⟨w.heap.size, 4, none⟩ (.int .i64 0)).setCell ⟨w.heap.size, 5, none⟩ (.slice none 0 0)) := by
          (iterate 6 (refine Turn.setCell ?_ (by simp) _ _)); exact Turn.refl _ _
        exact unhide HEND _ TT (unhide HRW _ TT)
      · have hN := hide (unhide HNS (.inr hq))
        rw [decide_eq_false hq] at hsm
        clear hq hlo HYS HNS HLO HOKT HS RK5 X5 X25
        generalize lineT ⟨3, z0, z1, nm, 0, []⟩ = LT at *
        go_wp2_with fail
        refine bodyPost_ret (v := .tuple #[.agg #[.int .i64 0, .int .i64 0, .int .i64 0, .string ⟨#[]⟩, .int .i64 0, .slice none 0 0], .bool false]) (by simp [results, Tryz.results6, go_sem, x0, x1, x2, x3, x4, x5]) rfl ?_
        exact unhide KEY (unhide hN) _ _ (unhide B5) (by (iterate 6 (refine Turn.setCell ?_ (by simp) _ _)); exact Turn.refl _ _)
  by_cases wt : bytL p2 = tellT
  rotate_left
  · -- no word
    have hk : kindN (bytL p2) = 0 := by unfold kindN; rw [if_neg wa, if_neg wt, if_neg wg]
    have q1 : ((bytL p2).toList == [97, 115, 107, 115]) = false := by rw [ka]; simp [wa]
    have q2 : ((bytL p2).toList == [103, 111, 110, 101]) = false := by rw [kg]; simp [wg]
    have q3 : ((bytL p2).toList == [116, 101, 108, 108, 115]) = false := by rw [kt]; simp [wt]
    clear wa wg wt ka kg kt hat hag hgt
    have HS := hide (show looseS t.data.toList = ⟨0, z0, z1, bytL p3, 0, []⟩ from by
      rw [unhide HLS]
      unfold looseW
      rw [if_neg (by simp), if_neg (by simp only [List.getD_cons_zero, List.getD_cons_succ]; rw [hk]; simp)]
      simp only [List.getD_cons_zero, List.getD_cons_succ]
      rw [hk, unhide HZ0, unhide HZ1])
    clear hk
    generalize bytL p3 = nm at *
    generalize bytL p2 = c2 at *
    go_wp2_with fail
    have XK := hide (show BoxF (W9) gs [.int .i64 0, .int .i64 z0, .int .i64 z1, .string nm, .int .i64 0, .slice none 0 0] from unhide X9)
    have BK := hide (show Below w.heap.size w (W9) from unhide B9)
    have X2K := hide (show BoxF (W9) w.heap.size zeroC from unhide X29)
    have RK := hide (show VrRow w.heap.size (W9) (.slice none 0 0) [] from VrRow.nil _ _)
    have hrne : ∀ y, (Value.slice none 0 0).ownBlock = some y → y ≠ w.heap.size := fun y hy => by simp [Value.ownBlock] at hy
    clear X9 B9 X29 f2 g0 g1 g2 g3 g4 g5 u0 u1 u2 u3 u4 u5 q1 q2 q3
    generalize W9 = Wk at *
    have HSM2 := hide (show SmallSay ⟨0, z0, z1, nm, 0, []⟩ from by rw [← unhide HS]; exact unhide HSM)
    have HOK := hide (specSayOk_any ⟨0, z0, z1, nm, 0, []⟩ (.agg #[.int .i64 0, .int .i64 z0, .int .i64 z1, .string nm, .int .i64 0, .slice none 0 0]) Wk (unhide HSM2) ⟨_, rfl, (unhide RK).rd⟩)
    have HLN := hide (fun (W : World) (bW : Below Wk.heap.size Wk W) => specLine_any ⟨0, z0, z1, nm, 0, []⟩ (.agg #[.int .i64 0, .int .i64 z0, .int .i64 z1, .string nm, .int .i64 0, .slice none 0 0]) W (unhide HSM2) ⟨_, rfl, ((unhide RK).up bW).rd⟩)
    have HYS := hide (fun (h1 : sayOkB ⟨0, z0, z1, nm, 0, []⟩ = true) (h2 : lineT ⟨0, z0, z1, nm, 0, []⟩ = t) => ln_yes (t := t) (by omega) (by rw [unhide HS]; exact h1) (by rw [unhide HS]; exact h2))
    have HNS := hide (fun (h : sayOkB ⟨0, z0, z1, nm, 0, []⟩ = false ∨ lineT ⟨0, z0, z1, nm, 0, []⟩ ≠ t) => ln_no (t := t) (.inr (by rw [unhide HS]; exact h)))
    have HLO := hide (fun (h : sayOkB ⟨0, z0, z1, nm, 0, []⟩ = true) => show lineOut ⟨0, z0, z1, nm, 0, []⟩ = lineT ⟨0, z0, z1, nm, 0, []⟩ from by unfold lineOut; rw [if_pos h])
    have hgk : gs < Wk.heap.size := (unhide XK).1.1
    clear HSM HSM2 HPB HLS HPS HCE HX01 HZ0 HZ1 HN
    refine (unhide HOK).mono ?_
    rintro e w4 ⟨rfl, b4⟩
    have BK4 := hide b4
    have B4 := hide ((unhide BK).trans (b4.mono (unhide BK).size))
    have X4 := hide ((unhide XK).up b4)
    have X24 := hide ((unhide X2K).up b4)
    clear b4 HOK
    obtain ⟨⟨x0, x1, x2, x3, x4, x5⟩, y0, y1, y2, y3, y4, y5⟩ := (unhide X24).six6
    obtain ⟨⟨k0, k1, k2, k3, k4, k5⟩, -⟩ := (unhide X4).six6
    cases hok : sayOkB ⟨0, z0, z1, nm, 0, []⟩
    · have hN := hide (unhide HNS (.inl hok))
      clear hok HYS HNS HLO HLN HS RK XK X2K BK BK4 X4 X24
      go_wp2_with fail
      refine bodyPost_ret (v := .tuple #[.agg #[.int .i64 0, .int .i64 0, .int .i64 0, .string ⟨#[]⟩, .int .i64 0, .slice none 0 0], .bool false]) (by simp [results, Tryz.results6, go_sem, x0, x1, x2, x3, x4, x5]) rfl ?_
      exact unhide KEY (unhide hN) _ _ (unhide B4) (by (iterate 6 (refine Turn.setCell ?_ (by simp) _ _)); exact Turn.refl _ _)
    · have HOKT := hide hok
      clear hok
      go_wp2_with fail
      refine (unhide HLN _ (unhide BK4)).mono ?_
      rintro e w5 ⟨rfl, b5⟩
      have B5 := hide ((unhide B4).trans (b5.mono (unhide B4).size))
      have X5 := hide ((unhide X4).up b5)
      have X25 := hide ((unhide X24).up b5)
      have RK5 := hide ((unhide RK).up ((unhide BK4).trans (b5.mono (unhide BK4).size)))
      clear b5 HLN BK4 B4 X4 X24 XK X2K BK RK x0 x1 x2 x3 x4 x5 y0 y1 y2 y3 y4 y5 k0 k1 k2 k3 k4 k5
      obtain ⟨⟨x0, x1, x2, x3, x4, x5⟩, y0, y1, y2, y3, y4, y5⟩ := (unhide X25).six6
      obtain ⟨⟨k0, k1, k2, k3, k4, k5⟩, -⟩ := (unhide X5).six6
      have hlo := unhide HLO (unhide HOKT)
      have hsm := str_same10 (lineT ⟨0, z0, z1, nm, 0, []⟩) t
      rw [hlo]
      by_cases hq : lineT ⟨0, z0, z1, nm, 0, []⟩ = t
      · have HY := hide (unhide HYS (unhide HOKT) hq)
        rw [decide_eq_true hq] at hsm
        have HEND := hide (fun (W : World) (tW : Turn [w.heap.size] w5 W) (hvr : VrRow w.heap.size W (.slice none 0 0) ([])) => show RetSf t w (.returned (.tuple #[.agg #[.int .i64 0, .int .i64 z0, .int .i64 z1, .string nm, .int .i64 0, .slice none 0 0], .bool true])) W from by
          obtain ⟨Sv, hSv, hge, -⟩ := hvr.own
          exact ⟨_, Sv, by rw [(unhide HY).1], hide (by rw [(unhide HY).2, unhide HS]; exact ⟨_, rfl, hSv⟩), hide hge, (unhide B5).trans (tW.below (unhide B5).size (by simp))⟩)
        have HRW := hide (fun (W : World) (tW : Turn [w.heap.size] w5 W) => show VrRow w.heap.size W (.slice none 0 0) ([]) from (unhide RK5).keep (fun y hy => tW.block y ((unhide RK5).lt y hy) (by simp; have := hrne y hy; omega)))
        clear hq hlo HYS HNS HLO HOKT HS HY
        generalize lineT ⟨0, z0, z1, nm, 0, []⟩ = LT at *
        go_wp2_with fail
        refine bodyPost_ret (v := .tuple #[.agg #[.int .i64 0, .int .i64 z0, .int .i64 z1, .string nm, .int .i64 0, .slice none 0 0], .bool true]) (by simp [results, Tryz.results6, go_sem, x0, x1, x2, x3, x4, x5]) rfl ?_
        have TT : Turn [w.heap.size] w5 ((((((w5.setCell ⟨w.heap.size, 0, none⟩ (.int .i64 0)).setCell ⟨w.heap.size, 1, none⟩ (.int .i64 z0)).setCell ⟨w.heap.size, 2, none⟩ (.int .i64 z1)).setCell ⟨w.heap.size, 3, none⟩ (.string nm)).setCell ⟨w.heap.size, 4, none⟩ (.int .i64 0)).setCell ⟨w.heap.size, 5, none⟩ (.slice none 0 0)) := by
          (iterate 6 (refine Turn.setCell ?_ (by simp) _ _)); exact Turn.refl _ _
        exact unhide HEND _ TT (unhide HRW _ TT)
      · have hN := hide (unhide HNS (.inr hq))
        rw [decide_eq_false hq] at hsm
        clear hq hlo HYS HNS HLO HOKT HS RK5 X5 X25
        generalize lineT ⟨0, z0, z1, nm, 0, []⟩ = LT at *
        go_wp2_with fail
        refine bodyPost_ret (v := .tuple #[.agg #[.int .i64 0, .int .i64 0, .int .i64 0, .string ⟨#[]⟩, .int .i64 0, .slice none 0 0], .bool false]) (by simp [results, Tryz.results6, go_sem, x0, x1, x2, x3, x4, x5]) rfl ?_
        exact unhide KEY (unhide hN) _ _ (unhide B5) (by (iterate 6 (refine Turn.setCell ?_ (by simp) _ _)); exact Turn.refl _ _)
  have hk : kindN (bytL p2) = 2 := by rw [wt]; decide
  have q1 : ((bytL p2).toList == [97, 115, 107, 115]) = false := by rw [ka]; simp [wa]
  have q2 : ((bytL p2).toList == [103, 111, 110, 101]) = false := by rw [kg]; simp [wg]
  have q3 : ((bytL p2).toList == [116, 101, 108, 108, 115]) = true := by rw [kt]; simp [wt]
  clear wa wg wt ka kg kt hat hag hgt
  have XT := hide (show BoxF (W9.setCell ⟨gs, 0, none⟩ (.int .i64 2)) gs [.int .i64 2, .int .i64 z0, .int .i64 z1, .string (bytL p3), .int .i64 0, .slice none 0 0] from (unhide X9).set 0 _ (by simp))
  have X2T := hide (show BoxF (W9.setCell ⟨gs, 0, none⟩ (.int .i64 2)) w.heap.size zeroC from (unhide X29).far 0 _ hgn)
  have BT := hide (show Below w.heap.size w (W9.setCell ⟨gs, 0, none⟩ (.int .i64 2)) from (unhide B9).setCell (p := ⟨gs, 0, none⟩) hgs _)
  have hgg : g ≠ gs := hggs
  have HCT := hide (show ∀ i (hi : i < ((p0 :: p1 :: p2 :: p3 :: r).map bytL).length), (W9.setCell ⟨gs, 0, none⟩ (.int .i64 2)).cell? ⟨g, i, none⟩ = some (.string ((p0 :: p1 :: p2 :: p3 :: r).map bytL)[i]) from fun i hi => by
    have h1 := ((unhide BC9).cell hg).trans (unhide HCE i hi)
    exact (World.cell?_setCell_other _ ⟨gs, 0, none⟩ ⟨g, i, none⟩ _ (by first | (simp; done) | (simp; omega))).trans h1)
  have hgT : g < (W9.setCell ⟨gs, 0, none⟩ (.int .i64 2)).heap.size := by simp; exact hg9
  match hr : r, HN, HPB, HLS, HPS, HCT with
  | [], HN, HPB, HLS, HPS, HCT =>
    have hN := hide (unhide HPB (by unfold partsB; simp [hk]))
    have hn4 := unhide HN
    have hn6 : ((n : Nat) : Int) < 6 := by simp at hn4; omega
    generalize bytL p3 = nm at *
    generalize bytL p2 = c2 at *
    clear hk hn4 HN HPB HLS HPS HCE HCT HSM HX01 HZ0 HZ1 hr
    obtain ⟨⟨x0, x1, x2, x3, x4, x5⟩, y0, y1, y2, y3, y4, y5⟩ := (unhide X29).six6
    go_wp2_with fail
    clear x0 x1 x2 x3 x4 x5 y0 y1 y2 y3 y4 y5
    obtain ⟨⟨x0, x1, x2, x3, x4, x5⟩, y0, y1, y2, y3, y4, y5⟩ := (unhide X2T).six6
    clear f2 g0 g1 g2 g3 g4 g5 u0 u1 u2 u3 u4 u5
    generalize W9.setCell ⟨gs, 0, none⟩ (.int .i64 2) = Wt at *
    refine bodyPost_ret (v := .tuple #[.agg #[.int .i64 0, .int .i64 0, .int .i64 0, .string ⟨#[]⟩, .int .i64 0, .slice none 0 0], .bool false]) (by simp [results, Tryz.results6, go_sem, x0, x1, x2, x3, x4, x5]) rfl ?_
    exact unhide KEY (unhide hN) _ _ (unhide BT) (by (iterate 6 (refine Turn.setCell ?_ (by simp) _ _)); exact Turn.refl _ _)
  | [p4], HN, HPB, HLS, HPS, HCT =>
    have hN := hide (unhide HPB (by unfold partsB; simp [hk]))
    have hn4 := unhide HN
    have hn6 : ((n : Nat) : Int) < 6 := by simp at hn4; omega
    generalize bytL p3 = nm at *
    generalize bytL p2 = c2 at *
    clear hk hn4 HN HPB HLS HPS HCE HCT HSM HX01 HZ0 HZ1 hr
    obtain ⟨⟨x0, x1, x2, x3, x4, x5⟩, y0, y1, y2, y3, y4, y5⟩ := (unhide X29).six6
    go_wp2_with fail
    clear x0 x1 x2 x3 x4 x5 y0 y1 y2 y3 y4 y5
    obtain ⟨⟨x0, x1, x2, x3, x4, x5⟩, y0, y1, y2, y3, y4, y5⟩ := (unhide X2T).six6
    clear f2 g0 g1 g2 g3 g4 g5 u0 u1 u2 u3 u4 u5
    generalize W9.setCell ⟨gs, 0, none⟩ (.int .i64 2) = Wt at *
    refine bodyPost_ret (v := .tuple #[.agg #[.int .i64 0, .int .i64 0, .int .i64 0, .string ⟨#[]⟩, .int .i64 0, .slice none 0 0], .bool false]) (by simp [results, Tryz.results6, go_sem, x0, x1, x2, x3, x4, x5]) rfl ?_
    exact unhide KEY (unhide hN) _ _ (unhide BT) (by (iterate 6 (refine Turn.setCell ?_ (by simp) _ _)); exact Turn.refl _ _)
  | p4 :: p5 :: r', HN, HPB, HLS, HPS, HCT =>
    have hn4 : n = r'.length + 6 := by have := unhide HN; simp at this; omega
    have hn6 : ¬ ((n : Nat) : Int) < 6 := by omega
    have i4 : (4 : Int) < (n : Int) := by omega
    have i5 : (5 : Int) ≤ (n : Int) := by omega
    have hnv : n ≤ vc := hnvc
    have hnv' : (n : Int) ≤ (vc : Int) := by omega
    have HPB2 := hide (fun (h : numXB p4 = false ∨ ((p5 :: r').all verXB) = false) => unhide HPB (by
      unfold partsB
      simp only [List.length_cons, List.getD_cons_zero, List.getD_cons_succ, List.drop_succ_cons, List.drop_zero, (unhide HX01).1, (unhide HX01).2, hk, decide_true, Bool.not_true, Bool.false_or, Bool.true_and]
      rcases h with h | h <;> simp [h]))
    have HLS2 := hide (show looseS t.data.toList = ⟨2, z0, z1, bytL p3, looseV p4, (p5 :: r').map looseVr⟩ from by
      rw [unhide HLS]
      unfold looseW
      rw [if_neg (by simp), if_pos ⟨by simp only [List.getD_cons_zero, List.getD_cons_succ]; exact hk, by simp⟩]
      simp only [List.getD_cons_zero, List.getD_cons_succ, List.drop_succ_cons, List.drop_zero]
      rw [unhide HZ0, unhide HZ1])
    have hpl : ∀ p ∈ p0 :: p1 :: p2 :: p3 :: p4 :: p5 :: r', p.length ≤ 400 := unhide HPS
    have hN4 := hide (fun (W : World) => l10Num_any (bytL p4) W (by have := hpl p4 (by simp); simp [bytL, ByteArray.size]; omega))
    rw [bytL_list] at hN4
    have hc4 := unhide HCT 4 (by simp)
    simp only [List.map_cons, List.getElem_cons_zero, List.getElem_cons_succ] at hc4
    have HVS := hide (fun (W : World) (bW : Below (W9.setCell ⟨gs, 0, none⟩ (.int .i64 2)).heap.size (W9.setCell ⟨gs, 0, none⟩ (.int .i64 2)) W) => l10Vers_any ((p5 :: r').map bytL) (some ⟨g, 5, none⟩) (n - 5) (vc - 5) W (by simp; omega) (by simp; omega) (fun q hq => by
      obtain ⟨p, hp, rfl⟩ := List.mem_map.1 hq
      have := hpl p (by simp only [List.mem_cons] at hp ⊢; rcases hp with hp | hp <;> simp [hp])
      simp [bytL, ByteArray.size]; omega) (.inr ⟨g, 5, rfl, Nat.lt_of_lt_of_le hgT bW.size, fun i hi => by
        have hi2 : i < (p5 :: r').length := by simpa using hi
        have h1 := unhide HCT (i + 5) (by simp at hi2 ⊢; omega)
        rw [show 5 + i = i + 5 from by omega]
        refine (bW.cell hgT).trans (h1.trans ?_)
        simp only [List.map_cons, List.getElem_cons_succ]⟩))
    have HVXX := hide (show verXs ((p5 :: r').map bytL) = (p5 :: r').all verXB from by
      unfold verXs
      rw [List.all_map]
      first | (congr 1; done) | (congr 1; funext p; simp [bytL_list]))
    have HVVV := hide (show verVs ((p5 :: r').map bytL) = (p5 :: r').map looseVr from by
      unfold verVs
      rw [List.map_map]
      first | (congr 1; done) | (congr 1; funext p; simp [bytL_list]))
    generalize hq1 : (p5 :: r').map bytL = ts5 at *
    generalize hq2 : (p5 :: r').map looseVr = st at *
    generalize hq3 : (p5 :: r').all verXB = vb at *
    clear hq1 hq2 hq3 hn4 hpl hk hr HN HPB HLS HPS HCE HCT
    generalize bytL p3 = nm at *
    generalize bytL p2 = c2 at *
    go_wp2_with fail
    clear f2 g0 g1 g2 g3 g4 g5 u0 u1 u2 u3 u4 u5 X9 X29 B9 BC9
    generalize W9.setCell ⟨gs, 0, none⟩ (.int .i64 2) = Wt at *
    refine (unhide hN4 _).mono ?_
    rintro e w4 ⟨rfl, b4⟩
    have BT4 := hide b4
    have B4 := hide ((unhide BT).trans (b4.mono (unhide BT).size))
    have X4 := hide ((unhide XT).up b4)
    have X24 := hide ((unhide X2T).up b4)
    have hvc : (5 : Nat) ≤ vc := by omega
    clear b4 hN4 hc4 XT X2T BT
    cases hx4 : numXB p4
    · have hN := hide (unhide HPB2 (.inl hx4))
      obtain ⟨⟨x0, x1, x2, x3, x4, x5⟩, y0, y1, y2, y3, y4, y5⟩ := (unhide X24).six6
      clear hx4
      generalize numX p4 = z4 at *
      go_wp2_with fail
      refine (unhide HVS _ (unhide BT4)).mono ?_
      rintro e w5 ⟨oa, on, oc, rfl, -, b5⟩
      have B5 := hide ((unhide B4).trans (b5.mono (unhide B4).size))
      have X25 := hide ((unhide X24).up b5)
      generalize verXs ts5 = vx at *
      clear b5 HPB2 HLS2 HVXX HVVV HVS BT4 B4 X4 X24 HSM HX01 HZ0 HZ1 x0 x1 x2 x3 x4 x5 y0 y1 y2 y3 y4 y5
      obtain ⟨⟨x0, x1, x2, x3, x4, x5⟩, y0, y1, y2, y3, y4, y5⟩ := (unhide X25).six6
      go_wp2_with fail
      refine bodyPost_ret (v := .tuple #[.agg #[.int .i64 0, .int .i64 0, .int .i64 0, .string ⟨#[]⟩, .int .i64 0, .slice none 0 0], .bool false]) (by simp [results, Tryz.results6, go_sem, x0, x1, x2, x3, x4, x5]) rfl ?_
      exact unhide KEY (unhide hN) _ _ (unhide B5) (by (iterate 6 (refine Turn.setCell ?_ (by simp) _ _)); exact Turn.refl _ _)
    have HX4 := hide hx4
    have HZ4 := hide (show numX p4 = looseV p4 from by unfold numX; rw [hx4]; rfl)
    clear hx4
    generalize numX p4 = z4 at *
    go_wp2_with fail
    refine (unhide HVS _ (unhide BT4)).mono ?_
    rintro e w5 ⟨oa, on, oc, rfl, HVR, b5⟩
    have B5 := hide ((unhide B4).trans (b5.mono (unhide B4).size))
    have X5 := hide ((unhide X4).up b5)
    have X25 := hide ((unhide X24).up b5)
    have hw45 : w.heap.size ≤ w4.heap.size := (unhide B4).size
    have hgs4 : gs < w4.heap.size := (unhide X4).1.1
    clear b5 B4 X4 X24 HVS BT4
    obtain ⟨⟨x0, x1, x2, x3, x4, x5⟩, y0, y1, y2, y3, y4, y5⟩ := (unhide X25).six6
    cases hx5 : verXs ts5
    · have hN := hide (unhide HPB2 (.inr (by rw [← unhide HVXX]; exact hx5)))
      clear hx5 HPB2 HLS2 HVXX HVVV HSM HX01 HZ0 HZ1 HVR X5 X25
      go_wp2_with fail
      refine bodyPost_ret (v := .tuple #[.agg #[.int .i64 0, .int .i64 0, .int .i64 0, .string ⟨#[]⟩, .int .i64 0, .slice none 0 0], .bool false]) (by simp [results, Tryz.results6, go_sem, x0, x1, x2, x3, x4, x5]) rfl ?_
      exact unhide KEY (unhide hN) _ _ (unhide B5) (by (iterate 6 (refine Turn.setCell ?_ (by simp) _ _)); exact Turn.refl _ _)
    have RK0 := hide (unhide HVR hx5)
    clear hx5 HVR
    rw [unhide HVVV] at RK0
    obtain ⟨qa, qc, hqe⟩ := (unhide RK0).slice
    simp only [Value.slice.injEq] at hqe
    obtain ⟨rfl, rfl, rfl⟩ := hqe
    have HS := hide (show looseS t.data.toList = ⟨2, z0, z1, nm, z4, st⟩ from by rw [unhide HLS2, unhide HZ4])
    clear HLS2 HPB2 HVXX HVVV HX4 HZ4
    obtain ⟨⟨k0, k1, k2, k3, k4, k5⟩, l0, l1, l2, l3, l4, l5⟩ := (unhide X5).six6
    go_wp2_with fail
    have hgsl : (Value.slice oa st.length oc).ownBlock = some gs → False := fun h => by have := (unhide RK0).ge _ h; omega
    have TK : Turn [gs] w5 ((w5.setCell ⟨gs, 4, none⟩ (.int .i64 z4)).setCell ⟨gs, 5, none⟩ (.slice oa st.length oc)) := ((Turn.refl _ _).setCell (by simp) _ _).setCell (by simp) _ _
    have XK := hide (show BoxF ((w5.setCell ⟨gs, 4, none⟩ (.int .i64 z4)).setCell ⟨gs, 5, none⟩ (.slice oa st.length oc)) gs [.int .i64 2, .int .i64 z0, .int .i64 z1, .string nm, .int .i64 z4, .slice oa st.length oc] from ((unhide X5).set 4 (.int .i64 z4) (by simp)).set 5 (.slice oa st.length oc) (by simp))
    have X2K := hide ((unhide X25).turn TK (by simpa using hgn))
    have BK := hide ((unhide B5).trans (TK.below (unhide B5).size (by simp; exact hgs)))
    have RK := hide (show VrRow w.heap.size ((w5.setCell ⟨gs, 4, none⟩ (.int .i64 z4)).setCell ⟨gs, 5, none⟩ (.slice oa st.length oc)) (.slice oa st.length oc) st from VrRow.lower ((unhide RK0).keep (fun y hy => TK.block y ((unhide RK0).lt y hy) (by simp; intro e; exact hgsl (by rw [← e]; exact hy)))) hw45)
    have hrne : ∀ y, (Value.slice oa st.length oc).ownBlock = some y → y ≠ w.heap.size := fun y hy => by have := (unhide RK0).ge y hy; omega
    clear TK X5 X25 B5 RK0 k0 k1 k2 k3 k4 k5 l0 l1 l2 l3 l4 l5 x0 x1 x2 x3 x4 x5 y0 y1 y2 y3 y4 y5
    generalize (w5.setCell ⟨gs, 4, none⟩ (.int .i64 z4)).setCell ⟨gs, 5, none⟩ (.slice oa st.length oc) = Wk at *
    have HSM2 := hide (show SmallSay ⟨2, z0, z1, nm, z4, st⟩ from by rw [← unhide HS]; exact unhide HSM)
    have HOK := hide (specSayOk_any ⟨2, z0, z1, nm, z4, st⟩ (.agg #[.int .i64 2, .int .i64 z0, .int .i64 z1, .string nm, .int .i64 z4, .slice oa st.length oc]) Wk (unhide HSM2) ⟨_, rfl, (unhide RK).rd⟩)
    have HLN := hide (fun (W : World) (bW : Below Wk.heap.size Wk W) => specLine_any ⟨2, z0, z1, nm, z4, st⟩ (.agg #[.int .i64 2, .int .i64 z0, .int .i64 z1, .string nm, .int .i64 z4, .slice oa st.length oc]) W (unhide HSM2) ⟨_, rfl, ((unhide RK).up bW).rd⟩)
    have HYS := hide (fun (h1 : sayOkB ⟨2, z0, z1, nm, z4, st⟩ = true) (h2 : lineT ⟨2, z0, z1, nm, z4, st⟩ = t) => ln_yes (t := t) (by omega) (by rw [unhide HS]; exact h1) (by rw [unhide HS]; exact h2))
    have HNS := hide (fun (h : sayOkB ⟨2, z0, z1, nm, z4, st⟩ = false ∨ lineT ⟨2, z0, z1, nm, z4, st⟩ ≠ t) => ln_no (t := t) (.inr (by rw [unhide HS]; exact h)))
    have HLO := hide (fun (h : sayOkB ⟨2, z0, z1, nm, z4, st⟩ = true) => show lineOut ⟨2, z0, z1, nm, z4, st⟩ = lineT ⟨2, z0, z1, nm, z4, st⟩ from by unfold lineOut; rw [if_pos h])
    have hgk : gs < Wk.heap.size := (unhide XK).1.1
    clear HSM HSM2 HX01 HZ0 HZ1
    refine (unhide HOK).mono ?_
    rintro e w4 ⟨rfl, b4⟩
    have BK4 := hide b4
    have B4 := hide ((unhide BK).trans (b4.mono (unhide BK).size))
    have X4 := hide ((unhide XK).up b4)
    have X24 := hide ((unhide X2K).up b4)
    clear b4 HOK
    obtain ⟨⟨x0, x1, x2, x3, x4, x5⟩, y0, y1, y2, y3, y4, y5⟩ := (unhide X24).six6
    obtain ⟨⟨k0, k1, k2, k3, k4, k5⟩, -⟩ := (unhide X4).six6
    cases hok : sayOkB ⟨2, z0, z1, nm, z4, st⟩
    · have hN := hide (unhide HNS (.inl hok))
      clear hok HYS HNS HLO HLN HS RK XK X2K BK BK4 X4 X24
      go_wp2_with fail
      refine bodyPost_ret (v := .tuple #[.agg #[.int .i64 0, .int .i64 0, .int .i64 0, .string ⟨#[]⟩, .int .i64 0, .slice none 0 0], .bool false]) (by simp [results, Tryz.results6, go_sem, x0, x1, x2, x3, x4, x5]) rfl ?_
      exact unhide KEY (unhide hN) _ _ (unhide B4) (by (iterate 6 (refine Turn.setCell ?_ (by simp) _ _)); exact Turn.refl _ _)
    · have HOKT := hide hok
      clear hok
      go_wp2_with fail
      refine (unhide HLN _ (unhide BK4)).mono ?_
      rintro e w5 ⟨rfl, b5⟩
      have B5 := hide ((unhide B4).trans (b5.mono (unhide B4).size))
      have X5 := hide ((unhide X4).up b5)
      have X25 := hide ((unhide X24).up b5)
      have RK5 := hide ((unhide RK).up ((unhide BK4).trans (b5.mono (unhide BK4).size)))
      clear b5 HLN BK4 B4 X4 X24 XK X2K BK RK x0 x1 x2 x3 x4 x5 y0 y1 y2 y3 y4 y5 k0 k1 k2 k3 k4 k5
      obtain ⟨⟨x0, x1, x2, x3, x4, x5⟩, y0, y1, y2, y3, y4, y5⟩ := (unhide X25).six6
      obtain ⟨⟨k0, k1, k2, k3, k4, k5⟩, -⟩ := (unhide X5).six6
      have hlo := unhide HLO (unhide HOKT)
      have hsm := str_same10 (lineT ⟨2, z0, z1, nm, z4, st⟩) t
      rw [hlo]
      by_cases hq : lineT ⟨2, z0, z1, nm, z4, st⟩ = t
      · have HY := hide (unhide HYS (unhide HOKT) hq)
        rw [decide_eq_true hq] at hsm
        have HEND := hide (fun (W : World) (tW : Turn [w.heap.size] w5 W) (hvr : VrRow w.heap.size W (.slice oa st.length oc) (st)) => show RetSf t w (.returned (.tuple #[.agg #[.int .i64 2, .int .i64 z0, .int .i64 z1, .string nm, .int .i64 z4, .slice oa st.length oc], .bool true])) W from by
          obtain ⟨Sv, hSv, hge, -⟩ := hvr.own
          exact ⟨_, Sv, by rw [(unhide HY).1], hide (by rw [(unhide HY).2, unhide HS]; exact ⟨_, rfl, hSv⟩), hide hge, (unhide B5).trans (tW.below (unhide B5).size (by simp))⟩)
        have HRW := hide (fun (W : World) (tW : Turn [w.heap.size] w5 W) => show VrRow w.heap.size W (.slice oa st.length oc) (st) from (unhide RK5).keep (fun y hy => tW.block y ((unhide RK5).lt y hy) (by simp; have := hrne y hy; omega)))
        clear hq hlo HYS HNS HLO HOKT HS HY
        generalize lineT ⟨2, z0, z1, nm, z4, st⟩ = LT at *
        go_wp2_with fail
        refine bodyPost_ret (v := .tuple #[.agg #[.int .i64 2, .int .i64 z0, .int .i64 z1, .string nm, .int .i64 z4, .slice oa st.length oc], .bool true]) (by simp [results, Tryz.results6, go_sem, x0, x1, x2, x3, x4, x5]) rfl ?_
        have TT : Turn [w.heap.size] w5 ((((((w5.setCell ⟨w.heap.size, 0, none⟩ (.int .i64 2)).setCell ⟨w.heap.size, 1, none⟩ (.int .i64 z0)).setCell ⟨w.heap.size, 2, none⟩ (.int .i64 z1)).setCell ⟨w.heap.size, 3, none⟩ (.string nm)).setCell ⟨w.heap.size, 4, none⟩ (.int .i64 z4)).setCell ⟨w.heap.size, 5, none⟩ (.slice oa st.length oc)) := by
          (iterate 6 (refine Turn.setCell ?_ (by simp) _ _)); exact Turn.refl _ _
        exact unhide HEND _ TT (unhide HRW _ TT)
      · have hN := hide (unhide HNS (.inr hq))
        rw [decide_eq_false hq] at hsm
        clear hq hlo HYS HNS HLO HOKT HS RK5 X5 X25
        generalize lineT ⟨2, z0, z1, nm, z4, st⟩ = LT at *
        go_wp2_with fail
        refine bodyPost_ret (v := .tuple #[.agg #[.int .i64 0, .int .i64 0, .int .i64 0, .string ⟨#[]⟩, .int .i64 0, .slice none 0 0], .bool false]) (by simp [results, Tryz.results6, go_sem, x0, x1, x2, x3, x4, x5]) rfl ?_
        exact unhide KEY (unhide hN) _ _ (unhide B5) (by (iterate 6 (refine Turn.setCell ?_ (by simp) _ _)); exact Turn.refl _ _)
end Go.Proofs.YtiebfcefmdiajaaGreatDoor
