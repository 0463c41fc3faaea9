/-
  The program reads a line, loosely.
-/
import Derived.Test.YtiebfcefmdiajaaGreatDoorMerged48
import Derived.Test.YtiebfcefmdiajaaGreatDoorLexI
import Derived.Test.YtiebfcefmdiajaaGreatDoorMerged14
import Derived.Test.YtiebfcefmdiajaaGreatDoorLineMath
import Derived.Deep.DeepCutAuto
import Derived.Deep.CutBlock
set_option linter.unusedVariables false
namespace Go.Proofs.YtiebfcefmdiajaaGreatDoor
open Go.RowKit Go.Maps Go.Deep

def sayC (k a b : Int) (nm : ByteArray) (v : Int) (row : Value) : List Value := [.int .i64 k, .int .i64 a, .int .i64 b, .string nm, .int .i64 v, row]
def RetLo (S : SayV) (w : World) (e : Ending) (w' : World) : Prop := ∃ oa on oc, e = .returned (.agg #[.int .i64 S.kind, .int .i64 S.src, .int .i64 S.dst, .string S.name, .int .i64 S.val, .slice oa on oc]) ∧ Hid (VrRow w.heap.size w' (.slice oa on oc) S.stamp) ∧ Below w.heap.size w w'
theorem four_at {l : List (List UInt8)} (h : 4 ≤ l.length) : ∃ a b c d r, l = a :: b :: c :: d :: r := by
  match l, h with
  | a :: b :: c :: d :: r, _ => exact ⟨a, b, c, d, r, rfl⟩
theorem held_alloc {P : Prop} {w X : World} (h : P ∧ Hid (Below w.heap.size w X)) (o : Obj) : Below w.heap.size w (X.alloc o) := (unhide h.2).alloc (unhide h.2).size o
theorem held_six {P : Prop} {B : Nat} {w X X0 : World} (h : P ∧ Hid (Below w.heap.size w X)) (h0 : Hid (Below B w X0)) {a0 a1 a2 a3 a4 a5 : Value} : Below w.heap.size w ((((((X.setCell ⟨X0.heap.size, 0, none⟩ a0).setCell ⟨X0.heap.size, 1, none⟩ a1).setCell ⟨X0.heap.size, 2, none⟩ a2).setCell ⟨X0.heap.size, 3, none⟩ a3).setCell ⟨X0.heap.size, 4, none⟩ a4).setCell ⟨X0.heap.size, 5, none⟩ a5) :=
  ((((((unhide h.2).setCell (p := ⟨X0.heap.size, 0, none⟩) (unhide h0).size _).setCell (p := ⟨X0.heap.size, 1, none⟩) (unhide h0).size _).setCell (p := ⟨X0.heap.size, 2, none⟩) (unhide h0).size _).setCell (p := ⟨X0.heap.size, 3, none⟩) (unhide h0).size _).setCell (p := ⟨X0.heap.size, 4, none⟩) (unhide h0).size _).setCell (p := ⟨X0.heap.size, 5, none⟩) (unhide h0).size _
theorem bel_alloc {w X : World} (h : Hid (Below w.heap.size w X)) (o : Obj) : Below w.heap.size w (X.alloc o) := (unhide h).alloc (unhide h).size o
theorem BoxF.drw {w : World} {g : Nat} {xs : List Value} (h : BoxF w g xs) : BoxF w.drew g xs := h
theorem held_bel {P : Prop} {w X : World} (h : P ∧ Hid (Below w.heap.size w X)) : Below w.heap.size w X := unhide h.2
theorem held_step {P : Prop} {w X X2 : World} (h : P ∧ Hid (Below w.heap.size w X)) (b : Below X.heap.size X X2) : Below w.heap.size w X2 := (unhide h.2).trans (b.mono (unhide h.2).size)
theorem BoxF.put6 {w : World} {q : Nat} {a0 a1 a2 a3 a4 a5 b0 b1 b2 b3 b4 b5 : Value} (h : BoxF w q [a0, a1, a2, a3, a4, a5]) : BoxF ((((((w.setCell ⟨q, 0, none⟩ b0).setCell ⟨q, 1, none⟩ b1).setCell ⟨q, 2, none⟩ b2).setCell ⟨q, 3, none⟩ b3).setCell ⟨q, 4, none⟩ b4).setCell ⟨q, 5, none⟩ b5) q [b0, b1, b2, b3, b4, b5] := by
  have := (((((h.set 0 b0 (by simp)).set 1 b1 (by simp)).set 2 b2 (by simp)).set 3 b3 (by simp)).set 4 b4 (by simp)).set 5 b5 (by simp)
  simpa only [List.set] using this
set_option maxRecDepth 20000 in
set_option maxHeartbeats 12800000 in
theorem looseSay_any (t : ByteArray) (w : World) (lb kb : Nat) (hs : t.size ≤ 400) (hx : LexNew w lb kb) (hE : ErrIn w) :
    Calls Tryz.prog 25 #[.pointer (some ⟨lb, 0, none⟩), .string t] w fun e w' => RetLo (looseS t.data.toList) w e w' := by
  have HSP := hide (fun (W : World) => show Calls Tryz.prog 47 #[.string t, .int .i32 32] W _ from cutAt_any t 32 W (by omega) (by decide))
  have X0 := hide (boxF_new w (sayC 0 0 0 ⟨#[]⟩ 0 (.slice none 0 0)) 24)
  have A0 := hide ((Below.refl _ w).alloc (Nat.le_refl _) (.cells (sayC 0 0 0 ⟨#[]⟩ 0 (.slice none 0 0)).toArray 24))
  have HLS := hide (show looseS t.data.toList = looseW (cutB 32 t.data.toList) from rfl)
  have HCL := hide (cut_lenL 32 t.data.toList)
  have htl : t.data.toList.length ≤ 400 := by simpa using hs
  have HLX := hide hx
  have HER := hide hE
  have hlbw : lb < w.heap.size := hx.box.1.1
  have hkbw : kb < w.heap.size := hx.kinds.lt
  have l0 : w.cell? ⟨lb, 0, none⟩ = some (.map (some kb)) := hx.box.1.at 0 _ rfl
  clear hx hE
  generalize looseS t.data.toList = S at *
  go_enter Tryz.func25, Tryz.ntmps25
  go_wp2_with fail
  refine (unhide HSP _).mono ?_
  rintro e w1 ⟨v, rfl, T1, b1⟩
  have B1 := hide ((unhide A0).trans (b1.mono (unhide A0).size))
  have X1 := hide ((unhide X0).up b1)
  obtain ⟨va, vc, rfl⟩ := (unhide T1).slice
  rw [List.length_map] at T1 ⊢
  have hwz : w.heap.size < w1.heap.size := (unhide X1).1.1
  have HLX1 := hide (show KindsAt w1 kb from (unhide HLX).kinds.turn ((Turn.of_below (S := []) (unhide B1))) (by simp))
  have l1 := ((unhide B1).cell (p := ⟨lb, 0, none⟩) hlbw).trans l0
  have HE1 := hide ((unhide HER).below (unhide B1) (Nat.le_refl _))
  clear b1 HSP X0 A0 HLX HER l0
  obtain ⟨⟨x0, x1, x2, x3, x4, x5⟩, y0, y1, y2, y3, y4, y5⟩ := (unhide X1).six6
  by_cases h4 : 4 ≤ (cutB 32 t.data.toList).length
  rotate_left
  · have HS := hide (show S = ⟨0, 0, 0, ⟨#[]⟩, 0, []⟩ from by rw [unhide HLS]; unfold looseW; rw [if_pos (by omega)])
    have h4' : ((cutB 32 t.data.toList).length : Int) < 4 := by omega
    clear h4 T1 X1 HLS HCL HLX1 HE1
    generalize (cutB 32 t.data.toList).length = n at *
    go_wp2_with fail
    refine bodyPost_ret (v := .agg #[.int .i64 0, .int .i64 0, .int .i64 0, .string ⟨#[]⟩, .int .i64 0, .slice none 0 0]) (by simp [results, Tryz.results25, go_sem, x0, x1, x2, x3, x4, x5]) rfl ?_
    refine ⟨none, 0, 0, by rw [unhide HS], hide (by rw [unhide HS]; exact VrRow.nil _ _), ?_⟩
    (iterate 6 (refine Below.setCell ?_ (by exact Nat.le_refl _) _))
    exact unhide B1
  obtain ⟨p0, p1, p2, p3, r, hc⟩ := four_at h4
  rw [hc] at T1 HCL HLS ⊢
  have hps : ∀ p ∈ p0 :: p1 :: p2 :: p3 :: r, p.length ≤ 400 := fun p hp => by have := (unhide HCL).2 p hp; omega
  have hrl : (p0 :: p1 :: p2 :: p3 :: r).length ≤ 401 := by have := (unhide HCL).1; omega
  obtain ⟨-, g, rfl, hg, hcell⟩ := (unhide T1).at (by simp)
  have hgw : w.heap.size < g := by
    have h1 := (unhide T1).ge g rfl
    simp at h1
    omega
  have HCE := hide hcell
  have hnvc : (p0 :: p1 :: p2 :: p3 :: r).length ≤ vc := by
    have h1 := (unhide T1).2
    simp only [List.length_map] at h1
    rcases h1 with ⟨e, -⟩ | ⟨g', cap, cur, e, -, -, hnc, -⟩
    · simp at e
    · simp only [Value.slice.injEq] at e
      rw [e.2.2]
      simpa using hnc
  have c0 := hcell 0 (by simp)
  have c1 := hcell 1 (by simp)
  have c2 := hcell 2 (by simp)
  have c3 := hcell 3 (by simp)
  simp only [List.map_cons, List.getElem_cons_zero, List.getElem_cons_succ] at c0 c1 c2 c3
  obtain ⟨lv, HLV⟩ : ∃ f : ByteArray → Int, Hid (∀ s : ByteArray, f s = looseV s.data.toList) := ⟨fun s => looseV s.data.toList, hide fun _ => rfl⟩
  have hNN := hide (fun (s : ByteArray) (h : s = bytL p0 ∨ s = bytL p1) (W : World) (hW : ErrIn W) => show Calls Tryz.prog 48 #[.string s] W (fun e w' => e = .returned (.int .i64 (lv s)) ∧ Below W.heap.size W w') from by
    have h0 := hps p0 (by simp)
    have h1 := hps p1 (by simp)
    have hsz : s.size ≤ 1000000 := by rcases h with rfl | rfl <;> simp [bytL, ByteArray.size] <;> omega
    rw [unhide HLV s]
    exact loose_any s W hsz hW)
  have HLK := hide (fun (W : World) (bW : Below w1.heap.size w1 W) => kinds_look ((unhide HLX1).turn (Turn.of_below (S := []) bW) (by simp)) (bytL p2) (by have := hps p2 (by simp); simp [bytL, ByteArray.size, maxLen]; omega))
  have HPS := hide hps
  have hlen : (p0 :: p1 :: p2 :: p3 :: r).length = r.length + 4 := by simp
  rw [hlen]
  rw [hlen] at hrl hnvc
  clear hcell hps HCL h4 hc T1 htl hlen
  have h4' : ¬ (((r.length + 4 : Nat) : Int) < 4) := by omega
  have i0 : (0 : Int) < ((r.length + 4 : Nat) : Int) := by omega
  have i1 : (1 : Int) < ((r.length + 4 : Nat) : Int) := by omega
  have i2 : (2 : Int) < ((r.length + 4 : Nat) : Int) := by omega
  have i3 : (3 : Int) < ((r.length + 4 : Nat) : Int) := by omega
  generalize hn : r.length + 4 = n at *
  have HN := hide hn
  have j0 : 0 < n := by omega
  have HKN := hide (kindN_fit (bytL p2))
  obtain ⟨kn, HKK⟩ : ∃ z, Hid (z = kindN (bytL p2)) := ⟨_, hide rfl⟩
  rw [← unhide HKK] at HLK
  clear hn
  have hw1l : lb < w1.heap.size := by omega
  have KP := hide (show ∀ X : World, Below w1.heap.size w1 X → (fun X : World => (X.cell? ⟨lb, 0, none⟩ = some (.map (some kb)) ∧ X.cell? ⟨g, 0, none⟩ = some (.string (bytL p0)) ∧ X.cell? ⟨g, 1, none⟩ = some (.string (bytL p1)) ∧ X.cell? ⟨g, 2, none⟩ = some (.string (bytL p2)) ∧ X.cell? ⟨g, 3, none⟩ = some (.string (bytL p3)) ∧ (Instr.lookup 72 (.map (some kb)) (.string (bytL p2)) false).run Tryz.prog X = .ok (.int .i64 kn) X) ∧ Hid (Below w1.heap.size w1 X)) X from fun X b =>
    ⟨⟨(b.cell hw1l).trans l1, (b.cell hg).trans c0, (b.cell hg).trans c1, (b.cell hg).trans c2, (b.cell hg).trans c3, unhide HLK X b⟩, hide b⟩)
  have BD := hide ((Below.refl w1.heap.size w1).drew)
  have BR := hide (Below.refl w1.heap.size w1)
  go_upto_region 4 with fail
  go_cut [6] (fun s6 wx => ∃ q, s6 = .pointer (some ⟨q, 0, none⟩) ∧ Hid (w1.heap.size ≤ q) ∧ Hid (BoxF wx q [.int .i64 kn, .int .i64 (lv (bytL p0)), .int .i64 (lv (bytL p1)), .string (bytL p3), .int .i64 0, .slice none 0 0]) ∧ Hid (Below w1.heap.size w1 wx))
  case first =>
    generalize bytL p0 = q0 at *
    generalize bytL p1 = q1 at *
    generalize bytL p2 = q2 at *
    generalize bytL p3 = q3 at *
    go_region_held3 (fun X : World => (X.cell? ⟨lb, 0, none⟩ = some (.map (some kb)) ∧ X.cell? ⟨g, 0, none⟩ = some (.string q0) ∧ X.cell? ⟨g, 1, none⟩ = some (.string q1) ∧ X.cell? ⟨g, 2, none⟩ = some (.string q2) ∧ X.cell? ⟨g, 3, none⟩ = some (.string q3) ∧ (Instr.lookup 72 (.map (some kb)) (.string q2) false).run Tryz.prog X = .ok (.int .i64 kn) X) ∧ Hid (Below w1.heap.size w1 X))
      ((refine unhide KP _ ?_; with_reducible first | exact unhide (by assumption) | exact held_alloc (by assumption) _ | exact bel_alloc (by assumption) _ | exact Below.drew (bel_alloc (by assumption) _) | exact held_six (by assumption) (by assumption)))
      (first
        | (go_at_call 48; refine (unhide hNN _ (by first | exact .inl rfl | exact .inr rfl) _ ((unhide HE1).below (held_bel (by assumption)) (Nat.le_refl _))).mono ?_; rintro e w2 ⟨rfl, b2⟩; have BB := hide (held_step (by assumption) b2); first | (have XX := hide (BoxF.up (boxF_new _ (sayC 0 0 0 ⟨#[]⟩ 0 (.slice none 0 0)) 24) b2); obtain ⟨⟨e0, e1, e2, e3, e4, e5⟩, u0, u1, u2, u3, u4, u5⟩ := (unhide XX).six6; clear b2) | (have XX := hide (BoxF.up (BoxF.drw (boxF_new _ (sayC 0 0 0 ⟨#[]⟩ 0 (.slice none 0 0)) 24)) b2); obtain ⟨⟨e0, e1, e2, e3, e4, e5⟩, u0, u1, u2, u3, u4, u5⟩ := (unhide XX).six6; clear b2) | (have XX := hide (BoxF.up (unhide (by assumption)) b2); obtain ⟨⟨e0, e1, e2, e3, e4, e5⟩, u0, u1, u2, u3, u4, u5⟩ := (unhide XX).six6; clear b2) | clear b2)
        | fail)
    all_goals
      go_wp2_with fail
      go_meet
      refine ⟨_, rfl, hide ?_, hide ?_, hide ?_⟩
      · first
        | exact Nat.le_refl _
        | exact (unhide (by assumption : Hid (Below w1.heap.size w1 _))).size
      · first
        | (with_reducible exact boxF_new _ [.int .i64 kn, .int .i64 (lv q0), .int .i64 (lv q1), .string q3, .int .i64 0, .slice none 0 0] 24)
        | (with_reducible exact BoxF.put6 (unhide (by assumption)))
        | (exact BoxF.put6 (unhide (by assumption)))
      · with_reducible exact held_bel (by assumption)
  case rest =>
  obtain ⟨q, rfl, HQ, HX, HB⟩ := hcut
  generalize wc = W2 at *
  have X2 := hide ((unhide X1).up (unhide HB))
  have B2 := hide ((unhide B1).trans ((unhide HB).mono (unhide B1).size))
  have hqw : w.heap.size < q := by have := unhide HQ; omega
  have hq2 : q < W2.heap.size := (unhide HX).1.1
  have hgq : g < q := by have := unhide HQ; omega
  have hg2 : g < W2.heap.size := by omega
  have HE2 := hide ((unhide HE1).below (unhide HB) (Nat.le_refl _))
  generalize hnm : bytL p3 = nm at *
  have HNM := hide hnm
  clear hnm
  generalize hz0 : lv (bytL p0) = z0 at *
  generalize hz1 : lv (bytL p1) = z1 at *
  have HZ := hide (show z0 = looseV p0 ∧ z1 = looseV p1 from ⟨by rw [← hz0, unhide HLV, bytL_list], by rw [← hz1, unhide HLV, bytL_list]⟩)
  clear hz0 hz1 x0 x1 x2 x3 x4 x5 y0 y1 y2 y3 y4 y5 KP BD BR hNN HLK HLX1 c0 c1 c2 c3 l1
  obtain ⟨⟨x0, x1, x2, x3, x4, x5⟩, y0, y1, y2, y3, y4, y5⟩ := (unhide X2).six6
  obtain ⟨⟨k0, k1, k2, k3, k4, k5⟩, f0, f1, f2, f3, f4, f5⟩ := (unhide HX).six6
  have BARE := hide (fun (h : S = ⟨kn, z0, z1, nm, 0, []⟩) (W : World) (bW : Below w.heap.size w W) => show RetLo S w (.returned (.agg #[.int .i64 kn, .int .i64 z0, .int .i64 z1, .string nm, .int .i64 0, .slice none 0 0])) W from ⟨none, 0, 0, by rw [h], hide (by rw [h]; exact VrRow.nil _ _), bW⟩)
  by_cases hk2 : kn = 2
  rotate_left
  · have HS := hide (show S = ⟨kn, z0, z1, nm, 0, []⟩ from by
      rw [unhide HLS]
      unfold looseW
      rw [if_neg (by simp), if_neg (by simp only [List.getD_cons_zero, List.getD_cons_succ]; rw [← unhide HKK]; exact fun h => hk2 h.1)]
      simp only [List.getD_cons_zero, List.getD_cons_succ]
      rw [← unhide HKK, (unhide HZ).1, (unhide HZ).2, unhide HNM])
    have hkb : (kn == 2) = false := by simpa using hk2
    clear hk2 X2 HX HLV HCE HLS HPS HKN HKK
    go_wp2_with fail
    refine bodyPost_ret (v := .agg #[.int .i64 kn, .int .i64 z0, .int .i64 z1, .string nm, .int .i64 0, .slice none 0 0]) (by simp [results, Tryz.results25, go_sem, x0, x1, x2, x3, x4, x5]) rfl ?_
    refine unhide BARE (unhide HS) _ ?_
    (iterate 6 (refine Below.setCell ?_ (by exact Nat.le_refl _) _))
    exact unhide B2
  obtain rfl := hk2
  by_cases hr : r = []
  · obtain rfl := hr
    obtain rfl : 4 = n := unhide HN
    have HS := hide (show S = ⟨2, z0, z1, nm, 0, []⟩ from by
      rw [unhide HLS]
      unfold looseW
      rw [if_neg (by simp), if_neg (by simp)]
      simp only [List.getD_cons_zero, List.getD_cons_succ]
      rw [← unhide HKK, (unhide HZ).1, (unhide HZ).2, unhide HNM])
    clear X2 HX HLV HCE HLS HPS HKN HKK
    go_wp2_with fail
    refine bodyPost_ret (v := .agg #[.int .i64 2, .int .i64 z0, .int .i64 z1, .string nm, .int .i64 0, .slice none 0 0]) (by simp [results, Tryz.results25, go_sem, x0, x1, x2, x3, x4, x5]) rfl ?_
    refine unhide BARE (unhide HS) _ ?_
    (iterate 6 (refine Below.setCell ?_ (by exact Nat.le_refl _) _))
    exact unhide B2
  obtain ⟨p4, r', rfl⟩ := List.exists_cons_of_ne_nil hr
  have hn5 : r'.length + 5 = n := by have := unhide HN; simp at this; omega
  have n4 : ((n : Int) == 4) = false := by rw [beq_eq_false_iff_ne]; omega
  have i4 : (4 : Int) < (n : Int) := by omega
  have i5 : (5 : Int) ≤ (n : Int) := by omega
  have hnv : n ≤ vc := hnvc
  have c4 := ((unhide HB).cell hg).trans (unhide HCE 4 (by simp))
  simp only [List.map_cons, List.getElem_cons_zero, List.getElem_cons_succ] at c4
  have hN4 := hide (fun (W : World) (hW : ErrIn W) => loose_any (bytL p4) W (by have := unhide HPS p4 (by simp); simp [bytL, ByteArray.size]; omega) hW)
  rw [bytL_list] at hN4
  obtain ⟨z4, HZ4⟩ : ∃ z, Hid (z = looseV p4) := ⟨_, hide rfl⟩
  rw [← unhide HZ4] at hN4
  have HS := hide (show S = ⟨2, z0, z1, nm, z4, r'.map looseVr⟩ from by
    rw [unhide HLS]
    unfold looseW
    rw [if_neg (by simp), if_pos ⟨by simp only [List.getD_cons_zero, List.getD_cons_succ]; exact (unhide HKK).symm, by simp⟩]
    simp only [List.getD_cons_zero, List.getD_cons_succ, List.drop_succ_cons, List.drop_zero]
    rw [(unhide HZ).1, (unhide HZ).2, unhide HNM, unhide HZ4])
  have WD := hide (fun (W : World) (bW : Below w1.heap.size w1 W) (k : Nat) (hk : k < r'.length) => show W.cell? ⟨g, 5 + k, none⟩ = some (.string (bytL r'[k])) from by
    have := (bW.cell (p := ⟨g, 5 + k, none⟩) hg).trans (unhide HCE (5 + k) (by simp; omega))
    simpa [Nat.add_comm 5 k] using this)
  have HW2 := hide (fun (k : Nat) (hk : k < r'.length) => unhide HPS r'[k] (by simp))
  clear BARE HLV HCE HLS HPS HKN HKK HNM HZ hnvc
  generalize hq4 : bytL p4 = q4 at *
  clear hq4
  go_wp2_with fail
  refine (unhide hN4 _ (unhide HE2)).mono ?_
  rintro e w3 ⟨rfl, b3⟩
  have HB3 := hide ((unhide HB).trans (b3.mono (unhide HB).size))
  have HX3 := hide ((unhide HX).up b3)

  have hq3 : q < w3.heap.size := (unhide HX3).1.1
  clear b3 hN4 HX HB HE2 B2 X2 k0 k1 k2 k3 k4 k5 f0 f1 f2 f3 f4 f5 x0 x1 x2 x3 x4 x5 y0 y1 y2 y3 y4 y5
  obtain ⟨⟨k0, k1, k2, k3, k4, k5⟩, f0, f1, f2, f3, f4, f5⟩ := (unhide HX3).six6

  go_wp2_with fail
  all_goals
    have VX := hide (show BoxF (w3.setCell ⟨q, 4, none⟩ (.int .i64 z4)) q [.int .i64 2, .int .i64 z0, .int .i64 z1, .string nm, .int .i64 z4, .slice none 0 0] from (unhide HX3).set 4 _ (by simp))
    have VB := hide (show Below w1.heap.size w1 (w3.setCell ⟨q, 4, none⟩ (.int .i64 z4)) from (unhide HB3).setCell (p := ⟨q, 4, none⟩) (unhide HQ) _)
    clear HX3 HB3 k0 k1 k2 k3 k4 k5 f0 f1 f2 f3 f4 f5
    generalize w3.setCell ⟨q, 4, none⟩ (.int .i64 z4) = W3 at *
    go_loopw [52] (fun iv wr => ∃ (k : Nat) (oa : Option Addr) (on oc : Nat), k ≤ r'.length ∧ iv = .int .i64 (k : Int) ∧ Hid (BoxF wr q [.int .i64 2, .int .i64 z0, .int .i64 z1, .string nm, .int .i64 z4, .slice oa on oc]) ∧ Hid (VrRow (q + 1) wr (.slice oa on oc) ((r'.take k).map looseVr)) ∧ Hid (Below w1.heap.size w1 wr)) (fun iv _ => r'.length - (intOf iv).toNat)
    case atStart => exact ⟨0, none, 0, 0, Nat.zero_le _, rfl, VX, hide (VrRow.nil _ _), VB⟩
    case round =>
      clear VX VB
      obtain ⟨k, oa, on, oc, hk, rfl, XX, VV, BB⟩ := hrel
      by_cases hlt : k < r'.length
      rotate_left
      · have hek : k = r'.length := by omega
        have hnl : ¬ ((k : Int) < ((n - 5 : Nat) : Int)) := by omega
        have VE := hide (show VrRow (q + 1) wr (.slice oa on oc) (r'.map looseVr) from by have := unhide VV; rw [hek, List.take_length] at this; exact this)
        have XW := hide ((unhide X1).up (unhide BB))
        have BW := hide ((unhide B1).trans ((unhide BB).mono (unhide B1).size))
        obtain ⟨⟨x0, x1, x2, x3, x4, x5⟩, y0, y1, y2, y3, y4, y5⟩ := (unhide XW).six6
        obtain ⟨⟨k0, k1, k2, k3, k4, k5⟩, -⟩ := (unhide XX).six6
        have END := hide (fun (W : World) (tW : Turn [w.heap.size] wr W) => show RetLo S w (.returned (.agg #[.int .i64 2, .int .i64 z0, .int .i64 z1, .string nm, .int .i64 z4, .slice oa on oc])) W from
          ⟨oa, on, oc, by rw [unhide HS], hide (by
            rw [unhide HS]
            have hrow := (unhide VE).keep (w' := W) (fun y hy => tW.block y ((unhide VE).lt y hy) (by have := (unhide VE).ge y hy; simp; omega))
            exact hrow.mono (by omega)), (unhide BW).trans (tW.below (unhide BW).size (by simp))⟩)
        clear XW BW VE VV XX BB HS X1 B1
        go_wp2_with fail
        refine bodyPost_ret (v := .agg #[.int .i64 2, .int .i64 z0, .int .i64 z1, .string nm, .int .i64 z4, .slice oa on oc]) (by simp [results, Tryz.results25, go_sem, x0, x1, x2, x3, x4, x5]) rfl ?_
        refine unhide END _ ?_
        (iterate 6 (refine Turn.setCell ?_ (by simp) _ _))
        exact Turn.refl _ _
      · first
        | (exfalso; omega)
        | skip
        all_goals
          have hlt' : (k : Int) < ((n - 5 : Nat) : Int) := by omega
          have gk := unhide WD wr (unhide BB) k hlt
          have HTK := hide (show (r'.take (k + 1)).map looseVr = (r'.take k).map looseVr ++ [looseVr r'[k]] from by rw [List.take_succ_eq_append_getElem hlt, List.map_append]; rfl)
          have HLEN := hide (show ((r'.take k).map looseVr).length ≤ 1000000 from by simp; omega)
          have HCV := hide (fun (W : World) (hW : ErrIn W) => looseVer_any (bytL r'[k]) W (by have := unhide HW2 k hlt; simp [bytL, ByteArray.size]; omega) hW)
          rw [bytL_list] at HCV
          generalize looseVr r'[k] = y at *
          generalize bytL r'[k] = sw at *
          generalize hvs : (r'.take k).map looseVr = vs at *
          clear hvs
          have X5 := hide (show BoxF wr.drew q [.int .i64 2, .int .i64 z0, .int .i64 z1, .string nm, .int .i64 z4, .slice oa on oc] from unhide XX)
          have V5 := hide ((unhide VV).up (Below.refl wr.heap.size wr).drew)
          have B5 := hide (unhide BB).drew
          clear XX VV BB
          go_wp2_with fail
          refine wp_region_any (by kernel_rfl) ?_
          change wpAny _ _ _ _ _ _ _ (World.drew _)
          have gk5 : wr.drew.cell? ⟨g, 5 + k, none⟩ = some (.string sw) := gk
          have E5 := hide (show ErrIn wr.drew from (unhide HE1).below (unhide B5) (Nat.le_refl _))
          clear gk
          generalize wr.drew = W4 at *
          refine wpAny_take (i := 0) (v := .pointer (some ⟨q, 5, none⟩)) rfl (by kernel_rfl) (by kernel_rfl) (by kernel_rfl) (fun _ _ _ h => h) (Or.inl ⟨by rfl, ?_⟩) ?_
          · intro w'
            go_simp
            try with_reducible rfl
          try simp [Act.put]
          refine wpAny_take (i := 2) (v := .string sw) rfl (by kernel_rfl) (by kernel_rfl) (by kernel_rfl) (fun _ _ _ h => h) (Or.inl ⟨by rfl, ?_⟩) ?_
          · intro w'
            go_simp
            try with_reducible rfl
          try simp [Act.put]
          refine wpAny_ready (rs := [1, 3]) (by kernel_rfl) (by simp) ?_
          refine AllReady.cons rfl (fun K hK => ?_) (AllReady.cons rfl (fun K hK => ?_) (AllReady.nil))
          · skip
            obtain ⟨⟨l0, l1, l2, l3, l4, l5⟩, -⟩ := (unhide X5).six6
            have hKK := hK
            clear hK
            go_simp
            refine hKK _ _ ?_
            clear hKK K
            try simp [Act.put]
            clear l0 l1 l2 l3 l4 l5
            refine wpAny_ready (rs := [3]) (by kernel_rfl) (by simp) ?_
            refine AllReady.cons rfl (fun K hK => ?_) (AllReady.nil)
            have hKK := hK
            clear hK
            go_simp
            refine (unhide HCV _ (unhide E5)).mono ?_
            rintro e w7 ⟨rfl, b7⟩
            have X7 := hide ((unhide X5).up b7)
            have V7 := hide ((unhide V5).up b7)
            have B7 := hide ((unhide B5).trans (b7.mono (unhide B5).size))
            clear b7
            refine hKK _ _ ?_
            clear hKK K
            try simp [Act.put]
            refine wpAny_ready (rs := [4]) (by kernel_rfl) (by simp) ?_
            refine AllReady.cons rfl (fun K hK => ?_) (AllReady.nil)
            have hKK := hK
            clear hK
            have b8 := (Below.refl w7.heap.size w7).alloc (Nat.le_refl _) (.cells #[.string y.a0, .int .i64 y.a1] 57)
            have N8 := hide (boxF_new w7 [.string y.a0, .int .i64 y.a1] 57).1.two
            have X8 := hide ((unhide X7).up b8)
            have V8 := hide ((unhide V7).up b8)
            have B8 := hide ((unhide B7).trans (b8.mono (unhide B7).size))
            clear b8
            go_simp
            refine hKK _ _ ?_
            clear hKK K
            try simp [Act.put]
            refine wpAny_ready (rs := [5]) (by kernel_rfl) (by simp) ?_
            refine AllReady.cons rfl (fun K hK => ?_) (AllReady.nil)
            have hKK := hK
            clear hK
            refine step_vrAppend (w := w7.alloc (.cells #[.string y.a0, .int .i64 y.a1] 57)) (by rfl) (.tmp 57) (.tmp 60) (by rfl) (q + 1) (.slice oa on oc) vs y w7.heap.size (by rfl) (by rfl) (unhide V8) (unhide N8).1 (unhide N8).2 (unhide HLEN) (unhide X8).1.1 ?_
            intro g9 n9 c9 w9 r9 gr9
            have X9 := hide ((unhide X8).kept gr9 (by
              intro hm
              have := (unhide V8).ge q hm
              omega))
            have B9 := hide (Below.grown (unhide B8) gr9 (unhide B8).size (fun j hj => by have := (unhide V8).ge j hj; have := unhide HQ; omega))
            have V9 := hide r9
            clear gr9 r9
            refine hKK _ _ ?_
            clear hKK K
            try simp [Act.put]
            refine wpAny_take (i := 6) (v := .pointer (some ⟨q, 5, none⟩)) rfl (by kernel_rfl) (by kernel_rfl) (by kernel_rfl) (fun _ _ _ h => h) (Or.inl ⟨by rfl, ?_⟩) ?_
            · intro w'
              go_simp
              try with_reducible rfl
            try simp [Act.put]
            refine wpAny_ready (rs := [7]) (by kernel_rfl) (by simp) ?_
            refine AllReady.cons rfl (fun K hK => ?_) (AllReady.nil)
            obtain ⟨⟨l0, l1, l2, l3, l4, l5⟩, u0, u1, u2, u3, u4, u5⟩ := (unhide X9).six6
            have hKK := hK
            clear hK
            go_simp
            refine hKK _ _ ?_
            clear hKK K
            try simp [Act.put]
            clear l0 l1 l2 l3 l4 l5 u0 u1 u2 u3 u4 u5
            have XA := hide (show BoxF (w9.setCell ⟨q, 5, none⟩ (.slice (some ⟨g9, 0, none⟩) n9 c9)) q [.int .i64 2, .int .i64 z0, .int .i64 z1, .string nm, .int .i64 z4, .slice (some ⟨g9, 0, none⟩) n9 c9] from (unhide X9).set 5 _ (by simp))
            have VA := hide ((unhide V9).keep (w' := w9.setCell ⟨q, 5, none⟩ (.slice (some ⟨g9, 0, none⟩) n9 c9)) (fun g' hg => ((Turn.refl [q] w9).setCell (g := q) (by simp) 5 (.slice (some ⟨g9, 0, none⟩) n9 c9)).block g' ((unhide V9).lt g' hg) (by have := (unhide V9).ge g' hg; simp; omega)))
            have BA := hide ((unhide B9).setCell (p := ⟨q, 5, none⟩) (unhide HQ) (.slice (some ⟨g9, 0, none⟩) n9 c9))
            refine wpAny_done (by kernel_rfl) ?_ _
            go_wp2_with fail
            go_roundw
            case rel => exact ⟨k + 1, _, n9, c9, by omega, by go_num, XA, hide (by rw [unhide HTK]; exact unhide VA), BA⟩
            case measure => simp [intOf]; omega
          · skip
            have hKK := hK
            clear hK
            go_simp
            refine (unhide HCV _ (unhide E5)).mono ?_
            rintro e w7 ⟨rfl, b7⟩
            have X7 := hide ((unhide X5).up b7)
            have V7 := hide ((unhide V5).up b7)
            have B7 := hide ((unhide B5).trans (b7.mono (unhide B5).size))
            clear b7
            refine hKK _ _ ?_
            clear hKK K
            try simp [Act.put]
            refine wpAny_ready (rs := [1, 4]) (by kernel_rfl) (by simp) ?_
            refine AllReady.cons rfl (fun K hK => ?_) (AllReady.cons rfl (fun K hK => ?_) (AllReady.nil))
            · skip
              obtain ⟨⟨l0, l1, l2, l3, l4, l5⟩, -⟩ := (unhide X7).six6
              have hKK := hK
              clear hK
              go_simp
              refine hKK _ _ ?_
              clear hKK K
              try simp [Act.put]
              clear l0 l1 l2 l3 l4 l5
              refine wpAny_ready (rs := [4]) (by kernel_rfl) (by simp) ?_
              refine AllReady.cons rfl (fun K hK => ?_) (AllReady.nil)
              have hKK := hK
              clear hK
              have b8 := (Below.refl w7.heap.size w7).alloc (Nat.le_refl _) (.cells #[.string y.a0, .int .i64 y.a1] 57)
              have N8 := hide (boxF_new w7 [.string y.a0, .int .i64 y.a1] 57).1.two
              have X8 := hide ((unhide X7).up b8)
              have V8 := hide ((unhide V7).up b8)
              have B8 := hide ((unhide B7).trans (b8.mono (unhide B7).size))
              clear b8
              go_simp
              refine hKK _ _ ?_
              clear hKK K
              try simp [Act.put]
              refine wpAny_ready (rs := [5]) (by kernel_rfl) (by simp) ?_
              refine AllReady.cons rfl (fun K hK => ?_) (AllReady.nil)
              have hKK := hK
              clear hK
              refine step_vrAppend (w := w7.alloc (.cells #[.string y.a0, .int .i64 y.a1] 57)) (by rfl) (.tmp 57) (.tmp 60) (by rfl) (q + 1) (.slice oa on oc) vs y w7.heap.size (by rfl) (by rfl) (unhide V8) (unhide N8).1 (unhide N8).2 (unhide HLEN) (unhide X8).1.1 ?_
              intro g9 n9 c9 w9 r9 gr9
              have X9 := hide ((unhide X8).kept gr9 (by
                intro hm
                have := (unhide V8).ge q hm
                omega))
              have B9 := hide (Below.grown (unhide B8) gr9 (unhide B8).size (fun j hj => by have := (unhide V8).ge j hj; have := unhide HQ; omega))
              have V9 := hide r9
              clear gr9 r9
              refine hKK _ _ ?_
              clear hKK K
              try simp [Act.put]
              refine wpAny_take (i := 6) (v := .pointer (some ⟨q, 5, none⟩)) rfl (by kernel_rfl) (by kernel_rfl) (by kernel_rfl) (fun _ _ _ h => h) (Or.inl ⟨by rfl, ?_⟩) ?_
              · intro w'
                go_simp
                try with_reducible rfl
              try simp [Act.put]
              refine wpAny_ready (rs := [7]) (by kernel_rfl) (by simp) ?_
              refine AllReady.cons rfl (fun K hK => ?_) (AllReady.nil)
              obtain ⟨⟨l0, l1, l2, l3, l4, l5⟩, u0, u1, u2, u3, u4, u5⟩ := (unhide X9).six6
              have hKK := hK
              clear hK
              go_simp
              refine hKK _ _ ?_
              clear hKK K
              try simp [Act.put]
              clear l0 l1 l2 l3 l4 l5 u0 u1 u2 u3 u4 u5
              have XA := hide (show BoxF (w9.setCell ⟨q, 5, none⟩ (.slice (some ⟨g9, 0, none⟩) n9 c9)) q [.int .i64 2, .int .i64 z0, .int .i64 z1, .string nm, .int .i64 z4, .slice (some ⟨g9, 0, none⟩) n9 c9] from (unhide X9).set 5 _ (by simp))
              have VA := hide ((unhide V9).keep (w' := w9.setCell ⟨q, 5, none⟩ (.slice (some ⟨g9, 0, none⟩) n9 c9)) (fun g' hg => ((Turn.refl [q] w9).setCell (g := q) (by simp) 5 (.slice (some ⟨g9, 0, none⟩) n9 c9)).block g' ((unhide V9).lt g' hg) (by have := (unhide V9).ge g' hg; simp; omega)))
              have BA := hide ((unhide B9).setCell (p := ⟨q, 5, none⟩) (unhide HQ) (.slice (some ⟨g9, 0, none⟩) n9 c9))
              refine wpAny_done (by kernel_rfl) ?_ _
              go_wp2_with fail
              go_roundw
              case rel => exact ⟨k + 1, _, n9, c9, by omega, by go_num, XA, hide (by rw [unhide HTK]; exact unhide VA), BA⟩
              case measure => simp [intOf]; omega
            · skip
              have hKK := hK
              clear hK
              have b8 := (Below.refl w7.heap.size w7).alloc (Nat.le_refl _) (.cells #[.string y.a0, .int .i64 y.a1] 57)
              have N8 := hide (boxF_new w7 [.string y.a0, .int .i64 y.a1] 57).1.two
              have X8 := hide ((unhide X7).up b8)
              have V8 := hide ((unhide V7).up b8)
              have B8 := hide ((unhide B7).trans (b8.mono (unhide B7).size))
              clear b8
              go_simp
              refine hKK _ _ ?_
              clear hKK K
              try simp [Act.put]
              refine wpAny_ready (rs := [1]) (by kernel_rfl) (by simp) ?_
              refine AllReady.cons rfl (fun K hK => ?_) (AllReady.nil)
              obtain ⟨⟨l0, l1, l2, l3, l4, l5⟩, -⟩ := (unhide X8).six6
              have hKK := hK
              clear hK
              go_simp
              refine hKK _ _ ?_
              clear hKK K
              try simp [Act.put]
              clear l0 l1 l2 l3 l4 l5
              refine wpAny_ready (rs := [5]) (by kernel_rfl) (by simp) ?_
              refine AllReady.cons rfl (fun K hK => ?_) (AllReady.nil)
              have hKK := hK
              clear hK
              refine step_vrAppend (w := w7.alloc (.cells #[.string y.a0, .int .i64 y.a1] 57)) (by rfl) (.tmp 57) (.tmp 60) (by rfl) (q + 1) (.slice oa on oc) vs y w7.heap.size (by rfl) (by rfl) (unhide V8) (unhide N8).1 (unhide N8).2 (unhide HLEN) (unhide X8).1.1 ?_
              intro g9 n9 c9 w9 r9 gr9
              have X9 := hide ((unhide X8).kept gr9 (by
                intro hm
                have := (unhide V8).ge q hm
                omega))
              have B9 := hide (Below.grown (unhide B8) gr9 (unhide B8).size (fun j hj => by have := (unhide V8).ge j hj; have := unhide HQ; omega))
              have V9 := hide r9
              clear gr9 r9
              refine hKK _ _ ?_
              clear hKK K
              try simp [Act.put]
              refine wpAny_take (i := 6) (v := .pointer (some ⟨q, 5, none⟩)) rfl (by kernel_rfl) (by kernel_rfl) (by kernel_rfl) (fun _ _ _ h => h) (Or.inl ⟨by rfl, ?_⟩) ?_
              · intro w'
                go_simp
                try with_reducible rfl
              try simp [Act.put]
              refine wpAny_ready (rs := [7]) (by kernel_rfl) (by simp) ?_
              refine AllReady.cons rfl (fun K hK => ?_) (AllReady.nil)
              obtain ⟨⟨l0, l1, l2, l3, l4, l5⟩, u0, u1, u2, u3, u4, u5⟩ := (unhide X9).six6
              have hKK := hK
              clear hK
              go_simp
              refine hKK _ _ ?_
              clear hKK K
              try simp [Act.put]
              clear l0 l1 l2 l3 l4 l5 u0 u1 u2 u3 u4 u5
              have XA := hide (show BoxF (w9.setCell ⟨q, 5, none⟩ (.slice (some ⟨g9, 0, none⟩) n9 c9)) q [.int .i64 2, .int .i64 z0, .int .i64 z1, .string nm, .int .i64 z4, .slice (some ⟨g9, 0, none⟩) n9 c9] from (unhide X9).set 5 _ (by simp))
              have VA := hide ((unhide V9).keep (w' := w9.setCell ⟨q, 5, none⟩ (.slice (some ⟨g9, 0, none⟩) n9 c9)) (fun g' hg => ((Turn.refl [q] w9).setCell (g := q) (by simp) 5 (.slice (some ⟨g9, 0, none⟩) n9 c9)).block g' ((unhide V9).lt g' hg) (by have := (unhide V9).ge g' hg; simp; omega)))
              have BA := hide ((unhide B9).setCell (p := ⟨q, 5, none⟩) (unhide HQ) (.slice (some ⟨g9, 0, none⟩) n9 c9))
              refine wpAny_done (by kernel_rfl) ?_ _
              go_wp2_with fail
              go_roundw
              case rel => exact ⟨k + 1, _, n9, c9, by omega, by go_num, XA, hide (by rw [unhide HTK]; exact unhide VA), BA⟩
              case measure => simp [intOf]; omega
end Go.Proofs.YtiebfcefmdiajaaGreatDoor
