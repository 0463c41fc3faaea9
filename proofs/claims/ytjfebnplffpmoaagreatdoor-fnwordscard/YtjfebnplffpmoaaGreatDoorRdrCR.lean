/-
  The program's reader: the calls. (Made by wip/mkrdrcr.py.)
-/
import Derived.Test.YtjfebnplffpmoaaGreatDoorMerged44
import Derived.Deep.RegionHeld3
set_option linter.unusedVariables false
namespace Go.Proofs.YtjfebnplffpmoaaGreatDoor
open Go.RowKit Go.Maps Go.Deep

/-- behind the last argument -/
def shutR (ws : List WordV) (kd : Int) (kids : Nat) (fo : BT NodeV) (k : Nat) : PRes := must ws sShut k fun n5 => .ok ⟨⟨kd, 0, ⟨#[]⟩, (kids : Int)⟩, fo⟩ n5
theorem fm_call {B : Nat} {w : World} {v : Value} {vs : List Value} {fo : BT NodeV} {kd : Int} {kids : Nat} (hk : 18 ≤ kd ∧ kd ≤ 20) (ha : (kids : Int) = arity kd) (hl : vs.length = kids) (h0 : 0 < kids) (r : FmRow B w v vs) (h : FormsAre B w fo vs) :
    FormsAre B w (TreeV.f ⟨⟨kd, 0, ⟨#[]⟩, (kids : Int)⟩, fo⟩) [.iface 152 (.agg #[.int .i64 kd, v])] := by
  obtain ⟨g, cap, rfl, hB, hg, hr⟩ := r.at (by intro e; rw [e] at hl; simp at hl; omega)
  exact forms_node h (.inr (.inr (.inr (.inr (.inl ⟨g, cap, hk, by rw [hl]; exact ha, hB, hg, hr, rfl⟩)))))
set_option maxHeartbeats 6400000 in
set_option maxRecDepth 20000 in
theorem callPair18 (ws : List WordV) (hw : ∀ x ∈ ws, WordIs x) (sz f : Nat) (HE : SaidIE ws sz f) (w : World) (rb : Nat) (a : Option Addr) (c n : Nat) (h : PrK ws sz w rb a c (n + 1)) (hf : needF (ws.length - (n + 1)) .expr < f) :
    Calls Tryz.prog 80 #[.pointer (some ⟨rb, 0, none⟩), .int .i64 18] w fun e w' => RetI ws sz rb a c (pairR ws f 18 n) w e w' := by
  have HRB := h.pr.lt
  have HGW := hide (show ∀ g o, a = some ⟨g, o, none⟩ → g < w.heap.size from fun g o ha => by
    rcases h.pr.words with e | ⟨g', o', e, hg, _⟩
    · have := h.pr.le; rw [e] at this; simp at this
    · rw [e] at ha; cases ha; exact hg)
  have HSG := hide h.sh.1
  have P0 := hide h
  have N0 := hide (needE hf (Nat.le_succ (n + 1)))
  generalize hR : pairR ws f 18 n = R
  unfold pairR at hR
  have R0 := hide hR
  clear h hf hR
  go_enter Tryz.func80, Tryz.ntmps80
  go_wp2_with fail
  refine (must_any ws hw sz _ rb a c _ sOpen (.inr (by decide)) (by decide) (unhide P0).pr).mono ?_
  rintro e w1 (⟨m1, rfl, p1, t1⟩ | ⟨m1, rfl, t1⟩)
  rotate_left
  · exact ⟨rfl, .inl ⟨_, by rw [← unhide R0]; exact must_no m1, rfl, t1⟩⟩
  have T1 := t1
  have P1 := hide ((unhide P0).next (unhide t1) (unhide p1))
  have R1 := unhide R0
  rw [must_yes m1] at R1
  replace R1 := hide R1
  clear P0 R0 p1 t1 m1
  go_wp2_with fail
  refine (HE _ rb a c _ (unhide P1) (unhide N0)).mono ?_
  rintro e w2 (⟨k2, hp2, rfl, t2⟩ | ⟨x2, k2, y2, u2, hp2, rfl, p2, t2, f2⟩)
  · exact ⟨rfl, .inl ⟨k2, by rw [← unhide R1, hp2]; rfl, rfl, hide ((unhide T1).trans (unhide t2))⟩⟩
  have T2 := hide ((unhide T1).trans (unhide t2))
  have N2 := hide (fwdE (unhide P1).pr.le (unhide N0) hp2).2
  have R2 := unhide R1
  rw [hp2, ok_then] at R2
  replace R2 := hide R2
  have F2 := hide ((unhide f2).mono (unhide T1).size)
  clear P1 N0 R1 t2 f2 hp2 T1
  go_wp2_with fail
  have b3 := (Below.refl w2.heap.size w2).alloc (Nat.le_refl _) (.cells #[.iface y2 u2] 105)
  have A3 := hide (fmOne w2 w2.heap.size (Nat.le_refl _) (.iface y2 u2) rfl)
  have P3 := hide ((unhide p2).up b3)
  have T3 := hide ((unhide T2).trans (Turn.of_below b3))
  have F3 := hide ((unhide F2).upR b3)
  have S3 := hide (show w2.heap.size < (w2.alloc (.cells #[.iface y2 u2] 105)).heap.size from by simp)
  have B3 := hide b3
  clear p2 b3
  generalize hW3 : w2.alloc (.cells #[.iface y2 u2] 105) = w3 at *
  clear hW3
  go_loopw [5] (fun av wr => (av = .slice (some ⟨w2.heap.size, 0, none⟩) 1 1 ∧ wr = w3) ∨ (∃ (v : Value) (vs : List Value) (cp : Nat) (ad : Option Addr) (k : Nat) (fo : BT NodeV), av = v ∧ v = .slice ad 2 cp ∧ Hid (vs.length = 2) ∧ Hid (FmRow w.heap.size wr v vs) ∧ Hid (FormsAre w.heap.size wr fo vs) ∧ Hid (PrK ws sz wr rb a c k) ∧ Hid (Turn [rb] w wr) ∧ Hid (shutR ws 18 2 fo k = R))) (fun av _ => match av with | .slice _ m _ => 2 - m | _ => 0)
  case atStart => exact .inl ⟨rfl, rfl⟩
  case round =>
    rcases hrel with ⟨rfl, rfl⟩ | ⟨v, vs, cp, ad, k, fo, rfl, rfl, LB, AB, FB, PB, TB, RB⟩
    rotate_left
    · have s0 : wr.cell? ⟨1, 54, none⟩ = some (.int .i64 2) := ((unhide PB).sh.2 18 (by decide)).1
      clear R2 N2 A3 P3 T3 F3 F2
      go_wp2_with fail
      refine (must_any ws hw sz _ rb a c _ sShut (.inr (by decide)) (by decide) (unhide PB).pr).mono ?_
      rintro e w8 (⟨m8, rfl, p8, t8⟩ | ⟨m8, rfl, t8⟩)
      rotate_left
      · exact ⟨rfl, .inl ⟨_, by rw [← unhide RB]; exact must_no m8, rfl, hide ((unhide TB).trans (unhide t8))⟩⟩
      have R8 := unhide RB
      unfold shutR at R8
      rw [must_yes m8] at R8
      replace R8 := hide R8
      have P8 := hide ((unhide PB).next (unhide t8) (unhide p8))
      have T8 := hide ((unhide TB).trans (unhide t8))
      have F8 := hide ((unhide FB).turnR (unhide t8) HRB)
      have A8 := hide ((unhide AB).turn (unhide t8) HRB)
      clear m8 p8 t8 PB RB TB FB AB
      go_wp2_with fail
      go_ret
      exact .inr ⟨_, _, _, _, (unhide R8).symm, rfl, P8, T8, hide (fm_call (show 18 ≤ (18 : Int) ∧ (18 : Int) ≤ 20 by decide) (show ((2 : Nat) : Int) = arity 18 by decide) (unhide LB) (by decide) (unhide A8) (unhide F8))⟩
    have s0 : wr.cell? ⟨1, 54, none⟩ = some (.int .i64 2) := ((unhide P3).sh.2 18 (by decide)).1
    go_wp2_with fail
    refine (must_any ws hw sz _ rb a c _ sComma (.inr (by decide)) (by decide) (unhide P3).pr).mono ?_
    rintro e w4 (⟨m4, rfl, p4, t4⟩ | ⟨m4, rfl, t4⟩)
    rotate_left
    · exact ⟨rfl, .inl ⟨_, by rw [← unhide R2]; exact must_no m4, rfl, hide ((unhide T3).trans (unhide t4))⟩⟩
    have T4 := hide ((unhide T3).trans (unhide t4))
    have P4 := hide ((unhide P3).next (unhide t4) (unhide p4))
    have N4 := hide (needE (unhide N2) (Nat.le_succ _))
    have R4 := unhide R2
    rw [must_yes m4] at R4
    replace R4 := hide R4
    have HW2 := hide (Nat.lt_of_lt_of_le HRB (unhide T2).size)
    have A4 := hide ((unhide A3).turn (unhide t4) (unhide HW2))
    have B4 := hide ((Turn.of_below (S := [rb]) (unhide B3)).trans (unhide t4))
    have S4 := hide (Nat.lt_of_lt_of_le (unhide S3) (unhide t4).size)
    clear P3 T3 R2 p4 t4 m4 s0 A3 F3 N2
    go_wp2_with fail
    refine (HE _ rb a c _ (unhide P4) (unhide N4)).mono ?_
    rintro e w5 (⟨k5, hp5, rfl, t5⟩ | ⟨x5, k5, y5, u5, hp5, rfl, p5, t5, f5⟩)
    · exact ⟨rfl, .inl ⟨k5, by rw [← unhide R4, hp5]; rfl, rfl, hide ((unhide T4).trans (unhide t5))⟩⟩
    have T5 := hide ((unhide T4).trans (unhide t5))
    have B5 := hide ((unhide B4).trans (unhide t5))
    have A5 := hide ((unhide A4).turn (unhide t5) (unhide HW2))
    have R5 := unhide R4
    rw [hp5, ok_then] at R5
    replace R5 := hide (show shutR ws 18 2 (app x2.f x5.f) k5 = R from R5)
    clear P4 N4 R4 T4 hp5 A4 B4 t5
    have A6 := hide ((unhide A5).up ((Below.refl w5.heap.size w5).alloc (Nat.le_refl _) (.cells #[.iface y5 u5] 105)))
    have H6 := hide (show w2.heap.size ≤ (w5.alloc (.cells #[.iface y5 u5] 105)).heap.size from Nat.le_trans (unhide B5).size ((Below.refl w5.heap.size w5).alloc (Nat.le_refl _) (.cells #[.iface y5 u5] 105)).size)
    have C6 := hide (show (w5.alloc (.cells #[.iface y5 u5] 105)).cell? ⟨w5.heap.size, 0, none⟩ = some (.iface y5 u5) from World.cell?_alloc_at _ _ _ _ rfl)
    go_wp2_with (first
      | (at_builtin; refine wpList_fmAppend rfl _ _ rfl w2.heap.size _ [.iface y2 u2] y5 u5 w5.heap.size rfl rfl (unhide A6) (unhide C6) (by simp) (unhide H6) ?_; intro g7 n7 c7 w7 r7 gr7)
      | fail)
    have TW := hide (show w.heap.size ≤ w2.heap.size from (unhide T2).size)
    have B6 := (unhide B5).trans (Turn.of_below ((Below.refl w5.heap.size w5).alloc (Nat.le_refl _) (.cells #[.iface y5 u5] 105)))
    have T6 := (unhide T5).trans (Turn.of_below ((Below.refl w5.heap.size w5).alloc (Nat.le_refl _) (.cells #[.iface y5 u5] 105)))
    have gx : World.grownBy (w5.alloc (.cells #[.iface y5 u5] 105)) w7 (some w2.heap.size) := gr7
    have B7 : Turn [rb] w2 w7 := B6.grownR gx (fun k hk => by cases hk; exact .inr (Nat.le_refl _))
    have T7 : Turn [rb] w w7 := T6.grownR gx (fun k hk => by cases hk; exact .inr (unhide TW))
    have C7 : Turn [w2.heap.size] w5 w7 := (Turn.of_below ((Below.refl w5.heap.size w5).alloc (Nat.le_refl _) (.cells #[.iface y5 u5] 105))).grownR gx (fun k hk => by cases hk; exact .inl (by simp))
    have FX : FormsAre w.heap.size w7 (app x2.f x5.f) ([.iface y2 u2] ++ [.iface y5 u5]) := FormsAre.app ((unhide F2).turnR B7 HRB) (((unhide f5).turnR C7 (unhide S4)).mono (Nat.le_trans (unhide TW) (Nat.le_of_lt (unhide S4))))
    have PX : PrK ws sz w7 rb a c k5 := (unhide p5).turn C7 (by have := unhide HW2; simp; omega) (fun g o e => by have := unhide HGW g o e; have := unhide TW; simp; omega) (by have := unhide HSG; have := unhide TW; simp; omega)
    have e7 : n7 = 2 := fm_len r7
    subst e7
    exact ⟨.inr ⟨_, _, c7, _, k5, _, rfl, rfl, hide rfl, hide (r7.mono (unhide TW)), hide FX, hide PX, hide T7, R5⟩, by simp⟩
set_option maxHeartbeats 6400000 in
set_option maxRecDepth 20000 in
theorem callPair19 (ws : List WordV) (hw : ∀ x ∈ ws, WordIs x) (sz f : Nat) (HE : SaidIE ws sz f) (w : World) (rb : Nat) (a : Option Addr) (c n : Nat) (h : PrK ws sz w rb a c (n + 1)) (hf : needF (ws.length - (n + 1)) .expr < f) :
    Calls Tryz.prog 80 #[.pointer (some ⟨rb, 0, none⟩), .int .i64 19] w fun e w' => RetI ws sz rb a c (pairR ws f 19 n) w e w' := by
  have HRB := h.pr.lt
  have HGW := hide (show ∀ g o, a = some ⟨g, o, none⟩ → g < w.heap.size from fun g o ha => by
    rcases h.pr.words with e | ⟨g', o', e, hg, _⟩
    · have := h.pr.le; rw [e] at this; simp at this
    · rw [e] at ha; cases ha; exact hg)
  have HSG := hide h.sh.1
  have P0 := hide h
  have N0 := hide (needE hf (Nat.le_succ (n + 1)))
  generalize hR : pairR ws f 19 n = R
  unfold pairR at hR
  have R0 := hide hR
  clear h hf hR
  go_enter Tryz.func80, Tryz.ntmps80
  go_wp2_with fail
  refine (must_any ws hw sz _ rb a c _ sOpen (.inr (by decide)) (by decide) (unhide P0).pr).mono ?_
  rintro e w1 (⟨m1, rfl, p1, t1⟩ | ⟨m1, rfl, t1⟩)
  rotate_left
  · exact ⟨rfl, .inl ⟨_, by rw [← unhide R0]; exact must_no m1, rfl, t1⟩⟩
  have T1 := t1
  have P1 := hide ((unhide P0).next (unhide t1) (unhide p1))
  have R1 := unhide R0
  rw [must_yes m1] at R1
  replace R1 := hide R1
  clear P0 R0 p1 t1 m1
  go_wp2_with fail
  refine (HE _ rb a c _ (unhide P1) (unhide N0)).mono ?_
  rintro e w2 (⟨k2, hp2, rfl, t2⟩ | ⟨x2, k2, y2, u2, hp2, rfl, p2, t2, f2⟩)
  · exact ⟨rfl, .inl ⟨k2, by rw [← unhide R1, hp2]; rfl, rfl, hide ((unhide T1).trans (unhide t2))⟩⟩
  have T2 := hide ((unhide T1).trans (unhide t2))
  have N2 := hide (fwdE (unhide P1).pr.le (unhide N0) hp2).2
  have R2 := unhide R1
  rw [hp2, ok_then] at R2
  replace R2 := hide R2
  have F2 := hide ((unhide f2).mono (unhide T1).size)
  clear P1 N0 R1 t2 f2 hp2 T1
  go_wp2_with fail
  have b3 := (Below.refl w2.heap.size w2).alloc (Nat.le_refl _) (.cells #[.iface y2 u2] 105)
  have A3 := hide (fmOne w2 w2.heap.size (Nat.le_refl _) (.iface y2 u2) rfl)
  have P3 := hide ((unhide p2).up b3)
  have T3 := hide ((unhide T2).trans (Turn.of_below b3))
  have F3 := hide ((unhide F2).upR b3)
  have S3 := hide (show w2.heap.size < (w2.alloc (.cells #[.iface y2 u2] 105)).heap.size from by simp)
  have B3 := hide b3
  clear p2 b3
  generalize hW3 : w2.alloc (.cells #[.iface y2 u2] 105) = w3 at *
  clear hW3
  go_loopw [5] (fun av wr => (av = .slice (some ⟨w2.heap.size, 0, none⟩) 1 1 ∧ wr = w3) ∨ (∃ (v : Value) (vs : List Value) (cp : Nat) (ad : Option Addr) (k : Nat) (fo : BT NodeV), av = v ∧ v = .slice ad 2 cp ∧ Hid (vs.length = 2) ∧ Hid (FmRow w.heap.size wr v vs) ∧ Hid (FormsAre w.heap.size wr fo vs) ∧ Hid (PrK ws sz wr rb a c k) ∧ Hid (Turn [rb] w wr) ∧ Hid (shutR ws 19 2 fo k = R))) (fun av _ => match av with | .slice _ m _ => 2 - m | _ => 0)
  case atStart => exact .inl ⟨rfl, rfl⟩
  case round =>
    rcases hrel with ⟨rfl, rfl⟩ | ⟨v, vs, cp, ad, k, fo, rfl, rfl, LB, AB, FB, PB, TB, RB⟩
    rotate_left
    · have s0 : wr.cell? ⟨1, 57, none⟩ = some (.int .i64 2) := ((unhide PB).sh.2 19 (by decide)).1
      clear R2 N2 A3 P3 T3 F3 F2
      go_wp2_with fail
      refine (must_any ws hw sz _ rb a c _ sShut (.inr (by decide)) (by decide) (unhide PB).pr).mono ?_
      rintro e w8 (⟨m8, rfl, p8, t8⟩ | ⟨m8, rfl, t8⟩)
      rotate_left
      · exact ⟨rfl, .inl ⟨_, by rw [← unhide RB]; exact must_no m8, rfl, hide ((unhide TB).trans (unhide t8))⟩⟩
      have R8 := unhide RB
      unfold shutR at R8
      rw [must_yes m8] at R8
      replace R8 := hide R8
      have P8 := hide ((unhide PB).next (unhide t8) (unhide p8))
      have T8 := hide ((unhide TB).trans (unhide t8))
      have F8 := hide ((unhide FB).turnR (unhide t8) HRB)
      have A8 := hide ((unhide AB).turn (unhide t8) HRB)
      clear m8 p8 t8 PB RB TB FB AB
      go_wp2_with fail
      go_ret
      exact .inr ⟨_, _, _, _, (unhide R8).symm, rfl, P8, T8, hide (fm_call (show 18 ≤ (19 : Int) ∧ (19 : Int) ≤ 20 by decide) (show ((2 : Nat) : Int) = arity 19 by decide) (unhide LB) (by decide) (unhide A8) (unhide F8))⟩
    have s0 : wr.cell? ⟨1, 57, none⟩ = some (.int .i64 2) := ((unhide P3).sh.2 19 (by decide)).1
    go_wp2_with fail
    refine (must_any ws hw sz _ rb a c _ sComma (.inr (by decide)) (by decide) (unhide P3).pr).mono ?_
    rintro e w4 (⟨m4, rfl, p4, t4⟩ | ⟨m4, rfl, t4⟩)
    rotate_left
    · exact ⟨rfl, .inl ⟨_, by rw [← unhide R2]; exact must_no m4, rfl, hide ((unhide T3).trans (unhide t4))⟩⟩
    have T4 := hide ((unhide T3).trans (unhide t4))
    have P4 := hide ((unhide P3).next (unhide t4) (unhide p4))
    have N4 := hide (needE (unhide N2) (Nat.le_succ _))
    have R4 := unhide R2
    rw [must_yes m4] at R4
    replace R4 := hide R4
    have HW2 := hide (Nat.lt_of_lt_of_le HRB (unhide T2).size)
    have A4 := hide ((unhide A3).turn (unhide t4) (unhide HW2))
    have B4 := hide ((Turn.of_below (S := [rb]) (unhide B3)).trans (unhide t4))
    have S4 := hide (Nat.lt_of_lt_of_le (unhide S3) (unhide t4).size)
    clear P3 T3 R2 p4 t4 m4 s0 A3 F3 N2
    go_wp2_with fail
    refine (HE _ rb a c _ (unhide P4) (unhide N4)).mono ?_
    rintro e w5 (⟨k5, hp5, rfl, t5⟩ | ⟨x5, k5, y5, u5, hp5, rfl, p5, t5, f5⟩)
    · exact ⟨rfl, .inl ⟨k5, by rw [← unhide R4, hp5]; rfl, rfl, hide ((unhide T4).trans (unhide t5))⟩⟩
    have T5 := hide ((unhide T4).trans (unhide t5))
    have B5 := hide ((unhide B4).trans (unhide t5))
    have A5 := hide ((unhide A4).turn (unhide t5) (unhide HW2))
    have R5 := unhide R4
    rw [hp5, ok_then] at R5
    replace R5 := hide (show shutR ws 19 2 (app x2.f x5.f) k5 = R from R5)
    clear P4 N4 R4 T4 hp5 A4 B4 t5
    have A6 := hide ((unhide A5).up ((Below.refl w5.heap.size w5).alloc (Nat.le_refl _) (.cells #[.iface y5 u5] 105)))
    have H6 := hide (show w2.heap.size ≤ (w5.alloc (.cells #[.iface y5 u5] 105)).heap.size from Nat.le_trans (unhide B5).size ((Below.refl w5.heap.size w5).alloc (Nat.le_refl _) (.cells #[.iface y5 u5] 105)).size)
    have C6 := hide (show (w5.alloc (.cells #[.iface y5 u5] 105)).cell? ⟨w5.heap.size, 0, none⟩ = some (.iface y5 u5) from World.cell?_alloc_at _ _ _ _ rfl)
    go_wp2_with (first
      | (at_builtin; refine wpList_fmAppend rfl _ _ rfl w2.heap.size _ [.iface y2 u2] y5 u5 w5.heap.size rfl rfl (unhide A6) (unhide C6) (by simp) (unhide H6) ?_; intro g7 n7 c7 w7 r7 gr7)
      | fail)
    have TW := hide (show w.heap.size ≤ w2.heap.size from (unhide T2).size)
    have B6 := (unhide B5).trans (Turn.of_below ((Below.refl w5.heap.size w5).alloc (Nat.le_refl _) (.cells #[.iface y5 u5] 105)))
    have T6 := (unhide T5).trans (Turn.of_below ((Below.refl w5.heap.size w5).alloc (Nat.le_refl _) (.cells #[.iface y5 u5] 105)))
    have gx : World.grownBy (w5.alloc (.cells #[.iface y5 u5] 105)) w7 (some w2.heap.size) := gr7
    have B7 : Turn [rb] w2 w7 := B6.grownR gx (fun k hk => by cases hk; exact .inr (Nat.le_refl _))
    have T7 : Turn [rb] w w7 := T6.grownR gx (fun k hk => by cases hk; exact .inr (unhide TW))
    have C7 : Turn [w2.heap.size] w5 w7 := (Turn.of_below ((Below.refl w5.heap.size w5).alloc (Nat.le_refl _) (.cells #[.iface y5 u5] 105))).grownR gx (fun k hk => by cases hk; exact .inl (by simp))
    have FX : FormsAre w.heap.size w7 (app x2.f x5.f) ([.iface y2 u2] ++ [.iface y5 u5]) := FormsAre.app ((unhide F2).turnR B7 HRB) (((unhide f5).turnR C7 (unhide S4)).mono (Nat.le_trans (unhide TW) (Nat.le_of_lt (unhide S4))))
    have PX : PrK ws sz w7 rb a c k5 := (unhide p5).turn C7 (by have := unhide HW2; simp; omega) (fun g o e => by have := unhide HGW g o e; have := unhide TW; simp; omega) (by have := unhide HSG; have := unhide TW; simp; omega)
    have e7 : n7 = 2 := fm_len r7
    subst e7
    exact ⟨.inr ⟨_, _, c7, _, k5, _, rfl, rfl, hide rfl, hide (r7.mono (unhide TW)), hide FX, hide PX, hide T7, R5⟩, by simp⟩
set_option maxHeartbeats 6400000 in
set_option maxRecDepth 20000 in
theorem callAbs (ws : List WordV) (hw : ∀ x ∈ ws, WordIs x) (sz f : Nat) (HE : SaidIE ws sz f) (w : World) (rb : Nat) (a : Option Addr) (c n : Nat) (h : PrK ws sz w rb a c (n + 1)) (hf : needF (ws.length - (n + 1)) .expr < f) :
    Calls Tryz.prog 80 #[.pointer (some ⟨rb, 0, none⟩), .int .i64 20] w fun e w' => RetI ws sz rb a c (absR ws f n) w e w' := by
  have HRB := h.pr.lt
  have HGW := hide (show ∀ g o, a = some ⟨g, o, none⟩ → g < w.heap.size from fun g o ha => by
    rcases h.pr.words with e | ⟨g', o', e, hg, _⟩
    · have := h.pr.le; rw [e] at this; simp at this
    · rw [e] at ha; cases ha; exact hg)
  have HSG := hide h.sh.1
  have P0 := hide h
  have N0 := hide (needE hf (Nat.le_succ (n + 1)))
  generalize hR : absR ws f n = R
  unfold absR at hR
  have R0 := hide hR
  clear h hf hR
  go_enter Tryz.func80, Tryz.ntmps80
  go_wp2_with fail
  refine (must_any ws hw sz _ rb a c _ sOpen (.inr (by decide)) (by decide) (unhide P0).pr).mono ?_
  rintro e w1 (⟨m1, rfl, p1, t1⟩ | ⟨m1, rfl, t1⟩)
  rotate_left
  · exact ⟨rfl, .inl ⟨_, by rw [← unhide R0]; exact must_no m1, rfl, t1⟩⟩
  have T1 := t1
  have P1 := hide ((unhide P0).next (unhide t1) (unhide p1))
  have R1 := unhide R0
  rw [must_yes m1] at R1
  replace R1 := hide R1
  clear P0 R0 p1 t1 m1
  go_wp2_with fail
  refine (HE _ rb a c _ (unhide P1) (unhide N0)).mono ?_
  rintro e w2 (⟨k2, hp2, rfl, t2⟩ | ⟨x2, k2, y2, u2, hp2, rfl, p2, t2, f2⟩)
  · exact ⟨rfl, .inl ⟨k2, by rw [← unhide R1, hp2]; rfl, rfl, hide ((unhide T1).trans (unhide t2))⟩⟩
  have T2 := hide ((unhide T1).trans (unhide t2))
  have N2 := hide (fwdE (unhide P1).pr.le (unhide N0) hp2).2
  have R2 := unhide R1
  rw [hp2, ok_then] at R2
  replace R2 := hide R2
  have F2 := hide ((unhide f2).mono (unhide T1).size)
  clear P1 N0 R1 t2 f2 hp2 T1
  go_wp2_with fail
  have b3 := (Below.refl w2.heap.size w2).alloc (Nat.le_refl _) (.cells #[.iface y2 u2] 105)
  have A3 := hide (fmOne w2 w2.heap.size (Nat.le_refl _) (.iface y2 u2) rfl)
  have P3 := hide ((unhide p2).up b3)
  have T3 := hide ((unhide T2).trans (Turn.of_below b3))
  have F3 := hide ((unhide F2).upR b3)
  have S3 := hide (show w2.heap.size < (w2.alloc (.cells #[.iface y2 u2] 105)).heap.size from by simp)
  have B3 := hide b3
  clear p2 b3
  generalize hW3 : w2.alloc (.cells #[.iface y2 u2] 105) = w3 at *
  clear hW3
  go_loopw [5] (fun av wr => av = .slice (some ⟨w2.heap.size, 0, none⟩) 1 1 ∧ wr = w3) (fun av _ => 0)
  case atStart => exact ⟨rfl, rfl⟩
  case round =>
    obtain ⟨rfl, rfl⟩ := hrel
    have s0 : wr.cell? ⟨1, 60, none⟩ = some (.int .i64 1) := ((unhide P3).sh.2 20 (by decide)).1
    have LB := hide (show ([.iface y2 u2] : List Value).length = 1 from rfl)
    have AB := hide ((unhide A3).mono (unhide T2).size)
    have FB := F3
    have PB := P3
    have TB := T3
    have RB := hide (show shutR ws 20 1 x2.f k2 = R from unhide R2)
    clear R2 N2 A3 P3 T3 F3 F2
    go_wp2_with fail
    refine (must_any ws hw sz _ rb a c _ sShut (.inr (by decide)) (by decide) (unhide PB).pr).mono ?_
    rintro e w8 (⟨m8, rfl, p8, t8⟩ | ⟨m8, rfl, t8⟩)
    rotate_left
    · exact ⟨rfl, .inl ⟨_, by rw [← unhide RB]; exact must_no m8, rfl, hide ((unhide TB).trans (unhide t8))⟩⟩
    have R8 := unhide RB
    unfold shutR at R8
    rw [must_yes m8] at R8
    replace R8 := hide R8
    have P8 := hide ((unhide PB).next (unhide t8) (unhide p8))
    have T8 := hide ((unhide TB).trans (unhide t8))
    have F8 := hide ((unhide FB).turnR (unhide t8) HRB)
    have A8 := hide ((unhide AB).turn (unhide t8) HRB)
    clear m8 p8 t8 PB RB TB FB AB
    go_wp2_with fail
    go_ret
    exact .inr ⟨_, _, _, _, (unhide R8).symm, rfl, P8, T8, hide (fm_call (show 18 ≤ (20 : Int) ∧ (20 : Int) ≤ 20 by decide) (show ((1 : Nat) : Int) = arity 20 by decide) (unhide LB) (by decide) (unhide A8) (unhide F8))⟩
end Go.Proofs.YtjfebnplffpmoaaGreatDoor
