/-
  The program's reader: what its functions hand back, or how they give up.
-/
/-
  The program's reader: what binds least. (Made by wip/mkrdre.py.)
-/
import Derived.Test.YtjfebnplffpmoaaGreatDoorMerged39
import Derived.Test.YtjfebnplffpmoaaGreatDoorReadS3
import Derived.Test.YtjfebnplffpmoaaGreatDoorMerged9
set_option linter.unusedVariables false
namespace Go.Proofs.YtjfebnplffpmoaaGreatDoor
open Go.RowKit Go.Maps Go.Deep

/-- a reading: it gives up where the words are wrong, or hands back the tree's form -/
def RetI (ws : List WordV) (sz rb : Nat) (a : Option Addr) (c : Nat) (r : PRes) (w : World) (e : Ending) (w' : World) : Prop :=
  (∃ k, r = .bad k ∧ e = .panicked (badChain ws sz k) ∧ Hid (Turn [rb] w w')) ∨
  (∃ t k ty u, r = .ok t k ∧ e = .returned (.iface ty u) ∧ Hid (PrK ws sz w' rb a c k) ∧ Hid (Turn [rb] w w') ∧ Hid (FormsAre w.heap.size w' t.f [.iface ty u]))
theorem Turn.agree {rb B : Nat} {w w' : World} (t : Turn [rb] w w') (hb : rb < B) : Agree B w w' := ⟨t.size, fun k hk h => t.block k h (by simp; omega)⟩
theorem FormsAre.turnR {rb B : Nat} {w w' : World} {f : BT NodeV} {vs : List Value} (h : FormsAre B w f vs) (t : Turn [rb] w w') (hb : rb < B) : FormsAre B w' f vs := h.agree (t.agree hb)
theorem FormsAre.upR {B : Nat} {w w' : World} {f : BT NodeV} {vs : List Value} (h : FormsAre B w f vs) (b : Below w.heap.size w w') : FormsAre B w' f vs := h.agree (Agree.of_below b)
/-- the form of a node over the forms of its kids -/
theorem forms_node {B : Nat} {w : World} {x : NodeV} {l : BT NodeV} {ws : List Value} {v : Value} (h : FormsAre B w l ws) (hn : IsNode B w x ws v) : FormsAre B w (TreeV.f ⟨x, l⟩) [v] := ⟨v, [], ws, rfl, h, hn, rfl⟩
theorem must_yes {ws : List WordV} {s : ByteArray} {n : Nat} {f : Nat → PRes} (h : txt ws n = s) : must ws s n f = f (n + 1) := if_pos h
theorem must_no {ws : List WordV} {s : ByteArray} {n : Nat} {f : Nat → PRes} (h : txt ws n ≠ s) : must ws s n f = .bad n := if_neg h
theorem name_yes {ws : List WordV} {n : Nat} {f : ByteArray → Nat → PRes} (h : n < ws.length) (hk : ws[n].a0 = 2) : mustName ws n f = f ws[n].a1 (n + 1) := by
  unfold mustName
  rw [List.getElem?_eq_getElem h]
  exact if_pos hk
theorem name_no {ws : List WordV} {n : Nat} {f : ByteArray → Nat → PRes} (h : isT ws n 2 = false) : mustName ws n f = .bad n := by
  unfold isT at h
  unfold mustName
  split
  · rename_i x hx
    rw [hx] at h
    simp only [beq_eq_false_iff_ne] at h
    exact if_neg h
  · rfl
theorem needE {ws : List WordV} {f n m : Nat} (h : needF (ws.length - n) .expr < f) (hm : n ≤ m) : needF (ws.length - m) .expr < f := by simp only [needF] at h ⊢; omega
theorem fwdE {ws : List WordV} {f n k : Nat} {t : TreeV} (hle : n ≤ ws.length) (h : needF (ws.length - n) .expr < f) (hp : parse ws f .expr n = .ok t k) : n < k ∧ needF (ws.length - k) .expr < f := by
  have g := parse_good ws f .expr n hle trivial h
  rw [hp] at g
  have h1 : n < k := g.1
  exact ⟨h1, needE h (Nat.le_of_lt h1)⟩
theorem ok_then {t : TreeV} {k : Nat} {f : TreeV → Nat → PRes} : (PRes.ok t k).then f = f t k := rfl
theorem bad_then {k : Nat} {f : TreeV → Nat → PRes} : (PRes.bad k).then f = .bad k := rfl
def SaidIE (ws : List WordV) (sz f : Nat) : Prop := ∀ (w : World) (rb : Nat) (a : Option Addr) (c n : Nat), PrK ws sz w rb a c n → needF (ws.length - n) .expr < f → Calls Tryz.prog 50 #[.pointer (some ⟨rb, 0, none⟩)] w fun e w' => RetI ws sz rb a c (parse ws f .expr n) w e w'
def SaidIL (ws : List WordV) (sz f : Nat) : Prop := ∀ (lv : Nat) (w : World) (rb : Nat) (a : Option Addr) (c n : Nat), 1 ≤ lv → lv ≤ 6 → PrK ws sz w rb a c n → needF (ws.length - n) (.level lv) < f → Calls Tryz.prog 70 #[.pointer (some ⟨rb, 0, none⟩), .int .i64 (lv : Int)] w fun e w' => RetI ws sz rb a c (parse ws f (.level lv) n) w e w'
def SaidIH (ws : List WordV) (sz f : Nat) : Prop := ∀ (w : World) (rb : Nat) (a : Option Addr) (c n : Nat), PrK ws sz w rb a c n → needF (ws.length - n) .ahead < f → Calls Tryz.prog 76 #[.pointer (some ⟨rb, 0, none⟩)] w fun e w' => RetI ws sz rb a c (parse ws f .ahead n) w e w'
def SaidIA (ws : List WordV) (sz f : Nat) : Prop := ∀ (w : World) (rb : Nat) (a : Option Addr) (c n : Nat), PrK ws sz w rb a c n → needF (ws.length - n) .atom < f → Calls Tryz.prog 79 #[.pointer (some ⟨rb, 0, none⟩)] w fun e w' => RetI ws sz rb a c (parse ws f .atom n) w e w'
def ifR (ws : List WordV) (f n : Nat) : PRes := (parse ws f .expr n).then fun a n1 => must ws kThen n1 fun n2 => (parse ws f .expr n2).then fun b n3 => must ws kElse n3 fun n4 => (parse ws f .expr n4).then fun c n5 => .ok (node3 21 ⟨#[]⟩ a b c) n5
def letR (ws : List WordV) (f n : Nat) : PRes := mustName ws n fun nm n1 => must ws sEq n1 fun n2 => (parse ws f .expr n2).then fun a n3 => must ws kIn n3 fun n4 => (parse ws f .expr n4).then fun b n5 => .ok (node2 22 nm a b) n5
def repR (ws : List WordV) (f n : Nat) : PRes := (parse ws f .expr n).then fun a n1 => must ws kAs n1 fun n2 => mustName ws n2 fun nm n3 => must ws kFrom n3 fun n4 => (parse ws f .expr n4).then fun b n5 => must ws kBy n5 fun n6 => (parse ws f .expr n6).then fun c n7 => .ok (node3 23 nm a b c) n7
end Go.Proofs.YtjfebnplffpmoaaGreatDoor

set_option linter.unusedVariables false
namespace Go.Proofs.YtjfebnplffpmoaaGreatDoor
open Go.RowKit Go.Maps Go.Deep

set_option maxHeartbeats 6400000 in
set_option maxRecDepth 20000 in
theorem ifRest_any (ws : List WordV) (hw : ∀ x ∈ ws, WordIs x) (sz f : Nat) (HE : SaidIE ws sz f) (w : World) (rb : Nat) (a : Option Addr) (c n : Nat) (h : PrK ws sz w rb a c n) (hf : needF (ws.length - n) .expr < f) :
    Calls Tryz.prog 67 #[.pointer (some ⟨rb, 0, none⟩)] w fun e w' => RetI ws sz rb a c (ifR ws f n) w e w' := by
  have HRB := h.pr.lt
  have P0 := hide h
  have T0 := hide (Turn.refl [rb] w)
  have N0 := hide (needE hf (Nat.le_refl n))
  generalize hR : ifR ws f n = R
  unfold ifR at hR
  have R0 := hide hR
  clear h hf hR
  go_enter Tryz.func67, Tryz.ntmps67
  go_wp2_with fail
  refine (HE _ rb a c _ (unhide P0) (unhide N0)).mono ?_
  rintro e w1 (⟨k1, hp1, rfl, t1⟩ | ⟨x1, k1, y1, u1, hp1, rfl, p1, t1, f1⟩)
  · exact ⟨rfl, .inl ⟨k1, by rw [← unhide R0, hp1]; rfl, rfl, hide ((unhide T0).trans (unhide t1))⟩⟩
  have T1 := hide ((unhide T0).trans (unhide t1))
  have P1 := p1
  have N1 := hide (fwdE (unhide P0).pr.le (unhide N0) hp1).2
  have R1 := unhide R0
  rw [hp1, ok_then] at R1
  replace R1 := hide R1
  have F1 := hide ((unhide f1).mono (unhide T0).size)
  clear P0 T0 N0 R0 p1 t1 f1 hp1
  go_wp2_with fail
  refine (must_any ws hw sz _ rb a c _ kThen (.inl (by decide)) (by decide) (unhide P1).pr).mono ?_
  rintro e w2 (⟨m2, rfl, p2, t2⟩ | ⟨m2, rfl, t2⟩)
  rotate_left
  · exact ⟨rfl, .inl ⟨_, by rw [← unhide R1]; exact must_no m2, rfl, hide ((unhide T1).trans (unhide t2))⟩⟩
  have T2 := hide ((unhide T1).trans (unhide t2))
  have P2 := hide ((unhide P1).next (unhide t2) (unhide p2))
  have N2 := hide (needE (unhide N1) (Nat.le_succ _))
  have R2 := unhide R1
  rw [must_yes m2] at R2
  replace R2 := hide R2
  replace F1 := hide ((unhide F1).turnR (unhide t2) HRB)
  clear P1 T1 N1 R1 p2 t2 m2
  go_wp2_with fail
  refine (HE _ rb a c _ (unhide P2) (unhide N2)).mono ?_
  rintro e w3 (⟨k3, hp3, rfl, t3⟩ | ⟨x3, k3, y3, u3, hp3, rfl, p3, t3, f3⟩)
  · exact ⟨rfl, .inl ⟨k3, by rw [← unhide R2, hp3]; rfl, rfl, hide ((unhide T2).trans (unhide t3))⟩⟩
  have T3 := hide ((unhide T2).trans (unhide t3))
  have P3 := p3
  have N3 := hide (fwdE (unhide P2).pr.le (unhide N2) hp3).2
  have R3 := unhide R2
  rw [hp3, ok_then] at R3
  replace R3 := hide R3
  have F3 := hide ((unhide f3).mono (unhide T2).size)
  replace F1 := hide ((unhide F1).turnR (unhide t3) HRB)
  clear P2 T2 N2 R2 p3 t3 f3 hp3
  go_wp2_with fail
  refine (must_any ws hw sz _ rb a c _ kElse (.inl (by decide)) (by decide) (unhide P3).pr).mono ?_
  rintro e w4 (⟨m4, rfl, p4, t4⟩ | ⟨m4, rfl, t4⟩)
  rotate_left
  · exact ⟨rfl, .inl ⟨_, by rw [← unhide R3]; exact must_no m4, rfl, hide ((unhide T3).trans (unhide t4))⟩⟩
  have T4 := hide ((unhide T3).trans (unhide t4))
  have P4 := hide ((unhide P3).next (unhide t4) (unhide p4))
  have N4 := hide (needE (unhide N3) (Nat.le_succ _))
  have R4 := unhide R3
  rw [must_yes m4] at R4
  replace R4 := hide R4
  replace F1 := hide ((unhide F1).turnR (unhide t4) HRB)
  replace F3 := hide ((unhide F3).turnR (unhide t4) HRB)
  clear P3 T3 N3 R3 p4 t4 m4
  go_wp2_with fail
  refine (HE _ rb a c _ (unhide P4) (unhide N4)).mono ?_
  rintro e w5 (⟨k5, hp5, rfl, t5⟩ | ⟨x5, k5, y5, u5, hp5, rfl, p5, t5, f5⟩)
  · exact ⟨rfl, .inl ⟨k5, by rw [← unhide R4, hp5]; rfl, rfl, hide ((unhide T4).trans (unhide t5))⟩⟩
  have T5 := hide ((unhide T4).trans (unhide t5))
  have P5 := p5
  have N5 := hide (fwdE (unhide P4).pr.le (unhide N4) hp5).2
  have R5 := unhide R4
  rw [hp5, ok_then] at R5
  replace R5 := hide R5
  have F5 := hide ((unhide f5).mono (unhide T4).size)
  replace F1 := hide ((unhide F1).turnR (unhide t5) HRB)
  replace F3 := hide ((unhide F3).turnR (unhide t5) HRB)
  clear P4 T4 N4 R4 p5 t5 f5 hp5
  go_wp2_with fail
  go_ret
  exact .inr ⟨_, _, _, _, (unhide R5).symm, rfl, P5, T5, hide (forms_node (FormsAre.app (unhide F1) (FormsAre.app (unhide F3) (unhide F5))) (.inr (.inr (.inr (.inr (.inr (.inl ⟨_, _, _, rfl, rfl, rfl⟩)))))))⟩
set_option maxHeartbeats 6400000 in
set_option maxRecDepth 20000 in
theorem letRest_any (ws : List WordV) (hw : ∀ x ∈ ws, WordIs x) (sz f : Nat) (HE : SaidIE ws sz f) (w : World) (rb : Nat) (a : Option Addr) (c n : Nat) (h : PrK ws sz w rb a c n) (hf : needF (ws.length - n) .expr < f) :
    Calls Tryz.prog 68 #[.pointer (some ⟨rb, 0, none⟩)] w fun e w' => RetI ws sz rb a c (letR ws f n) w e w' := by
  have HRB := h.pr.lt
  have P0 := hide h
  have T0 := hide (Turn.refl [rb] w)
  have N0 := hide (needE hf (Nat.le_refl n))
  generalize hR : letR ws f n = R
  unfold letR at hR
  have R0 := hide hR
  clear h hf hR
  go_enter Tryz.func68, Tryz.ntmps68
  go_wp2_with fail
  refine (mustBe_any ws sz _ rb a c _ 2 (unhide P0).pr).mono ?_
  rintro e w1 (⟨hl1, hk1, rfl, p1, t1⟩ | ⟨hk1, rfl, t1⟩)
  rotate_left
  · exact ⟨rfl, .inl ⟨_, by rw [← unhide R0]; exact name_no hk1, rfl, hide ((unhide T0).trans (unhide t1))⟩⟩
  have T1 := hide ((unhide T0).trans (unhide t1))
  have P1 := hide ((unhide P0).next (unhide t1) (unhide p1))
  have N1 := hide (needE (unhide N0) (Nat.le_succ _))
  have R1 := unhide R0
  rw [name_yes hl1 hk1] at R1
  replace R1 := hide R1
  clear P0 T0 N0 R0 p1 t1
  generalize ws[n].a1 = nm at *
  clear hk1
  go_wp2_with fail
  refine (must_any ws hw sz _ rb a c _ sEq (.inr (by decide)) (by decide) (unhide P1).pr).mono ?_
  rintro e w2 (⟨m2, rfl, p2, t2⟩ | ⟨m2, rfl, t2⟩)
  rotate_left
  · exact ⟨rfl, .inl ⟨_, by rw [← unhide R1]; exact must_no m2, rfl, hide ((unhide T1).trans (unhide t2))⟩⟩
  have T2 := hide ((unhide T1).trans (unhide t2))
  have P2 := hide ((unhide P1).next (unhide t2) (unhide p2))
  have N2 := hide (needE (unhide N1) (Nat.le_succ _))
  have R2 := unhide R1
  rw [must_yes m2] at R2
  replace R2 := hide R2
  clear P1 T1 N1 R1 p2 t2 m2
  go_wp2_with fail
  refine (HE _ rb a c _ (unhide P2) (unhide N2)).mono ?_
  rintro e w3 (⟨k3, hp3, rfl, t3⟩ | ⟨x3, k3, y3, u3, hp3, rfl, p3, t3, f3⟩)
  · exact ⟨rfl, .inl ⟨k3, by rw [← unhide R2, hp3]; rfl, rfl, hide ((unhide T2).trans (unhide t3))⟩⟩
  have T3 := hide ((unhide T2).trans (unhide t3))
  have P3 := p3
  have N3 := hide (fwdE (unhide P2).pr.le (unhide N2) hp3).2
  have R3 := unhide R2
  rw [hp3, ok_then] at R3
  replace R3 := hide R3
  have F3 := hide ((unhide f3).mono (unhide T2).size)
  clear P2 T2 N2 R2 p3 t3 f3 hp3
  go_wp2_with fail
  refine (must_any ws hw sz _ rb a c _ kIn (.inl (by decide)) (by decide) (unhide P3).pr).mono ?_
  rintro e w4 (⟨m4, rfl, p4, t4⟩ | ⟨m4, rfl, t4⟩)
  rotate_left
  · exact ⟨rfl, .inl ⟨_, by rw [← unhide R3]; exact must_no m4, rfl, hide ((unhide T3).trans (unhide t4))⟩⟩
  have T4 := hide ((unhide T3).trans (unhide t4))
  have P4 := hide ((unhide P3).next (unhide t4) (unhide p4))
  have N4 := hide (needE (unhide N3) (Nat.le_succ _))
  have R4 := unhide R3
  rw [must_yes m4] at R4
  replace R4 := hide R4
  replace F3 := hide ((unhide F3).turnR (unhide t4) HRB)
  clear P3 T3 N3 R3 p4 t4 m4
  go_wp2_with fail
  refine (HE _ rb a c _ (unhide P4) (unhide N4)).mono ?_
  rintro e w5 (⟨k5, hp5, rfl, t5⟩ | ⟨x5, k5, y5, u5, hp5, rfl, p5, t5, f5⟩)
  · exact ⟨rfl, .inl ⟨k5, by rw [← unhide R4, hp5]; rfl, rfl, hide ((unhide T4).trans (unhide t5))⟩⟩
  have T5 := hide ((unhide T4).trans (unhide t5))
  have P5 := p5
  have N5 := hide (fwdE (unhide P4).pr.le (unhide N4) hp5).2
  have R5 := unhide R4
  rw [hp5, ok_then] at R5
  replace R5 := hide R5
  have F5 := hide ((unhide f5).mono (unhide T4).size)
  replace F3 := hide ((unhide F3).turnR (unhide t5) HRB)
  clear P4 T4 N4 R4 p5 t5 f5 hp5
  go_wp2_with fail
  go_ret
  exact .inr ⟨_, _, _, _, (unhide R5).symm, rfl, P5, T5, hide (forms_node (FormsAre.app (unhide F3) (unhide F5)) (.inr (.inr (.inr (.inr (.inr (.inr (.inl ⟨_, _, rfl, rfl, rfl⟩))))))))⟩
set_option maxHeartbeats 6400000 in
set_option maxRecDepth 20000 in
theorem repRest_any (ws : List WordV) (hw : ∀ x ∈ ws, WordIs x) (sz f : Nat) (HE : SaidIE ws sz f) (w : World) (rb : Nat) (a : Option Addr) (c n : Nat) (h : PrK ws sz w rb a c n) (hf : needF (ws.length - n) .expr < f) :
    Calls Tryz.prog 69 #[.pointer (some ⟨rb, 0, none⟩)] w fun e w' => RetI ws sz rb a c (repR ws f n) w e w' := by
  have HRB := h.pr.lt
  have P0 := hide h
  have T0 := hide (Turn.refl [rb] w)
  have N0 := hide (needE hf (Nat.le_refl n))
  generalize hR : repR ws f n = R
  unfold repR at hR
  have R0 := hide hR
  clear h hf hR
  go_enter Tryz.func69, Tryz.ntmps69
  go_wp2_with fail
  refine (HE _ rb a c _ (unhide P0) (unhide N0)).mono ?_
  rintro e w1 (⟨k1, hp1, rfl, t1⟩ | ⟨x1, k1, y1, u1, hp1, rfl, p1, t1, f1⟩)
  · exact ⟨rfl, .inl ⟨k1, by rw [← unhide R0, hp1]; rfl, rfl, hide ((unhide T0).trans (unhide t1))⟩⟩
  have T1 := hide ((unhide T0).trans (unhide t1))
  have P1 := p1
  have N1 := hide (fwdE (unhide P0).pr.le (unhide N0) hp1).2
  have R1 := unhide R0
  rw [hp1, ok_then] at R1
  replace R1 := hide R1
  have F1 := hide ((unhide f1).mono (unhide T0).size)
  clear P0 T0 N0 R0 p1 t1 f1 hp1
  go_wp2_with fail
  refine (must_any ws hw sz _ rb a c _ kAs (.inl (by decide)) (by decide) (unhide P1).pr).mono ?_
  rintro e w2 (⟨m2, rfl, p2, t2⟩ | ⟨m2, rfl, t2⟩)
  rotate_left
  · exact ⟨rfl, .inl ⟨_, by rw [← unhide R1]; exact must_no m2, rfl, hide ((unhide T1).trans (unhide t2))⟩⟩
  have T2 := hide ((unhide T1).trans (unhide t2))
  have P2 := hide ((unhide P1).next (unhide t2) (unhide p2))
  have N2 := hide (needE (unhide N1) (Nat.le_succ _))
  have R2 := unhide R1
  rw [must_yes m2] at R2
  replace R2 := hide R2
  replace F1 := hide ((unhide F1).turnR (unhide t2) HRB)
  clear P1 T1 N1 R1 p2 t2 m2
  go_wp2_with fail
  refine (mustBe_any ws sz _ rb a c _ 2 (unhide P2).pr).mono ?_
  rintro e w3 (⟨hl3, hk3, rfl, p3, t3⟩ | ⟨hk3, rfl, t3⟩)
  rotate_left
  · exact ⟨rfl, .inl ⟨_, by rw [← unhide R2]; exact name_no hk3, rfl, hide ((unhide T2).trans (unhide t3))⟩⟩
  have T3 := hide ((unhide T2).trans (unhide t3))
  have P3 := hide ((unhide P2).next (unhide t3) (unhide p3))
  have N3 := hide (needE (unhide N2) (Nat.le_succ _))
  have R3 := unhide R2
  rw [name_yes hl3 hk3] at R3
  replace R3 := hide R3
  replace F1 := hide ((unhide F1).turnR (unhide t3) HRB)
  clear P2 T2 N2 R2 p3 t3
  generalize ws[k1 + 1].a1 = nm at *
  clear hk3
  go_wp2_with fail
  refine (must_any ws hw sz _ rb a c _ kFrom (.inl (by decide)) (by decide) (unhide P3).pr).mono ?_
  rintro e w4 (⟨m4, rfl, p4, t4⟩ | ⟨m4, rfl, t4⟩)
  rotate_left
  · exact ⟨rfl, .inl ⟨_, by rw [← unhide R3]; exact must_no m4, rfl, hide ((unhide T3).trans (unhide t4))⟩⟩
  have T4 := hide ((unhide T3).trans (unhide t4))
  have P4 := hide ((unhide P3).next (unhide t4) (unhide p4))
  have N4 := hide (needE (unhide N3) (Nat.le_succ _))
  have R4 := unhide R3
  rw [must_yes m4] at R4
  replace R4 := hide R4
  replace F1 := hide ((unhide F1).turnR (unhide t4) HRB)
  clear P3 T3 N3 R3 p4 t4 m4
  go_wp2_with fail
  refine (HE _ rb a c _ (unhide P4) (unhide N4)).mono ?_
  rintro e w5 (⟨k5, hp5, rfl, t5⟩ | ⟨x5, k5, y5, u5, hp5, rfl, p5, t5, f5⟩)
  · exact ⟨rfl, .inl ⟨k5, by rw [← unhide R4, hp5]; rfl, rfl, hide ((unhide T4).trans (unhide t5))⟩⟩
  have T5 := hide ((unhide T4).trans (unhide t5))
  have P5 := p5
  have N5 := hide (fwdE (unhide P4).pr.le (unhide N4) hp5).2
  have R5 := unhide R4
  rw [hp5, ok_then] at R5
  replace R5 := hide R5
  have F5 := hide ((unhide f5).mono (unhide T4).size)
  replace F1 := hide ((unhide F1).turnR (unhide t5) HRB)
  clear P4 T4 N4 R4 p5 t5 f5 hp5
  go_wp2_with fail
  refine (must_any ws hw sz _ rb a c _ kBy (.inl (by decide)) (by decide) (unhide P5).pr).mono ?_
  rintro e w6 (⟨m6, rfl, p6, t6⟩ | ⟨m6, rfl, t6⟩)
  rotate_left
  · exact ⟨rfl, .inl ⟨_, by rw [← unhide R5]; exact must_no m6, rfl, hide ((unhide T5).trans (unhide t6))⟩⟩
  have T6 := hide ((unhide T5).trans (unhide t6))
  have P6 := hide ((unhide P5).next (unhide t6) (unhide p6))
  have N6 := hide (needE (unhide N5) (Nat.le_succ _))
  have R6 := unhide R5
  rw [must_yes m6] at R6
  replace R6 := hide R6
  replace F1 := hide ((unhide F1).turnR (unhide t6) HRB)
  replace F5 := hide ((unhide F5).turnR (unhide t6) HRB)
  clear P5 T5 N5 R5 p6 t6 m6
  go_wp2_with fail
  refine (HE _ rb a c _ (unhide P6) (unhide N6)).mono ?_
  rintro e w7 (⟨k7, hp7, rfl, t7⟩ | ⟨x7, k7, y7, u7, hp7, rfl, p7, t7, f7⟩)
  · exact ⟨rfl, .inl ⟨k7, by rw [← unhide R6, hp7]; rfl, rfl, hide ((unhide T6).trans (unhide t7))⟩⟩
  have T7 := hide ((unhide T6).trans (unhide t7))
  have P7 := p7
  have N7 := hide (fwdE (unhide P6).pr.le (unhide N6) hp7).2
  have R7 := unhide R6
  rw [hp7, ok_then] at R7
  replace R7 := hide R7
  have F7 := hide ((unhide f7).mono (unhide T6).size)
  replace F1 := hide ((unhide F1).turnR (unhide t7) HRB)
  replace F5 := hide ((unhide F5).turnR (unhide t7) HRB)
  clear P6 T6 N6 R6 p7 t7 f7 hp7
  go_wp2_with fail
  go_ret
  exact .inr ⟨_, _, _, _, (unhide R7).symm, rfl, P7, T7, hide (forms_node (FormsAre.app (unhide F1) (FormsAre.app (unhide F5) (unhide F7))) (.inr (.inr (.inr (.inr (.inr (.inr (.inr ⟨_, _, _, rfl, rfl, rfl⟩))))))))⟩
end Go.Proofs.YtjfebnplffpmoaaGreatDoor
