/-
  The program's signText and callText, and bareText at these forms.
-/
import Derived.Test.YtdfddockgfeccaaDoorImplText
namespace Go.Proofs.YtdfddockgfeccaaDoor
open Go.RowKit Go.Maps Go.Deep
set_option linter.unusedVariables false

theorem cell_under (w : World) (b o : Nat) (ob : Obj) (h : b < w.heap.size) : (w.alloc ob).cell? ⟨b, o, none⟩ = w.cell? ⟨b, o, none⟩ :=
  ((Below.refl w.heap.size w).alloc (Nat.le_refl _) ob).cell (p := ⟨b, o, none⟩) h
set_option maxRecDepth 100000 in
set_option maxHeartbeats 3200000 in
theorem sign_text_cmp (kn : Nat) (h5 : 5 ≤ kn) (h17 : kn ≤ 17) (kk : Int) (G : ByteArray)  (t0 t1 : TypeId) (u0 u1 : Value) (w : World) (hg : 0 < w.heap.size)
    (s0 : w.cell? ⟨0, kn * 3, none⟩ = some (.int .i64 kk)) (s1 : w.cell? ⟨0, kn * 3 + 1, none⟩ = some (.int .i64 3)) (s2 : w.cell? ⟨0, kn * 3 + 2, none⟩ = some (.string G))
    (T U : ByteArray) (hT : (T.size : Int) ≤ 24002) (hU : (U.size : Int) ≤ 24002) (hG : (G.size : Int) ≤ 3) (hY : ∀ W, Below w.heap.size w W → TextAtSaid W (.iface t0 u0) 4 T) (hZ : ∀ W, Below w.heap.size w W → TextAtSaid W (.iface t1 u1) 4 U) :
    Calls Tryd.prog 39 #[.agg #[.int .i64 (kn : Int), .iface t0 u0, .iface t1 u1]] w fun e w' => e = .returned (.string (T ++ ⟨#[32]⟩ ++ G ++ ⟨#[32]⟩ ++ U)) ∧ Below w.heap.size w w' := by
  have hi1 : (0 : Int) ≤ kn := by omega
  have hi2 : (kn : Int) < 24 := by omega
  have ha0 : ¬ 9223372036854775807 < T.size + 1 := by omega
  have ha1 : ¬ 9223372036854775807 < T.size + 1 + G.size := by omega
  have ha2 : ¬ 9223372036854775807 < T.size + 1 + G.size + 1 := by omega
  have ha3 : ¬ 9223372036854775807 < T.size + 1 + G.size + 1 + U.size := by omega
  go_enter Tryd.func39, Tryd.ntmps39
  go_wp2_with fail
  generalize hW1 : (w.alloc (.cells #[.int .i64 (kn : Int), .iface t0 u0, .iface t1 u1] 66)).alloc (.cells #[.int .i64 kk, .int .i64 3, .string G] 94) = W1
  have hna : w.heap.size < W1.heap.size := by subst hW1; simp; omega
  have hnb : w.heap.size + 1 < W1.heap.size := by subst hW1; simp
  have hbw : Below w.heap.size w W1 := by subst hW1; exact ((Below.refl _ _).alloc (Nat.le_refl _) _).alloc (by simp) _
  have dna1 : W1.cell? ⟨w.heap.size, 1, none⟩ = some (.iface t0 u0) := by subst hW1; rw [cell_under _ _ _ _ (by simp)]; exact World.cell?_alloc_at _ _ _ _ rfl
  have dna2 : W1.cell? ⟨w.heap.size, 2, none⟩ = some (.iface t1 u1) := by subst hW1; rw [cell_under _ _ _ _ (by simp)]; exact World.cell?_alloc_at _ _ _ _ rfl
  have dnb1 : W1.cell? ⟨w.heap.size + 1, 1, none⟩ = some (.int .i64 3) := by subst hW1; exact World.cell?_alloc_at _ _ _ _ (by simp)
  have dnb2 : W1.cell? ⟨w.heap.size + 1, 2, none⟩ = some (.string G) := by subst hW1; exact World.cell?_alloc_at _ _ _ _ (by simp)
  have HY := hide (hY W1 hbw)
  have HZ := hide (hZ W1 hbw)
  have HBW := hide (And.intro hbw (Nat.le_of_lt hna))
  clear hY hZ hW1 hbw s0 s1 s2 hg
  generalize w.heap.size + 1 = nb at hnb dnb1 dnb2 ⊢
  generalize w.heap.size = na at hna dna1 dna2 ⊢
  have KEEP : ∀ w', Below W1.heap.size W1 w' → (w'.cell? ⟨na, 1, none⟩ = some (.iface t0 u0) ∧ w'.cell? ⟨na, 2, none⟩ = some (.iface t1 u1) ∧ w'.cell? ⟨nb, 1, none⟩ = some (.int .i64 3) ∧ w'.cell? ⟨nb, 2, none⟩ = some (.string G)) ∧ Below W1.heap.size W1 w' := fun w' h => ⟨⟨(h.cell hna).trans dna1, (h.cell hna).trans dna2, (h.cell hnb).trans dnb1, (h.cell hnb).trans dnb2⟩, h⟩
  go_region_held3 (fun w' => (w'.cell? ⟨na, 1, none⟩ = some (.iface t0 u0) ∧ w'.cell? ⟨na, 2, none⟩ = some (.iface t1 u1) ∧ w'.cell? ⟨nb, 1, none⟩ = some (.int .i64 3) ∧ w'.cell? ⟨nb, 2, none⟩ = some (.string G)) ∧ Below W1.heap.size W1 w') ((refine KEEP _ ?_; first | assumption | exact below_dn (Below.refl _ _) 1))
    (first
      | (go_at_call 55; have := m0; refine (unhide HZ _ (And.right (by assumption))).mono ?_; rintro e w3 ⟨rfl, hb3⟩)
      | (go_at_call 55; refine (unhide HY _ (And.right (by assumption))).mono ?_; rintro e w2 ⟨rfl, hb2⟩; have m0 := True.intro))
  go_wp2_with fail
  go_ret
  exact ⟨rfl, (unhide HBW).1.trans (hb3.mono (unhide HBW).2)⟩
set_option maxRecDepth 100000 in
set_option maxHeartbeats 3200000 in
theorem sign_text_bin (kn : Nat) (h5 : 5 ≤ kn) (h17 : kn ≤ 17) (kk : Int) (G : ByteArray) (lv : Int) (hl0 : 0 ≤ lv) (hl7 : lv ≤ 7) (hl3 : lv ≠ 3) (t0 t1 : TypeId) (u0 u1 : Value) (w : World) (hg : 0 < w.heap.size)
    (s0 : w.cell? ⟨0, kn * 3, none⟩ = some (.int .i64 kk)) (s1 : w.cell? ⟨0, kn * 3 + 1, none⟩ = some (.int .i64 lv)) (s2 : w.cell? ⟨0, kn * 3 + 2, none⟩ = some (.string G))
    (T U : ByteArray) (hT : (T.size : Int) ≤ 24002) (hU : (U.size : Int) ≤ 24002) (hG : (G.size : Int) ≤ 3) (hY : ∀ W, Below w.heap.size w W → TextAtSaid W (.iface t0 u0) lv T) (hZ : ∀ W, Below w.heap.size w W → TextAtSaid W (.iface t1 u1) (lv + 1) U) :
    Calls Tryd.prog 39 #[.agg #[.int .i64 (kn : Int), .iface t0 u0, .iface t1 u1]] w fun e w' => e = .returned (.string (T ++ ⟨#[32]⟩ ++ G ++ ⟨#[32]⟩ ++ U)) ∧ Below w.heap.size w w' := by
  have hi1 : (0 : Int) ≤ kn := by omega
  have hi2 : (kn : Int) < 24 := by omega
  have el : (lv == 3) = false := by simp [hl3]
  have hw : IntKind.i64.wrap (lv + 1) = lv + 1 := by rw [IntKind.wrap_i64]; omega
  clear hl3
  have ha0 : ¬ 9223372036854775807 < T.size + 1 := by omega
  have ha1 : ¬ 9223372036854775807 < T.size + 1 + G.size := by omega
  have ha2 : ¬ 9223372036854775807 < T.size + 1 + G.size + 1 := by omega
  have ha3 : ¬ 9223372036854775807 < T.size + 1 + G.size + 1 + U.size := by omega
  go_enter Tryd.func39, Tryd.ntmps39
  go_wp2_with fail
  generalize hW1 : (w.alloc (.cells #[.int .i64 (kn : Int), .iface t0 u0, .iface t1 u1] 66)).alloc (.cells #[.int .i64 kk, .int .i64 lv, .string G] 94) = W1
  have hna : w.heap.size < W1.heap.size := by subst hW1; simp; omega
  have hnb : w.heap.size + 1 < W1.heap.size := by subst hW1; simp
  have hbw : Below w.heap.size w W1 := by subst hW1; exact ((Below.refl _ _).alloc (Nat.le_refl _) _).alloc (by simp) _
  have dna1 : W1.cell? ⟨w.heap.size, 1, none⟩ = some (.iface t0 u0) := by subst hW1; rw [cell_under _ _ _ _ (by simp)]; exact World.cell?_alloc_at _ _ _ _ rfl
  have dna2 : W1.cell? ⟨w.heap.size, 2, none⟩ = some (.iface t1 u1) := by subst hW1; rw [cell_under _ _ _ _ (by simp)]; exact World.cell?_alloc_at _ _ _ _ rfl
  have dnb1 : W1.cell? ⟨w.heap.size + 1, 1, none⟩ = some (.int .i64 lv) := by subst hW1; exact World.cell?_alloc_at _ _ _ _ (by simp)
  have dnb2 : W1.cell? ⟨w.heap.size + 1, 2, none⟩ = some (.string G) := by subst hW1; exact World.cell?_alloc_at _ _ _ _ (by simp)
  have HY := hide (hY W1 hbw)
  have HZ := hide (hZ W1 hbw)
  have HBW := hide (And.intro hbw (Nat.le_of_lt hna))
  clear hY hZ hW1 hbw s0 s1 s2 hg
  generalize w.heap.size + 1 = nb at hnb dnb1 dnb2 ⊢
  generalize w.heap.size = na at hna dna1 dna2 ⊢
  have KEEP : ∀ w', Below W1.heap.size W1 w' → (w'.cell? ⟨na, 1, none⟩ = some (.iface t0 u0) ∧ w'.cell? ⟨na, 2, none⟩ = some (.iface t1 u1) ∧ w'.cell? ⟨nb, 1, none⟩ = some (.int .i64 lv) ∧ w'.cell? ⟨nb, 2, none⟩ = some (.string G)) ∧ Below W1.heap.size W1 w' := fun w' h => ⟨⟨(h.cell hna).trans dna1, (h.cell hna).trans dna2, (h.cell hnb).trans dnb1, (h.cell hnb).trans dnb2⟩, h⟩
  go_region_held3 (fun w' => (w'.cell? ⟨na, 1, none⟩ = some (.iface t0 u0) ∧ w'.cell? ⟨na, 2, none⟩ = some (.iface t1 u1) ∧ w'.cell? ⟨nb, 1, none⟩ = some (.int .i64 lv) ∧ w'.cell? ⟨nb, 2, none⟩ = some (.string G)) ∧ Below W1.heap.size W1 w') ((refine KEEP _ ?_; first | assumption | exact below_dn (Below.refl _ _) 1))
    (first
      | (go_at_call 55; have := m0; refine (unhide HZ _ (And.right (by assumption))).mono ?_; rintro e w3 ⟨rfl, hb3⟩)
      | (go_at_call 55; refine (unhide HY _ (And.right (by assumption))).mono ?_; rintro e w2 ⟨rfl, hb2⟩; have m0 := True.intro))
  go_wp2_with fail
  go_ret
  exact ⟨rfl, (unhide HBW).1.trans (hb3.mono (unhide HBW).2)⟩
set_option maxRecDepth 100000 in
set_option maxHeartbeats 3200000 in
theorem bt_sign (k : Int) (t0 t1 : TypeId) (u0 u1 : Value) (w : World) (R : ByteArray) (h : ∀ W, Below w.heap.size w W → Calls Tryd.prog 39 #[.agg #[.int .i64 k, .iface t0 u0, .iface t1 u1]] W fun e w' => e = .returned (.string R) ∧ Below W.heap.size W w') :
    Calls Tryd.prog 21 #[.iface 66 (.agg #[.int .i64 k, .iface t0 u0, .iface t1 u1])] w fun e w' => e = .returned (.string R) ∧ Below w.heap.size w w' := by
  have HY := hide (h _ ((Below.refl w.heap.size w).alloc (Nat.le_refl _) (.cells #[.int .i64 k, .iface t0 u0, .iface t1 u1] 66)))
  clear h
  have q0 := as_num_sign (.agg #[.int .i64 k, .iface t0 u0, .iface t1 u1])
  have q1 := as_name_sign (.agg #[.int .i64 k, .iface t0 u0, .iface t1 u1])
  have q2 := as_ahead_sign (.agg #[.int .i64 k, .iface t0 u0, .iface t1 u1])
  have q3 := as_sign_sign (.agg #[.int .i64 k, .iface t0 u0, .iface t1 u1])
  go_enter Tryd.func21, Tryd.ntmps21
  go_wp2_with (first
    | (go_at_call 39; refine (unhide HY).mono ?_; rintro e w2 ⟨rfl, hb2⟩))
  go_ret
  exact ⟨rfl, ((Below.refl _ _).alloc (Nat.le_refl _) _).trans (hb2.mono (by simp))⟩
set_option maxRecDepth 100000 in
set_option maxHeartbeats 3200000 in
theorem bt_call (k : Int) (ad : Option Addr) (n cap : Nat) (w : World) (R : ByteArray) (h : ∀ W, Below w.heap.size w W → Calls Tryd.prog 40 #[.agg #[.int .i64 k, .slice ad n cap]] W fun e w' => e = .returned (.string R) ∧ Below W.heap.size W w') :
    Calls Tryd.prog 21 #[.iface 70 (.agg #[.int .i64 k, .slice ad n cap])] w fun e w' => e = .returned (.string R) ∧ Below w.heap.size w w' := by
  have HY := hide (h _ ((Below.refl w.heap.size w).alloc (Nat.le_refl _) (.cells #[.int .i64 k, .slice ad n cap] 70)))
  clear h
  have q0 := as_num_call (.agg #[.int .i64 k, .slice ad n cap])
  have q1 := as_name_call (.agg #[.int .i64 k, .slice ad n cap])
  have q2 := as_ahead_call (.agg #[.int .i64 k, .slice ad n cap])
  have q3 := as_sign_call (.agg #[.int .i64 k, .slice ad n cap])
  have q4 := as_call_call (.agg #[.int .i64 k, .slice ad n cap])
  go_enter Tryd.func21, Tryd.ntmps21
  go_wp2_with (first
    | (go_at_call 40; refine (unhide HY).mono ?_; rintro e w2 ⟨rfl, hb2⟩))
  go_ret
  exact ⟨rfl, ((Below.refl _ _).alloc (Nat.le_refl _) _).trans (hb2.mono (by simp))⟩

end Go.Proofs.YtdfddockgfeccaaDoor
