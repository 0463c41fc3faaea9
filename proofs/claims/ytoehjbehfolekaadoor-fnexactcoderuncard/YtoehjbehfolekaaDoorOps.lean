/-
  MeanOp of both sides, at every kind and every two numbers.
-/
import Derived.Test.YtoehjbehfolekaaDoorSignTable
set_option linter.unusedVariables false
namespace Go.Proofs.YtoehjbehfolekaaDoor
open Go.RowKit Go.Maps

theorem sign_has (k : Int) (p : Nat) (h : (k, p) ∈ signRows) : Maps.has signMap (.int .i64 k) = true ∧ signMap.atKey (.int .i64 k) .nil = .held p := by
  simp only [signRows, List.mem_cons, Prod.mk.injEq, List.not_mem_nil, or_false] at h
  rcases h with ⟨rfl, rfl⟩ | ⟨rfl, rfl⟩ | ⟨rfl, rfl⟩ | ⟨rfl, rfl⟩ | ⟨rfl, rfl⟩ | ⟨rfl, rfl⟩ | ⟨rfl, rfl⟩ | ⟨rfl, rfl⟩ | ⟨rfl, rfl⟩ | ⟨rfl, rfl⟩ | ⟨rfl, rfl⟩ | ⟨rfl, rfl⟩ | ⟨rfl, rfl⟩ | ⟨rfl, rfl⟩ | ⟨rfl, rfl⟩ | ⟨rfl, rfl⟩ | ⟨rfl, rfl⟩ | ⟨rfl, rfl⟩ <;> exact ⟨rfl, rfl⟩

theorem sign_none (k : Int) (h : k < 3 ∨ 20 < k) : Maps.has signMap (.int .i64 k) = false := by
  unfold signMap signRows
  simp only [List.foldl_cons, List.foldl_nil]
  repeat rw [has_put_other (by intro e; injection e; omega)]
  rfl

theorem op_none (k a b : Int) (h : k < 3 ∨ 20 < k) : opVal k a b = 0 := by
  unfold opVal
  rw [if_neg (by omega), if_neg (by omega), if_neg (by omega), if_neg (by omega), if_neg (by omega), if_neg (by omega), if_neg (by omega), if_neg (by omega), if_neg (by omega), if_neg (by omega), if_neg (by omega), if_neg (by omega), if_neg (by omega), if_neg (by omega), if_neg (by omega), if_neg (by omega), if_neg (by omega), if_neg (by omega)]

theorem wf_of_ranged {k : Int} (h : ranged k) : (Lit.int .i64 k).wf = true := by
  unfold ranged at h
  rw [← IntWalk.wrap64_in k h]
  exact wrap64_wf k

set_option maxHeartbeats 800000 in
theorem of_neg (w : World) (t : Nat) (a b : Int) (ha : ranged a) (hown : w.ownsMap Tryd.prog 3 fnElem t 18 signMap) :
    Calls Tryd.prog 78 #[.map (some t), .int .i64 3, .int .i64 a, .int .i64 b] w fun e w' => e = .returned (.int .i64 (opVal 3 a b)) ∧ w' = w := by
  have hkey := keyOf_int_mk (k := 3) Tryd.underlying3 (a := 3) (q := .i64) (by decide)
  obtain ⟨h1, h2⟩ := sign_has 3 54 (by simp [signRows])
  have hm : Makes 54 a b (opVal 3 a b) := mk_neg a b
  generalize opVal 3 a b = r at hm ⊢
  go_enter Tryd.func78, Tryd.ntmps78
  go_wp2_with (first
    | (at_lookup; refine wpList_lookup_own_ok _ rfl _ _ 78 rfl 3 101 lawInt Tryd.underlying78 _ (zeroSign _) .nil [] rfl t 18 signMap rfl hown _ _ rfl hkey ?_; intro v ps hv; rw [h2] at hv; rw [h1]; obtain rfl := fnElem_inv hv)
    | (go_at_call 54; refine (hm _).mono ?_; rintro e w1 ⟨rfl, rfl⟩)
    | go_in)
  go_ret
  exact ⟨rfl, rfl⟩
set_option maxHeartbeats 800000 in
theorem of_not (w : World) (t : Nat) (a b : Int) (ha : ranged a) (hown : w.ownsMap Tryd.prog 3 fnElem t 18 signMap) :
    Calls Tryd.prog 78 #[.map (some t), .int .i64 4, .int .i64 a, .int .i64 b] w fun e w' => e = .returned (.int .i64 (opVal 4 a b)) ∧ w' = w := by
  have hkey := keyOf_int_mk (k := 3) Tryd.underlying3 (a := 4) (q := .i64) (by decide)
  obtain ⟨h1, h2⟩ := sign_has 4 55 (by simp [signRows])
  have hm : Makes 55 a b (opVal 4 a b) := mk_not a b
  generalize opVal 4 a b = r at hm ⊢
  go_enter Tryd.func78, Tryd.ntmps78
  go_wp2_with (first
    | (at_lookup; refine wpList_lookup_own_ok _ rfl _ _ 78 rfl 3 101 lawInt Tryd.underlying78 _ (zeroSign _) .nil [] rfl t 18 signMap rfl hown _ _ rfl hkey ?_; intro v ps hv; rw [h2] at hv; rw [h1]; obtain rfl := fnElem_inv hv)
    | (go_at_call 55; refine (hm _).mono ?_; rintro e w1 ⟨rfl, rfl⟩)
    | go_in)
  go_ret
  exact ⟨rfl, rfl⟩
set_option maxHeartbeats 800000 in
theorem of_abs (w : World) (t : Nat) (a b : Int) (ha : ranged a) (hown : w.ownsMap Tryd.prog 3 fnElem t 18 signMap) :
    Calls Tryd.prog 78 #[.map (some t), .int .i64 20, .int .i64 a, .int .i64 b] w fun e w' => e = .returned (.int .i64 (opVal 20 a b)) ∧ w' = w := by
  have hkey := keyOf_int_mk (k := 3) Tryd.underlying3 (a := 20) (q := .i64) (by decide)
  obtain ⟨h1, h2⟩ := sign_has 20 57 (by simp [signRows])
  have hm : Makes 57 a b (opVal 20 a b) := mk_abs a b ha
  generalize opVal 20 a b = r at hm ⊢
  go_enter Tryd.func78, Tryd.ntmps78
  go_wp2_with (first
    | (at_lookup; refine wpList_lookup_own_ok _ rfl _ _ 78 rfl 3 101 lawInt Tryd.underlying78 _ (zeroSign _) .nil [] rfl t 18 signMap rfl hown _ _ rfl hkey ?_; intro v ps hv; rw [h2] at hv; rw [h1]; obtain rfl := fnElem_inv hv)
    | (go_at_call 57; refine (hm _).mono ?_; rintro e w1 ⟨rfl, rfl⟩)
    | go_in)
  go_ret
  exact ⟨rfl, rfl⟩
set_option maxHeartbeats 800000 in
theorem of_mul (w : World) (t : Nat) (a b : Int) (ha : ranged a) (hown : w.ownsMap Tryd.prog 3 fnElem t 18 signMap) :
    Calls Tryd.prog 78 #[.map (some t), .int .i64 5, .int .i64 a, .int .i64 b] w fun e w' => e = .returned (.int .i64 (opVal 5 a b)) ∧ w' = w := by
  have hkey := keyOf_int_mk (k := 3) Tryd.underlying3 (a := 5) (q := .i64) (by decide)
  obtain ⟨h1, h2⟩ := sign_has 5 58 (by simp [signRows])
  have hm : Makes 58 a b (opVal 5 a b) := mk_mul a b
  generalize opVal 5 a b = r at hm ⊢
  go_enter Tryd.func78, Tryd.ntmps78
  go_wp2_with (first
    | (at_lookup; refine wpList_lookup_own_ok _ rfl _ _ 78 rfl 3 101 lawInt Tryd.underlying78 _ (zeroSign _) .nil [] rfl t 18 signMap rfl hown _ _ rfl hkey ?_; intro v ps hv; rw [h2] at hv; rw [h1]; obtain rfl := fnElem_inv hv)
    | (go_at_call 58; refine (hm _).mono ?_; rintro e w1 ⟨rfl, rfl⟩)
    | go_in)
  go_ret
  exact ⟨rfl, rfl⟩
set_option maxHeartbeats 800000 in
theorem of_div (w : World) (t : Nat) (a b : Int) (ha : ranged a) (hown : w.ownsMap Tryd.prog 3 fnElem t 18 signMap) :
    Calls Tryd.prog 78 #[.map (some t), .int .i64 6, .int .i64 a, .int .i64 b] w fun e w' => e = .returned (.int .i64 (opVal 6 a b)) ∧ w' = w := by
  have hkey := keyOf_int_mk (k := 3) Tryd.underlying3 (a := 6) (q := .i64) (by decide)
  obtain ⟨h1, h2⟩ := sign_has 6 59 (by simp [signRows])
  have hm : Makes 59 a b (opVal 6 a b) := mk_div a b
  generalize opVal 6 a b = r at hm ⊢
  go_enter Tryd.func78, Tryd.ntmps78
  go_wp2_with (first
    | (at_lookup; refine wpList_lookup_own_ok _ rfl _ _ 78 rfl 3 101 lawInt Tryd.underlying78 _ (zeroSign _) .nil [] rfl t 18 signMap rfl hown _ _ rfl hkey ?_; intro v ps hv; rw [h2] at hv; rw [h1]; obtain rfl := fnElem_inv hv)
    | (go_at_call 59; refine (hm _).mono ?_; rintro e w1 ⟨rfl, rfl⟩)
    | go_in)
  go_ret
  exact ⟨rfl, rfl⟩
set_option maxHeartbeats 800000 in
theorem of_mod (w : World) (t : Nat) (a b : Int) (ha : ranged a) (hown : w.ownsMap Tryd.prog 3 fnElem t 18 signMap) :
    Calls Tryd.prog 78 #[.map (some t), .int .i64 7, .int .i64 a, .int .i64 b] w fun e w' => e = .returned (.int .i64 (opVal 7 a b)) ∧ w' = w := by
  have hkey := keyOf_int_mk (k := 3) Tryd.underlying3 (a := 7) (q := .i64) (by decide)
  obtain ⟨h1, h2⟩ := sign_has 7 60 (by simp [signRows])
  have hm : Makes 60 a b (opVal 7 a b) := mk_mod a b
  generalize opVal 7 a b = r at hm ⊢
  go_enter Tryd.func78, Tryd.ntmps78
  go_wp2_with (first
    | (at_lookup; refine wpList_lookup_own_ok _ rfl _ _ 78 rfl 3 101 lawInt Tryd.underlying78 _ (zeroSign _) .nil [] rfl t 18 signMap rfl hown _ _ rfl hkey ?_; intro v ps hv; rw [h2] at hv; rw [h1]; obtain rfl := fnElem_inv hv)
    | (go_at_call 60; refine (hm _).mono ?_; rintro e w1 ⟨rfl, rfl⟩)
    | go_in)
  go_ret
  exact ⟨rfl, rfl⟩
set_option maxHeartbeats 800000 in
theorem of_add (w : World) (t : Nat) (a b : Int) (ha : ranged a) (hown : w.ownsMap Tryd.prog 3 fnElem t 18 signMap) :
    Calls Tryd.prog 78 #[.map (some t), .int .i64 8, .int .i64 a, .int .i64 b] w fun e w' => e = .returned (.int .i64 (opVal 8 a b)) ∧ w' = w := by
  have hkey := keyOf_int_mk (k := 3) Tryd.underlying3 (a := 8) (q := .i64) (by decide)
  obtain ⟨h1, h2⟩ := sign_has 8 61 (by simp [signRows])
  have hm : Makes 61 a b (opVal 8 a b) := mk_add a b
  generalize opVal 8 a b = r at hm ⊢
  go_enter Tryd.func78, Tryd.ntmps78
  go_wp2_with (first
    | (at_lookup; refine wpList_lookup_own_ok _ rfl _ _ 78 rfl 3 101 lawInt Tryd.underlying78 _ (zeroSign _) .nil [] rfl t 18 signMap rfl hown _ _ rfl hkey ?_; intro v ps hv; rw [h2] at hv; rw [h1]; obtain rfl := fnElem_inv hv)
    | (go_at_call 61; refine (hm _).mono ?_; rintro e w1 ⟨rfl, rfl⟩)
    | go_in)
  go_ret
  exact ⟨rfl, rfl⟩
set_option maxHeartbeats 800000 in
theorem of_sub (w : World) (t : Nat) (a b : Int) (ha : ranged a) (hown : w.ownsMap Tryd.prog 3 fnElem t 18 signMap) :
    Calls Tryd.prog 78 #[.map (some t), .int .i64 9, .int .i64 a, .int .i64 b] w fun e w' => e = .returned (.int .i64 (opVal 9 a b)) ∧ w' = w := by
  have hkey := keyOf_int_mk (k := 3) Tryd.underlying3 (a := 9) (q := .i64) (by decide)
  obtain ⟨h1, h2⟩ := sign_has 9 62 (by simp [signRows])
  have hm : Makes 62 a b (opVal 9 a b) := mk_sub a b
  generalize opVal 9 a b = r at hm ⊢
  go_enter Tryd.func78, Tryd.ntmps78
  go_wp2_with (first
    | (at_lookup; refine wpList_lookup_own_ok _ rfl _ _ 78 rfl 3 101 lawInt Tryd.underlying78 _ (zeroSign _) .nil [] rfl t 18 signMap rfl hown _ _ rfl hkey ?_; intro v ps hv; rw [h2] at hv; rw [h1]; obtain rfl := fnElem_inv hv)
    | (go_at_call 62; refine (hm _).mono ?_; rintro e w1 ⟨rfl, rfl⟩)
    | go_in)
  go_ret
  exact ⟨rfl, rfl⟩
set_option maxHeartbeats 800000 in
theorem of_eq (w : World) (t : Nat) (a b : Int) (ha : ranged a) (hown : w.ownsMap Tryd.prog 3 fnElem t 18 signMap) :
    Calls Tryd.prog 78 #[.map (some t), .int .i64 10, .int .i64 a, .int .i64 b] w fun e w' => e = .returned (.int .i64 (opVal 10 a b)) ∧ w' = w := by
  have hkey := keyOf_int_mk (k := 3) Tryd.underlying3 (a := 10) (q := .i64) (by decide)
  obtain ⟨h1, h2⟩ := sign_has 10 63 (by simp [signRows])
  have hm : Makes 63 a b (opVal 10 a b) := mk_eq a b
  generalize opVal 10 a b = r at hm ⊢
  go_enter Tryd.func78, Tryd.ntmps78
  go_wp2_with (first
    | (at_lookup; refine wpList_lookup_own_ok _ rfl _ _ 78 rfl 3 101 lawInt Tryd.underlying78 _ (zeroSign _) .nil [] rfl t 18 signMap rfl hown _ _ rfl hkey ?_; intro v ps hv; rw [h2] at hv; rw [h1]; obtain rfl := fnElem_inv hv)
    | (go_at_call 63; refine (hm _).mono ?_; rintro e w1 ⟨rfl, rfl⟩)
    | go_in)
  go_ret
  exact ⟨rfl, rfl⟩
set_option maxHeartbeats 800000 in
theorem of_ne (w : World) (t : Nat) (a b : Int) (ha : ranged a) (hown : w.ownsMap Tryd.prog 3 fnElem t 18 signMap) :
    Calls Tryd.prog 78 #[.map (some t), .int .i64 11, .int .i64 a, .int .i64 b] w fun e w' => e = .returned (.int .i64 (opVal 11 a b)) ∧ w' = w := by
  have hkey := keyOf_int_mk (k := 3) Tryd.underlying3 (a := 11) (q := .i64) (by decide)
  obtain ⟨h1, h2⟩ := sign_has 11 64 (by simp [signRows])
  have hm : Makes 64 a b (opVal 11 a b) := mk_ne a b
  generalize opVal 11 a b = r at hm ⊢
  go_enter Tryd.func78, Tryd.ntmps78
  go_wp2_with (first
    | (at_lookup; refine wpList_lookup_own_ok _ rfl _ _ 78 rfl 3 101 lawInt Tryd.underlying78 _ (zeroSign _) .nil [] rfl t 18 signMap rfl hown _ _ rfl hkey ?_; intro v ps hv; rw [h2] at hv; rw [h1]; obtain rfl := fnElem_inv hv)
    | (go_at_call 64; refine (hm _).mono ?_; rintro e w1 ⟨rfl, rfl⟩)
    | go_in)
  go_ret
  exact ⟨rfl, rfl⟩
set_option maxHeartbeats 800000 in
theorem of_lt (w : World) (t : Nat) (a b : Int) (ha : ranged a) (hown : w.ownsMap Tryd.prog 3 fnElem t 18 signMap) :
    Calls Tryd.prog 78 #[.map (some t), .int .i64 12, .int .i64 a, .int .i64 b] w fun e w' => e = .returned (.int .i64 (opVal 12 a b)) ∧ w' = w := by
  have hkey := keyOf_int_mk (k := 3) Tryd.underlying3 (a := 12) (q := .i64) (by decide)
  obtain ⟨h1, h2⟩ := sign_has 12 65 (by simp [signRows])
  have hm : Makes 65 a b (opVal 12 a b) := mk_lt a b
  generalize opVal 12 a b = r at hm ⊢
  go_enter Tryd.func78, Tryd.ntmps78
  go_wp2_with (first
    | (at_lookup; refine wpList_lookup_own_ok _ rfl _ _ 78 rfl 3 101 lawInt Tryd.underlying78 _ (zeroSign _) .nil [] rfl t 18 signMap rfl hown _ _ rfl hkey ?_; intro v ps hv; rw [h2] at hv; rw [h1]; obtain rfl := fnElem_inv hv)
    | (go_at_call 65; refine (hm _).mono ?_; rintro e w1 ⟨rfl, rfl⟩)
    | go_in)
  go_ret
  exact ⟨rfl, rfl⟩
set_option maxHeartbeats 800000 in
theorem of_le (w : World) (t : Nat) (a b : Int) (ha : ranged a) (hown : w.ownsMap Tryd.prog 3 fnElem t 18 signMap) :
    Calls Tryd.prog 78 #[.map (some t), .int .i64 13, .int .i64 a, .int .i64 b] w fun e w' => e = .returned (.int .i64 (opVal 13 a b)) ∧ w' = w := by
  have hkey := keyOf_int_mk (k := 3) Tryd.underlying3 (a := 13) (q := .i64) (by decide)
  obtain ⟨h1, h2⟩ := sign_has 13 66 (by simp [signRows])
  have hm : Makes 66 a b (opVal 13 a b) := mk_le a b
  generalize opVal 13 a b = r at hm ⊢
  go_enter Tryd.func78, Tryd.ntmps78
  go_wp2_with (first
    | (at_lookup; refine wpList_lookup_own_ok _ rfl _ _ 78 rfl 3 101 lawInt Tryd.underlying78 _ (zeroSign _) .nil [] rfl t 18 signMap rfl hown _ _ rfl hkey ?_; intro v ps hv; rw [h2] at hv; rw [h1]; obtain rfl := fnElem_inv hv)
    | (go_at_call 66; refine (hm _).mono ?_; rintro e w1 ⟨rfl, rfl⟩)
    | go_in)
  go_ret
  exact ⟨rfl, rfl⟩
set_option maxHeartbeats 800000 in
theorem of_gt (w : World) (t : Nat) (a b : Int) (ha : ranged a) (hown : w.ownsMap Tryd.prog 3 fnElem t 18 signMap) :
    Calls Tryd.prog 78 #[.map (some t), .int .i64 14, .int .i64 a, .int .i64 b] w fun e w' => e = .returned (.int .i64 (opVal 14 a b)) ∧ w' = w := by
  have hkey := keyOf_int_mk (k := 3) Tryd.underlying3 (a := 14) (q := .i64) (by decide)
  obtain ⟨h1, h2⟩ := sign_has 14 67 (by simp [signRows])
  have hm : Makes 67 a b (opVal 14 a b) := mk_gt a b
  generalize opVal 14 a b = r at hm ⊢
  go_enter Tryd.func78, Tryd.ntmps78
  go_wp2_with (first
    | (at_lookup; refine wpList_lookup_own_ok _ rfl _ _ 78 rfl 3 101 lawInt Tryd.underlying78 _ (zeroSign _) .nil [] rfl t 18 signMap rfl hown _ _ rfl hkey ?_; intro v ps hv; rw [h2] at hv; rw [h1]; obtain rfl := fnElem_inv hv)
    | (go_at_call 67; refine (hm _).mono ?_; rintro e w1 ⟨rfl, rfl⟩)
    | go_in)
  go_ret
  exact ⟨rfl, rfl⟩
set_option maxHeartbeats 800000 in
theorem of_ge (w : World) (t : Nat) (a b : Int) (ha : ranged a) (hown : w.ownsMap Tryd.prog 3 fnElem t 18 signMap) :
    Calls Tryd.prog 78 #[.map (some t), .int .i64 15, .int .i64 a, .int .i64 b] w fun e w' => e = .returned (.int .i64 (opVal 15 a b)) ∧ w' = w := by
  have hkey := keyOf_int_mk (k := 3) Tryd.underlying3 (a := 15) (q := .i64) (by decide)
  obtain ⟨h1, h2⟩ := sign_has 15 68 (by simp [signRows])
  have hm : Makes 68 a b (opVal 15 a b) := mk_ge a b
  generalize opVal 15 a b = r at hm ⊢
  go_enter Tryd.func78, Tryd.ntmps78
  go_wp2_with (first
    | (at_lookup; refine wpList_lookup_own_ok _ rfl _ _ 78 rfl 3 101 lawInt Tryd.underlying78 _ (zeroSign _) .nil [] rfl t 18 signMap rfl hown _ _ rfl hkey ?_; intro v ps hv; rw [h2] at hv; rw [h1]; obtain rfl := fnElem_inv hv)
    | (go_at_call 68; refine (hm _).mono ?_; rintro e w1 ⟨rfl, rfl⟩)
    | go_in)
  go_ret
  exact ⟨rfl, rfl⟩
set_option maxHeartbeats 800000 in
theorem of_and (w : World) (t : Nat) (a b : Int) (ha : ranged a) (hown : w.ownsMap Tryd.prog 3 fnElem t 18 signMap) :
    Calls Tryd.prog 78 #[.map (some t), .int .i64 16, .int .i64 a, .int .i64 b] w fun e w' => e = .returned (.int .i64 (opVal 16 a b)) ∧ w' = w := by
  have hkey := keyOf_int_mk (k := 3) Tryd.underlying3 (a := 16) (q := .i64) (by decide)
  obtain ⟨h1, h2⟩ := sign_has 16 69 (by simp [signRows])
  have hm : Makes 69 a b (opVal 16 a b) := mk_and a b
  generalize opVal 16 a b = r at hm ⊢
  go_enter Tryd.func78, Tryd.ntmps78
  go_wp2_with (first
    | (at_lookup; refine wpList_lookup_own_ok _ rfl _ _ 78 rfl 3 101 lawInt Tryd.underlying78 _ (zeroSign _) .nil [] rfl t 18 signMap rfl hown _ _ rfl hkey ?_; intro v ps hv; rw [h2] at hv; rw [h1]; obtain rfl := fnElem_inv hv)
    | (go_at_call 69; refine (hm _).mono ?_; rintro e w1 ⟨rfl, rfl⟩)
    | go_in)
  go_ret
  exact ⟨rfl, rfl⟩
set_option maxHeartbeats 800000 in
theorem of_or (w : World) (t : Nat) (a b : Int) (ha : ranged a) (hown : w.ownsMap Tryd.prog 3 fnElem t 18 signMap) :
    Calls Tryd.prog 78 #[.map (some t), .int .i64 17, .int .i64 a, .int .i64 b] w fun e w' => e = .returned (.int .i64 (opVal 17 a b)) ∧ w' = w := by
  have hkey := keyOf_int_mk (k := 3) Tryd.underlying3 (a := 17) (q := .i64) (by decide)
  obtain ⟨h1, h2⟩ := sign_has 17 70 (by simp [signRows])
  have hm : Makes 70 a b (opVal 17 a b) := mk_or a b
  generalize opVal 17 a b = r at hm ⊢
  go_enter Tryd.func78, Tryd.ntmps78
  go_wp2_with (first
    | (at_lookup; refine wpList_lookup_own_ok _ rfl _ _ 78 rfl 3 101 lawInt Tryd.underlying78 _ (zeroSign _) .nil [] rfl t 18 signMap rfl hown _ _ rfl hkey ?_; intro v ps hv; rw [h2] at hv; rw [h1]; obtain rfl := fnElem_inv hv)
    | (go_at_call 70; refine (hm _).mono ?_; rintro e w1 ⟨rfl, rfl⟩)
    | go_in)
  go_ret
  exact ⟨rfl, rfl⟩
set_option maxHeartbeats 800000 in
theorem of_min (w : World) (t : Nat) (a b : Int) (ha : ranged a) (hown : w.ownsMap Tryd.prog 3 fnElem t 18 signMap) :
    Calls Tryd.prog 78 #[.map (some t), .int .i64 18, .int .i64 a, .int .i64 b] w fun e w' => e = .returned (.int .i64 (opVal 18 a b)) ∧ w' = w := by
  have hkey := keyOf_int_mk (k := 3) Tryd.underlying3 (a := 18) (q := .i64) (by decide)
  obtain ⟨h1, h2⟩ := sign_has 18 71 (by simp [signRows])
  have hm : Makes 71 a b (opVal 18 a b) := mk_min a b
  generalize opVal 18 a b = r at hm ⊢
  go_enter Tryd.func78, Tryd.ntmps78
  go_wp2_with (first
    | (at_lookup; refine wpList_lookup_own_ok _ rfl _ _ 78 rfl 3 101 lawInt Tryd.underlying78 _ (zeroSign _) .nil [] rfl t 18 signMap rfl hown _ _ rfl hkey ?_; intro v ps hv; rw [h2] at hv; rw [h1]; obtain rfl := fnElem_inv hv)
    | (go_at_call 71; refine (hm _).mono ?_; rintro e w1 ⟨rfl, rfl⟩)
    | go_in)
  go_ret
  exact ⟨rfl, rfl⟩
set_option maxHeartbeats 800000 in
theorem of_max (w : World) (t : Nat) (a b : Int) (ha : ranged a) (hown : w.ownsMap Tryd.prog 3 fnElem t 18 signMap) :
    Calls Tryd.prog 78 #[.map (some t), .int .i64 19, .int .i64 a, .int .i64 b] w fun e w' => e = .returned (.int .i64 (opVal 19 a b)) ∧ w' = w := by
  have hkey := keyOf_int_mk (k := 3) Tryd.underlying3 (a := 19) (q := .i64) (by decide)
  obtain ⟨h1, h2⟩ := sign_has 19 72 (by simp [signRows])
  have hm : Makes 72 a b (opVal 19 a b) := mk_max a b
  generalize opVal 19 a b = r at hm ⊢
  go_enter Tryd.func78, Tryd.ntmps78
  go_wp2_with (first
    | (at_lookup; refine wpList_lookup_own_ok _ rfl _ _ 78 rfl 3 101 lawInt Tryd.underlying78 _ (zeroSign _) .nil [] rfl t 18 signMap rfl hown _ _ rfl hkey ?_; intro v ps hv; rw [h2] at hv; rw [h1]; obtain rfl := fnElem_inv hv)
    | (go_at_call 72; refine (hm _).mono ?_; rintro e w1 ⟨rfl, rfl⟩)
    | go_in)
  go_ret
  exact ⟨rfl, rfl⟩
set_option maxHeartbeats 800000 in
theorem of_none (w : World) (t : Nat) (k a b : Int) (hk : ranged k) (h : k < 3 ∨ 20 < k) (hown : w.ownsMap Tryd.prog 3 fnElem t 18 signMap) :
    Calls Tryd.prog 78 #[.map (some t), .int .i64 k, .int .i64 a, .int .i64 b] w fun e w' => e = .returned (.int .i64 (opVal k a b)) ∧ w' = w := by
  have hkey := keyOf_int_mk (k := 3) Tryd.underlying3 (wf_of_ranged hk)
  have h1 := sign_none k h
  have h0 := op_none k a b h
  rw [h0]
  clear h0 h
  go_enter Tryd.func78, Tryd.ntmps78
  go_wp2_with (first
    | (at_lookup; refine wpList_lookup_own_ok _ rfl _ _ 78 rfl 3 101 lawInt Tryd.underlying78 _ (zeroSign _) .nil [] rfl t 18 signMap rfl hown _ _ rfl hkey ?_; intro v ps hv; rw [h1])
    | go_in)
  go_ret
  exact ⟨rfl, rfl⟩

theorem kinds_of (k : Int) : (k = 3 ∨ k = 4 ∨ k = 20 ∨ k = 5 ∨ k = 6 ∨ k = 7 ∨ k = 8 ∨ k = 9 ∨ k = 10 ∨ k = 11 ∨ k = 12 ∨ k = 13 ∨ k = 14 ∨ k = 15 ∨ k = 16 ∨ k = 17 ∨ k = 18 ∨ k = 19) ∨ (k < 3 ∨ 20 < k) := by omega

theorem of_any (w : World) (t : Nat) (k a b : Int) (hk : ranged k) (ha : ranged a) (hown : w.ownsMap Tryd.prog 3 fnElem t 18 signMap) :
    Calls Tryd.prog 78 #[.map (some t), .int .i64 k, .int .i64 a, .int .i64 b] w fun e w' => e = .returned (.int .i64 (opVal k a b)) ∧ w' = w := by
  rcases kinds_of k with (rfl | rfl | rfl | rfl | rfl | rfl | rfl | rfl | rfl | rfl | rfl | rfl | rfl | rfl | rfl | rfl | rfl | rfl) | h
  · exact of_neg w t a b ha hown
  · exact of_not w t a b ha hown
  · exact of_abs w t a b ha hown
  · exact of_mul w t a b ha hown
  · exact of_div w t a b ha hown
  · exact of_mod w t a b ha hown
  · exact of_add w t a b ha hown
  · exact of_sub w t a b ha hown
  · exact of_eq w t a b ha hown
  · exact of_ne w t a b ha hown
  · exact of_lt w t a b ha hown
  · exact of_le w t a b ha hown
  · exact of_gt w t a b ha hown
  · exact of_ge w t a b ha hown
  · exact of_and w t a b ha hown
  · exact of_or w t a b ha hown
  · exact of_min w t a b ha hown
  · exact of_max w t a b ha hown
  · exact of_none w t k a b hk h hown


theorem fit_op (k a b : Int) (ha : ranged a) (hb : ranged b) : ranged (opVal k a b) := by
  have hbi : ∀ p, ranged (bi p) := by intro p; cases p <;> (unfold bi ranged; decide)
  have hw : ∀ n, ranged (wrap64 n) := by intro n; unfold ranged wrap64; omega
  have h0 : ranged 0 := by unfold ranged; decide
  have hm : ∀ a b, ranged a → ranged (Int.tmod a b) := by
    intro a b h
    unfold ranged at h ⊢
    have h1 := Int.natAbs_tmod a b
    have h2 := Nat.mod_le a.natAbs b.natAbs
    rcases Int.le_total 0 a with h3 | h3
    · have := Int.tmod_nonneg b h3
      omega
    · have : Int.tmod a b ≤ 0 := by
        have := Int.tmod_nonneg b (show 0 ≤ -a by omega)
        rw [Int.neg_tmod] at this
        omega
      omega
  have hi : ∀ (c : Prop) [Decidable c] (x y : Int), ranged x → ranged y → ranged (if c then x else y) := by intro c _ x y hx hy; split <;> assumption
  unfold opVal
  repeat' (first | exact hbi _ | exact hw _ | exact h0 | exact ha | exact hb | exact hm _ _ ha | refine hi _ _ _ ?_ ?_)
end Go.Proofs.YtoehjbehfolekaaDoor
