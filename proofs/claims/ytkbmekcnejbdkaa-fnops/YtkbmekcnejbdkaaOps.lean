/-
  MeanOp of both sides, at every kind and every two numbers.
-/
import Derived.Test.YtkbmekcnejbdkaaSignTable
set_option linter.unusedVariables false
namespace Go.Proofs.Ytkbmekcnejbdkaa
open Go.RowKit Go.Maps

theorem sign_has (k : Int) (p : Nat) (h : (k, p) ∈ signRows) : Maps.has signMap (.int .i64 k) = true ∧ signMap.atKey (.int .i64 k) .nil = .held p := by
  simp only [signRows, List.mem_cons, Prod.mk.injEq, List.not_mem_nil, or_false] at h
  rcases h with ⟨rfl, rfl⟩ | ⟨rfl, rfl⟩ | ⟨rfl, rfl⟩ | ⟨rfl, rfl⟩ | ⟨rfl, rfl⟩ | ⟨rfl, rfl⟩ | ⟨rfl, rfl⟩ | ⟨rfl, rfl⟩ | ⟨rfl, rfl⟩ | ⟨rfl, rfl⟩ | ⟨rfl, rfl⟩ | ⟨rfl, rfl⟩ | ⟨rfl, rfl⟩ | ⟨rfl, rfl⟩ | ⟨rfl, rfl⟩ | ⟨rfl, rfl⟩ | ⟨rfl, rfl⟩ | ⟨rfl, rfl⟩ <;> exact ⟨rfl, rfl⟩

theorem sign_none (k : Int) (h : k < 3 ∨ 20 < k) : Maps.has signMap (.int .i64 k) = false := by
  unfold signMap signRows
  simp only [List.foldl_cons, List.foldl_nil]
  repeat rw [has_put_other (by intro e; injection e; omega)]
  rfl

theorem op_none (k a b : Int) (h : k < 3 ∨ 20 < k) : opVal k a b = 0 := by
  unfold opVal
  rw [if_neg (by omega), if_neg (by omega), if_neg (by omega), if_neg (by omega), if_neg (by omega), if_neg (by omega), if_neg (by omega), if_neg (by omega), if_neg (by omega), if_neg (by omega), if_neg (by omega), if_neg (by omega), if_neg (by omega), if_neg (by omega), if_neg (by omega), if_neg (by omega), if_neg (by omega), if_neg (by omega)]

theorem wf_of_ranged {k : Int} (h : ranged k) : (Lit.int .i64 k).wf = true := by
  unfold ranged at h
  rw [← IntWalk.wrap64_in k h]
  exact wrap64_wf k

set_option maxHeartbeats 800000 in
theorem of_neg (w : World) (t : Nat) (a b : Int) (ha : ranged a) (hown : w.ownsMap Try.prog 3 fnElem t 18 signMap) :
    Calls Try.prog 17 #[.map (some t), .int .i64 3, .int .i64 a, .int .i64 b] w fun e w' => e = .returned (.int .i64 (opVal 3 a b)) ∧ w' = w := by
  have hkey := keyOf_int_mk (k := 3) Try.underlying3 (a := 3) (q := .i64) (by decide)
  obtain ⟨h1, h2⟩ := sign_has 3 26 (by simp [signRows])
  have hm : Makes 26 a b (opVal 3 a b) := mk_neg a b
  generalize opVal 3 a b = r at hm ⊢
  go_enter Try.func17, Try.ntmps17
  go_wp2_with (first
    | (at_lookup; refine wpList_lookup_own_ok _ rfl _ _ 40 rfl 3 58 lawInt Try.underlying40 _ (zeroSign _) .nil [] rfl t 18 signMap rfl hown _ _ rfl hkey ?_; intro v ps hv; rw [h2] at hv; rw [h1]; obtain rfl := fnElem_inv hv)
    | (go_at_call 26; refine (hm _).mono ?_; rintro e w1 ⟨rfl, rfl⟩)
    | go_in)
  go_ret
  exact ⟨rfl, rfl⟩
set_option maxHeartbeats 800000 in
theorem of_not (w : World) (t : Nat) (a b : Int) (ha : ranged a) (hown : w.ownsMap Try.prog 3 fnElem t 18 signMap) :
    Calls Try.prog 17 #[.map (some t), .int .i64 4, .int .i64 a, .int .i64 b] w fun e w' => e = .returned (.int .i64 (opVal 4 a b)) ∧ w' = w := by
  have hkey := keyOf_int_mk (k := 3) Try.underlying3 (a := 4) (q := .i64) (by decide)
  obtain ⟨h1, h2⟩ := sign_has 4 27 (by simp [signRows])
  have hm : Makes 27 a b (opVal 4 a b) := mk_not a b
  generalize opVal 4 a b = r at hm ⊢
  go_enter Try.func17, Try.ntmps17
  go_wp2_with (first
    | (at_lookup; refine wpList_lookup_own_ok _ rfl _ _ 40 rfl 3 58 lawInt Try.underlying40 _ (zeroSign _) .nil [] rfl t 18 signMap rfl hown _ _ rfl hkey ?_; intro v ps hv; rw [h2] at hv; rw [h1]; obtain rfl := fnElem_inv hv)
    | (go_at_call 27; refine (hm _).mono ?_; rintro e w1 ⟨rfl, rfl⟩)
    | go_in)
  go_ret
  exact ⟨rfl, rfl⟩
set_option maxHeartbeats 800000 in
theorem of_abs (w : World) (t : Nat) (a b : Int) (ha : ranged a) (hown : w.ownsMap Try.prog 3 fnElem t 18 signMap) :
    Calls Try.prog 17 #[.map (some t), .int .i64 20, .int .i64 a, .int .i64 b] w fun e w' => e = .returned (.int .i64 (opVal 20 a b)) ∧ w' = w := by
  have hkey := keyOf_int_mk (k := 3) Try.underlying3 (a := 20) (q := .i64) (by decide)
  obtain ⟨h1, h2⟩ := sign_has 20 29 (by simp [signRows])
  have hm : Makes 29 a b (opVal 20 a b) := mk_abs a b ha
  generalize opVal 20 a b = r at hm ⊢
  go_enter Try.func17, Try.ntmps17
  go_wp2_with (first
    | (at_lookup; refine wpList_lookup_own_ok _ rfl _ _ 40 rfl 3 58 lawInt Try.underlying40 _ (zeroSign _) .nil [] rfl t 18 signMap rfl hown _ _ rfl hkey ?_; intro v ps hv; rw [h2] at hv; rw [h1]; obtain rfl := fnElem_inv hv)
    | (go_at_call 29; refine (hm _).mono ?_; rintro e w1 ⟨rfl, rfl⟩)
    | go_in)
  go_ret
  exact ⟨rfl, rfl⟩
set_option maxHeartbeats 800000 in
theorem of_mul (w : World) (t : Nat) (a b : Int) (ha : ranged a) (hown : w.ownsMap Try.prog 3 fnElem t 18 signMap) :
    Calls Try.prog 17 #[.map (some t), .int .i64 5, .int .i64 a, .int .i64 b] w fun e w' => e = .returned (.int .i64 (opVal 5 a b)) ∧ w' = w := by
  have hkey := keyOf_int_mk (k := 3) Try.underlying3 (a := 5) (q := .i64) (by decide)
  obtain ⟨h1, h2⟩ := sign_has 5 30 (by simp [signRows])
  have hm : Makes 30 a b (opVal 5 a b) := mk_mul a b
  generalize opVal 5 a b = r at hm ⊢
  go_enter Try.func17, Try.ntmps17
  go_wp2_with (first
    | (at_lookup; refine wpList_lookup_own_ok _ rfl _ _ 40 rfl 3 58 lawInt Try.underlying40 _ (zeroSign _) .nil [] rfl t 18 signMap rfl hown _ _ rfl hkey ?_; intro v ps hv; rw [h2] at hv; rw [h1]; obtain rfl := fnElem_inv hv)
    | (go_at_call 30; refine (hm _).mono ?_; rintro e w1 ⟨rfl, rfl⟩)
    | go_in)
  go_ret
  exact ⟨rfl, rfl⟩
set_option maxHeartbeats 800000 in
theorem of_div (w : World) (t : Nat) (a b : Int) (ha : ranged a) (hown : w.ownsMap Try.prog 3 fnElem t 18 signMap) :
    Calls Try.prog 17 #[.map (some t), .int .i64 6, .int .i64 a, .int .i64 b] w fun e w' => e = .returned (.int .i64 (opVal 6 a b)) ∧ w' = w := by
  have hkey := keyOf_int_mk (k := 3) Try.underlying3 (a := 6) (q := .i64) (by decide)
  obtain ⟨h1, h2⟩ := sign_has 6 31 (by simp [signRows])
  have hm : Makes 31 a b (opVal 6 a b) := mk_div a b
  generalize opVal 6 a b = r at hm ⊢
  go_enter Try.func17, Try.ntmps17
  go_wp2_with (first
    | (at_lookup; refine wpList_lookup_own_ok _ rfl _ _ 40 rfl 3 58 lawInt Try.underlying40 _ (zeroSign _) .nil [] rfl t 18 signMap rfl hown _ _ rfl hkey ?_; intro v ps hv; rw [h2] at hv; rw [h1]; obtain rfl := fnElem_inv hv)
    | (go_at_call 31; refine (hm _).mono ?_; rintro e w1 ⟨rfl, rfl⟩)
    | go_in)
  go_ret
  exact ⟨rfl, rfl⟩
set_option maxHeartbeats 800000 in
theorem of_mod (w : World) (t : Nat) (a b : Int) (ha : ranged a) (hown : w.ownsMap Try.prog 3 fnElem t 18 signMap) :
    Calls Try.prog 17 #[.map (some t), .int .i64 7, .int .i64 a, .int .i64 b] w fun e w' => e = .returned (.int .i64 (opVal 7 a b)) ∧ w' = w := by
  have hkey := keyOf_int_mk (k := 3) Try.underlying3 (a := 7) (q := .i64) (by decide)
  obtain ⟨h1, h2⟩ := sign_has 7 32 (by simp [signRows])
  have hm : Makes 32 a b (opVal 7 a b) := mk_mod a b
  generalize opVal 7 a b = r at hm ⊢
  go_enter Try.func17, Try.ntmps17
  go_wp2_with (first
    | (at_lookup; refine wpList_lookup_own_ok _ rfl _ _ 40 rfl 3 58 lawInt Try.underlying40 _ (zeroSign _) .nil [] rfl t 18 signMap rfl hown _ _ rfl hkey ?_; intro v ps hv; rw [h2] at hv; rw [h1]; obtain rfl := fnElem_inv hv)
    | (go_at_call 32; refine (hm _).mono ?_; rintro e w1 ⟨rfl, rfl⟩)
    | go_in)
  go_ret
  exact ⟨rfl, rfl⟩
set_option maxHeartbeats 800000 in
theorem of_add (w : World) (t : Nat) (a b : Int) (ha : ranged a) (hown : w.ownsMap Try.prog 3 fnElem t 18 signMap) :
    Calls Try.prog 17 #[.map (some t), .int .i64 8, .int .i64 a, .int .i64 b] w fun e w' => e = .returned (.int .i64 (opVal 8 a b)) ∧ w' = w := by
  have hkey := keyOf_int_mk (k := 3) Try.underlying3 (a := 8) (q := .i64) (by decide)
  obtain ⟨h1, h2⟩ := sign_has 8 33 (by simp [signRows])
  have hm : Makes 33 a b (opVal 8 a b) := mk_add a b
  generalize opVal 8 a b = r at hm ⊢
  go_enter Try.func17, Try.ntmps17
  go_wp2_with (first
    | (at_lookup; refine wpList_lookup_own_ok _ rfl _ _ 40 rfl 3 58 lawInt Try.underlying40 _ (zeroSign _) .nil [] rfl t 18 signMap rfl hown _ _ rfl hkey ?_; intro v ps hv; rw [h2] at hv; rw [h1]; obtain rfl := fnElem_inv hv)
    | (go_at_call 33; refine (hm _).mono ?_; rintro e w1 ⟨rfl, rfl⟩)
    | go_in)
  go_ret
  exact ⟨rfl, rfl⟩
set_option maxHeartbeats 800000 in
theorem of_sub (w : World) (t : Nat) (a b : Int) (ha : ranged a) (hown : w.ownsMap Try.prog 3 fnElem t 18 signMap) :
    Calls Try.prog 17 #[.map (some t), .int .i64 9, .int .i64 a, .int .i64 b] w fun e w' => e = .returned (.int .i64 (opVal 9 a b)) ∧ w' = w := by
  have hkey := keyOf_int_mk (k := 3) Try.underlying3 (a := 9) (q := .i64) (by decide)
  obtain ⟨h1, h2⟩ := sign_has 9 34 (by simp [signRows])
  have hm : Makes 34 a b (opVal 9 a b) := mk_sub a b
  generalize opVal 9 a b = r at hm ⊢
  go_enter Try.func17, Try.ntmps17
  go_wp2_with (first
    | (at_lookup; refine wpList_lookup_own_ok _ rfl _ _ 40 rfl 3 58 lawInt Try.underlying40 _ (zeroSign _) .nil [] rfl t 18 signMap rfl hown _ _ rfl hkey ?_; intro v ps hv; rw [h2] at hv; rw [h1]; obtain rfl := fnElem_inv hv)
    | (go_at_call 34; refine (hm _).mono ?_; rintro e w1 ⟨rfl, rfl⟩)
    | go_in)
  go_ret
  exact ⟨rfl, rfl⟩
set_option maxHeartbeats 800000 in
theorem of_eq (w : World) (t : Nat) (a b : Int) (ha : ranged a) (hown : w.ownsMap Try.prog 3 fnElem t 18 signMap) :
    Calls Try.prog 17 #[.map (some t), .int .i64 10, .int .i64 a, .int .i64 b] w fun e w' => e = .returned (.int .i64 (opVal 10 a b)) ∧ w' = w := by
  have hkey := keyOf_int_mk (k := 3) Try.underlying3 (a := 10) (q := .i64) (by decide)
  obtain ⟨h1, h2⟩ := sign_has 10 35 (by simp [signRows])
  have hm : Makes 35 a b (opVal 10 a b) := mk_eq a b
  generalize opVal 10 a b = r at hm ⊢
  go_enter Try.func17, Try.ntmps17
  go_wp2_with (first
    | (at_lookup; refine wpList_lookup_own_ok _ rfl _ _ 40 rfl 3 58 lawInt Try.underlying40 _ (zeroSign _) .nil [] rfl t 18 signMap rfl hown _ _ rfl hkey ?_; intro v ps hv; rw [h2] at hv; rw [h1]; obtain rfl := fnElem_inv hv)
    | (go_at_call 35; refine (hm _).mono ?_; rintro e w1 ⟨rfl, rfl⟩)
    | go_in)
  go_ret
  exact ⟨rfl, rfl⟩
set_option maxHeartbeats 800000 in
theorem of_ne (w : World) (t : Nat) (a b : Int) (ha : ranged a) (hown : w.ownsMap Try.prog 3 fnElem t 18 signMap) :
    Calls Try.prog 17 #[.map (some t), .int .i64 11, .int .i64 a, .int .i64 b] w fun e w' => e = .returned (.int .i64 (opVal 11 a b)) ∧ w' = w := by
  have hkey := keyOf_int_mk (k := 3) Try.underlying3 (a := 11) (q := .i64) (by decide)
  obtain ⟨h1, h2⟩ := sign_has 11 36 (by simp [signRows])
  have hm : Makes 36 a b (opVal 11 a b) := mk_ne a b
  generalize opVal 11 a b = r at hm ⊢
  go_enter Try.func17, Try.ntmps17
  go_wp2_with (first
    | (at_lookup; refine wpList_lookup_own_ok _ rfl _ _ 40 rfl 3 58 lawInt Try.underlying40 _ (zeroSign _) .nil [] rfl t 18 signMap rfl hown _ _ rfl hkey ?_; intro v ps hv; rw [h2] at hv; rw [h1]; obtain rfl := fnElem_inv hv)
    | (go_at_call 36; refine (hm _).mono ?_; rintro e w1 ⟨rfl, rfl⟩)
    | go_in)
  go_ret
  exact ⟨rfl, rfl⟩
set_option maxHeartbeats 800000 in
theorem of_lt (w : World) (t : Nat) (a b : Int) (ha : ranged a) (hown : w.ownsMap Try.prog 3 fnElem t 18 signMap) :
    Calls Try.prog 17 #[.map (some t), .int .i64 12, .int .i64 a, .int .i64 b] w fun e w' => e = .returned (.int .i64 (opVal 12 a b)) ∧ w' = w := by
  have hkey := keyOf_int_mk (k := 3) Try.underlying3 (a := 12) (q := .i64) (by decide)
  obtain ⟨h1, h2⟩ := sign_has 12 37 (by simp [signRows])
  have hm : Makes 37 a b (opVal 12 a b) := mk_lt a b
  generalize opVal 12 a b = r at hm ⊢
  go_enter Try.func17, Try.ntmps17
  go_wp2_with (first
    | (at_lookup; refine wpList_lookup_own_ok _ rfl _ _ 40 rfl 3 58 lawInt Try.underlying40 _ (zeroSign _) .nil [] rfl t 18 signMap rfl hown _ _ rfl hkey ?_; intro v ps hv; rw [h2] at hv; rw [h1]; obtain rfl := fnElem_inv hv)
    | (go_at_call 37; refine (hm _).mono ?_; rintro e w1 ⟨rfl, rfl⟩)
    | go_in)
  go_ret
  exact ⟨rfl, rfl⟩
set_option maxHeartbeats 800000 in
theorem of_le (w : World) (t : Nat) (a b : Int) (ha : ranged a) (hown : w.ownsMap Try.prog 3 fnElem t 18 signMap) :
    Calls Try.prog 17 #[.map (some t), .int .i64 13, .int .i64 a, .int .i64 b] w fun e w' => e = .returned (.int .i64 (opVal 13 a b)) ∧ w' = w := by
  have hkey := keyOf_int_mk (k := 3) Try.underlying3 (a := 13) (q := .i64) (by decide)
  obtain ⟨h1, h2⟩ := sign_has 13 38 (by simp [signRows])
  have hm : Makes 38 a b (opVal 13 a b) := mk_le a b
  generalize opVal 13 a b = r at hm ⊢
  go_enter Try.func17, Try.ntmps17
  go_wp2_with (first
    | (at_lookup; refine wpList_lookup_own_ok _ rfl _ _ 40 rfl 3 58 lawInt Try.underlying40 _ (zeroSign _) .nil [] rfl t 18 signMap rfl hown _ _ rfl hkey ?_; intro v ps hv; rw [h2] at hv; rw [h1]; obtain rfl := fnElem_inv hv)
    | (go_at_call 38; refine (hm _).mono ?_; rintro e w1 ⟨rfl, rfl⟩)
    | go_in)
  go_ret
  exact ⟨rfl, rfl⟩
set_option maxHeartbeats 800000 in
theorem of_gt (w : World) (t : Nat) (a b : Int) (ha : ranged a) (hown : w.ownsMap Try.prog 3 fnElem t 18 signMap) :
    Calls Try.prog 17 #[.map (some t), .int .i64 14, .int .i64 a, .int .i64 b] w fun e w' => e = .returned (.int .i64 (opVal 14 a b)) ∧ w' = w := by
  have hkey := keyOf_int_mk (k := 3) Try.underlying3 (a := 14) (q := .i64) (by decide)
  obtain ⟨h1, h2⟩ := sign_has 14 39 (by simp [signRows])
  have hm : Makes 39 a b (opVal 14 a b) := mk_gt a b
  generalize opVal 14 a b = r at hm ⊢
  go_enter Try.func17, Try.ntmps17
  go_wp2_with (first
    | (at_lookup; refine wpList_lookup_own_ok _ rfl _ _ 40 rfl 3 58 lawInt Try.underlying40 _ (zeroSign _) .nil [] rfl t 18 signMap rfl hown _ _ rfl hkey ?_; intro v ps hv; rw [h2] at hv; rw [h1]; obtain rfl := fnElem_inv hv)
    | (go_at_call 39; refine (hm _).mono ?_; rintro e w1 ⟨rfl, rfl⟩)
    | go_in)
  go_ret
  exact ⟨rfl, rfl⟩
set_option maxHeartbeats 800000 in
theorem of_ge (w : World) (t : Nat) (a b : Int) (ha : ranged a) (hown : w.ownsMap Try.prog 3 fnElem t 18 signMap) :
    Calls Try.prog 17 #[.map (some t), .int .i64 15, .int .i64 a, .int .i64 b] w fun e w' => e = .returned (.int .i64 (opVal 15 a b)) ∧ w' = w := by
  have hkey := keyOf_int_mk (k := 3) Try.underlying3 (a := 15) (q := .i64) (by decide)
  obtain ⟨h1, h2⟩ := sign_has 15 40 (by simp [signRows])
  have hm : Makes 40 a b (opVal 15 a b) := mk_ge a b
  generalize opVal 15 a b = r at hm ⊢
  go_enter Try.func17, Try.ntmps17
  go_wp2_with (first
    | (at_lookup; refine wpList_lookup_own_ok _ rfl _ _ 40 rfl 3 58 lawInt Try.underlying40 _ (zeroSign _) .nil [] rfl t 18 signMap rfl hown _ _ rfl hkey ?_; intro v ps hv; rw [h2] at hv; rw [h1]; obtain rfl := fnElem_inv hv)
    | (go_at_call 40; refine (hm _).mono ?_; rintro e w1 ⟨rfl, rfl⟩)
    | go_in)
  go_ret
  exact ⟨rfl, rfl⟩
set_option maxHeartbeats 800000 in
theorem of_and (w : World) (t : Nat) (a b : Int) (ha : ranged a) (hown : w.ownsMap Try.prog 3 fnElem t 18 signMap) :
    Calls Try.prog 17 #[.map (some t), .int .i64 16, .int .i64 a, .int .i64 b] w fun e w' => e = .returned (.int .i64 (opVal 16 a b)) ∧ w' = w := by
  have hkey := keyOf_int_mk (k := 3) Try.underlying3 (a := 16) (q := .i64) (by decide)
  obtain ⟨h1, h2⟩ := sign_has 16 41 (by simp [signRows])
  have hm : Makes 41 a b (opVal 16 a b) := mk_and a b
  generalize opVal 16 a b = r at hm ⊢
  go_enter Try.func17, Try.ntmps17
  go_wp2_with (first
    | (at_lookup; refine wpList_lookup_own_ok _ rfl _ _ 40 rfl 3 58 lawInt Try.underlying40 _ (zeroSign _) .nil [] rfl t 18 signMap rfl hown _ _ rfl hkey ?_; intro v ps hv; rw [h2] at hv; rw [h1]; obtain rfl := fnElem_inv hv)
    | (go_at_call 41; refine (hm _).mono ?_; rintro e w1 ⟨rfl, rfl⟩)
    | go_in)
  go_ret
  exact ⟨rfl, rfl⟩
set_option maxHeartbeats 800000 in
theorem of_or (w : World) (t : Nat) (a b : Int) (ha : ranged a) (hown : w.ownsMap Try.prog 3 fnElem t 18 signMap) :
    Calls Try.prog 17 #[.map (some t), .int .i64 17, .int .i64 a, .int .i64 b] w fun e w' => e = .returned (.int .i64 (opVal 17 a b)) ∧ w' = w := by
  have hkey := keyOf_int_mk (k := 3) Try.underlying3 (a := 17) (q := .i64) (by decide)
  obtain ⟨h1, h2⟩ := sign_has 17 42 (by simp [signRows])
  have hm : Makes 42 a b (opVal 17 a b) := mk_or a b
  generalize opVal 17 a b = r at hm ⊢
  go_enter Try.func17, Try.ntmps17
  go_wp2_with (first
    | (at_lookup; refine wpList_lookup_own_ok _ rfl _ _ 40 rfl 3 58 lawInt Try.underlying40 _ (zeroSign _) .nil [] rfl t 18 signMap rfl hown _ _ rfl hkey ?_; intro v ps hv; rw [h2] at hv; rw [h1]; obtain rfl := fnElem_inv hv)
    | (go_at_call 42; refine (hm _).mono ?_; rintro e w1 ⟨rfl, rfl⟩)
    | go_in)
  go_ret
  exact ⟨rfl, rfl⟩
set_option maxHeartbeats 800000 in
theorem of_min (w : World) (t : Nat) (a b : Int) (ha : ranged a) (hown : w.ownsMap Try.prog 3 fnElem t 18 signMap) :
    Calls Try.prog 17 #[.map (some t), .int .i64 18, .int .i64 a, .int .i64 b] w fun e w' => e = .returned (.int .i64 (opVal 18 a b)) ∧ w' = w := by
  have hkey := keyOf_int_mk (k := 3) Try.underlying3 (a := 18) (q := .i64) (by decide)
  obtain ⟨h1, h2⟩ := sign_has 18 43 (by simp [signRows])
  have hm : Makes 43 a b (opVal 18 a b) := mk_min a b
  generalize opVal 18 a b = r at hm ⊢
  go_enter Try.func17, Try.ntmps17
  go_wp2_with (first
    | (at_lookup; refine wpList_lookup_own_ok _ rfl _ _ 40 rfl 3 58 lawInt Try.underlying40 _ (zeroSign _) .nil [] rfl t 18 signMap rfl hown _ _ rfl hkey ?_; intro v ps hv; rw [h2] at hv; rw [h1]; obtain rfl := fnElem_inv hv)
    | (go_at_call 43; refine (hm _).mono ?_; rintro e w1 ⟨rfl, rfl⟩)
    | go_in)
  go_ret
  exact ⟨rfl, rfl⟩
set_option maxHeartbeats 800000 in
theorem of_max (w : World) (t : Nat) (a b : Int) (ha : ranged a) (hown : w.ownsMap Try.prog 3 fnElem t 18 signMap) :
    Calls Try.prog 17 #[.map (some t), .int .i64 19, .int .i64 a, .int .i64 b] w fun e w' => e = .returned (.int .i64 (opVal 19 a b)) ∧ w' = w := by
  have hkey := keyOf_int_mk (k := 3) Try.underlying3 (a := 19) (q := .i64) (by decide)
  obtain ⟨h1, h2⟩ := sign_has 19 44 (by simp [signRows])
  have hm : Makes 44 a b (opVal 19 a b) := mk_max a b
  generalize opVal 19 a b = r at hm ⊢
  go_enter Try.func17, Try.ntmps17
  go_wp2_with (first
    | (at_lookup; refine wpList_lookup_own_ok _ rfl _ _ 40 rfl 3 58 lawInt Try.underlying40 _ (zeroSign _) .nil [] rfl t 18 signMap rfl hown _ _ rfl hkey ?_; intro v ps hv; rw [h2] at hv; rw [h1]; obtain rfl := fnElem_inv hv)
    | (go_at_call 44; refine (hm _).mono ?_; rintro e w1 ⟨rfl, rfl⟩)
    | go_in)
  go_ret
  exact ⟨rfl, rfl⟩
set_option maxHeartbeats 800000 in
theorem of_none (w : World) (t : Nat) (k a b : Int) (hk : ranged k) (h : k < 3 ∨ 20 < k) (hown : w.ownsMap Try.prog 3 fnElem t 18 signMap) :
    Calls Try.prog 17 #[.map (some t), .int .i64 k, .int .i64 a, .int .i64 b] w fun e w' => e = .returned (.int .i64 (opVal k a b)) ∧ w' = w := by
  have hkey := keyOf_int_mk (k := 3) Try.underlying3 (wf_of_ranged hk)
  have h1 := sign_none k h
  have h0 := op_none k a b h
  rw [h0]
  clear h0 h
  go_enter Try.func17, Try.ntmps17
  go_wp2_with (first
    | (at_lookup; refine wpList_lookup_own_ok _ rfl _ _ 40 rfl 3 58 lawInt Try.underlying40 _ (zeroSign _) .nil [] rfl t 18 signMap rfl hown _ _ rfl hkey ?_; intro v ps hv; rw [h1])
    | go_in)
  go_ret
  exact ⟨rfl, rfl⟩

theorem kinds_of (k : Int) : (k = 3 ∨ k = 4 ∨ k = 20 ∨ k = 5 ∨ k = 6 ∨ k = 7 ∨ k = 8 ∨ k = 9 ∨ k = 10 ∨ k = 11 ∨ k = 12 ∨ k = 13 ∨ k = 14 ∨ k = 15 ∨ k = 16 ∨ k = 17 ∨ k = 18 ∨ k = 19) ∨ (k < 3 ∨ 20 < k) := by omega

theorem of_any (w : World) (t : Nat) (k a b : Int) (hk : ranged k) (ha : ranged a) (hown : w.ownsMap Try.prog 3 fnElem t 18 signMap) :
    Calls Try.prog 17 #[.map (some t), .int .i64 k, .int .i64 a, .int .i64 b] w fun e w' => e = .returned (.int .i64 (opVal k a b)) ∧ w' = w := by
  rcases kinds_of k with (rfl | rfl | rfl | rfl | rfl | rfl | rfl | rfl | rfl | rfl | rfl | rfl | rfl | rfl | rfl | rfl | rfl | rfl) | h
  · exact of_neg w t a b ha hown
  · exact of_not w t a b ha hown
  · exact of_abs w t a b ha hown
  · exact of_mul w t a b ha hown
  · exact of_div w t a b ha hown
  · exact of_mod w t a b ha hown
  · exact of_add w t a b ha hown
  · exact of_sub w t a b ha hown
  · exact of_eq w t a b ha hown
  · exact of_ne w t a b ha hown
  · exact of_lt w t a b ha hown
  · exact of_le w t a b ha hown
  · exact of_gt w t a b ha hown
  · exact of_ge w t a b ha hown
  · exact of_and w t a b ha hown
  · exact of_or w t a b ha hown
  · exact of_min w t a b ha hown
  · exact of_max w t a b ha hown
  · exact of_none w t k a b hk h hown

theorem implOp_any (w : World) (k a b : Int) (hk : ranged k) (ha : ranged a) :
    Calls Try.prog 7 #[.int .i64 k, .int .i64 a, .int .i64 b] w fun e w' => e = .returned (.int .i64 (opVal k a b)) ∧ Below w.heap.size w w' := by
  generalize hr : opVal k a b = r
  have hof := fun w t => of_any w t k a b hk ha
  rw [hr] at hof
  clear hr
  go_enter Try.func7, Try.ntmps7
  go_wp2_with (first
    | (go_at_call 16; refine (newSigns_any _).mono ?_; rintro e w1 ⟨rfl, hown, hb⟩)
    | (go_at_call 17; refine (hof _ _ hown).mono ?_; rintro e w2 ⟨rfl, rfl⟩)
    | go_in)
  go_ret
  exact ⟨rfl, hb⟩

theorem fit_op (k a b : Int) (ha : ranged a) (hb : ranged b) : ranged (opVal k a b) := by
  have hbi : ∀ p, ranged (bi p) := by intro p; cases p <;> (unfold bi ranged; decide)
  have hw : ∀ n, ranged (wrap64 n) := by intro n; unfold ranged wrap64; omega
  have h0 : ranged 0 := by unfold ranged; decide
  have hm : ∀ a b, ranged a → ranged (Int.tmod a b) := by
    intro a b h
    unfold ranged at h ⊢
    have h1 := Int.natAbs_tmod a b
    have h2 := Nat.mod_le a.natAbs b.natAbs
    rcases Int.le_total 0 a with h3 | h3
    · have := Int.tmod_nonneg b h3
      omega
    · have : Int.tmod a b ≤ 0 := by
        have := Int.tmod_nonneg b (show 0 ≤ -a by omega)
        rw [Int.neg_tmod] at this
        omega
      omega
  have hi : ∀ (c : Prop) [Decidable c] (x y : Int), ranged x → ranged y → ranged (if c then x else y) := by intro c _ x y hx hy; split <;> assumption
  unfold opVal
  repeat' (first | exact hbi _ | exact hw _ | exact h0 | exact ha | exact hb | exact hm _ _ ha | refine hi _ _ _ ?_ ?_)
end Go.Proofs.Ytkbmekcnejbdkaa
