/-
  The specification's MeanOp: a switch over the kinds.
-/
import Derived.Test.YtoehjbehfolekaaDoorOps
set_option linter.unusedVariables false
namespace Go.Proofs.YtoehjbehfolekaaDoor
open Go.RowKit Go.Maps

theorem cmp_eq (w : World) (a b : Int) : Calls Tryd.prog 48 #[.int .i64 10, .int .i64 a, .int .i64 b] w fun e w' => e = .returned (.int .i64 (opVal 10 a b)) ∧ w' = w := by
  go_enter Tryd.func48, Tryd.ntmps48
  go_wp2_with (first | (go_at_call 34; refine (specOne_any _ _).mono ?_; rintro e w1 ⟨rfl, rfl⟩) | go_in)
  go_ret
  exact ⟨rfl, rfl⟩
theorem cmp_ne (w : World) (a b : Int) : Calls Tryd.prog 48 #[.int .i64 11, .int .i64 a, .int .i64 b] w fun e w' => e = .returned (.int .i64 (opVal 11 a b)) ∧ w' = w := by
  go_enter Tryd.func48, Tryd.ntmps48
  go_wp2_with (first | (go_at_call 34; refine (specOne_any _ _).mono ?_; rintro e w1 ⟨rfl, rfl⟩) | go_in)
  go_ret
  exact ⟨rfl, rfl⟩
theorem cmp_lt (w : World) (a b : Int) : Calls Tryd.prog 48 #[.int .i64 12, .int .i64 a, .int .i64 b] w fun e w' => e = .returned (.int .i64 (opVal 12 a b)) ∧ w' = w := by
  go_enter Tryd.func48, Tryd.ntmps48
  go_wp2_with (first | (go_at_call 34; refine (specOne_any _ _).mono ?_; rintro e w1 ⟨rfl, rfl⟩) | go_in)
  go_ret
  exact ⟨rfl, rfl⟩
theorem cmp_le (w : World) (a b : Int) : Calls Tryd.prog 48 #[.int .i64 13, .int .i64 a, .int .i64 b] w fun e w' => e = .returned (.int .i64 (opVal 13 a b)) ∧ w' = w := by
  go_enter Tryd.func48, Tryd.ntmps48
  go_wp2_with (first | (go_at_call 34; refine (specOne_any _ _).mono ?_; rintro e w1 ⟨rfl, rfl⟩) | go_in)
  go_ret
  exact ⟨rfl, rfl⟩
theorem cmp_gt (w : World) (a b : Int) : Calls Tryd.prog 48 #[.int .i64 14, .int .i64 a, .int .i64 b] w fun e w' => e = .returned (.int .i64 (opVal 14 a b)) ∧ w' = w := by
  go_enter Tryd.func48, Tryd.ntmps48
  go_wp2_with (first | (go_at_call 34; refine (specOne_any _ _).mono ?_; rintro e w1 ⟨rfl, rfl⟩) | go_in)
  go_ret
  exact ⟨rfl, rfl⟩
theorem cmp_ge (w : World) (a b : Int) : Calls Tryd.prog 48 #[.int .i64 15, .int .i64 a, .int .i64 b] w fun e w' => e = .returned (.int .i64 (opVal 15 a b)) ∧ w' = w := by
  go_enter Tryd.func48, Tryd.ntmps48
  go_wp2_with (first | (go_at_call 34; refine (specOne_any _ _).mono ?_; rintro e w1 ⟨rfl, rfl⟩) | go_in)
  go_ret
  exact ⟨rfl, rfl⟩
theorem cmp_and (w : World) (a b : Int) : Calls Tryd.prog 48 #[.int .i64 16, .int .i64 a, .int .i64 b] w fun e w' => e = .returned (.int .i64 (opVal 16 a b)) ∧ w' = w := by
  go_enter Tryd.func48, Tryd.ntmps48
  by_cases ha : a = 0
  · subst ha
    go_wp2_with (first | (go_at_call 34; refine (specOne_any _ _).mono ?_; rintro e w1 ⟨rfl, rfl⟩) | go_in)
    go_ret
    exact ⟨rfl, rfl⟩
  · have h0 : (a != 0) = true := by simpa using ha
    have h1 : opVal 16 a b = bi (b != 0) := by simp [opVal, h0]
    rw [h1]
    clear h1
    go_wp2_with (first | (go_at_call 34; refine (specOne_any _ _).mono ?_; rintro e w1 ⟨rfl, rfl⟩) | go_in)
    go_ret
    exact ⟨rfl, rfl⟩
theorem cmp_or (w : World) (a b : Int) : Calls Tryd.prog 48 #[.int .i64 17, .int .i64 a, .int .i64 b] w fun e w' => e = .returned (.int .i64 (opVal 17 a b)) ∧ w' = w := by
  go_enter Tryd.func48, Tryd.ntmps48
  by_cases ha : a = 0
  · subst ha
    go_wp2_with (first | (go_at_call 34; refine (specOne_any _ _).mono ?_; rintro e w1 ⟨rfl, rfl⟩) | go_in)
    go_ret
    exact ⟨ret_int (by simp [opVal]), rfl⟩
  · have h0 : (a != 0) = true := by simpa using ha
    have h1 : opVal 17 a b = bi true := by simp [opVal, h0]
    rw [h1]
    clear h1
    go_wp2_with (first | (go_at_call 34; refine (specOne_any _ _).mono ?_; rintro e w1 ⟨rfl, rfl⟩) | go_in)
    go_ret
    exact ⟨rfl, rfl⟩
theorem cmp_none (w : World) (k a b : Int) (h : k < 10 ∨ 17 < k) : Calls Tryd.prog 48 #[.int .i64 k, .int .i64 a, .int .i64 b] w fun e w' => e = .returned (.int .i64 0) ∧ w' = w := by
  have n10 : (k == 10) = false := by simp; omega
  have n11 : (k == 11) = false := by simp; omega
  have n12 : (k == 12) = false := by simp; omega
  have n13 : (k == 13) = false := by simp; omega
  have n14 : (k == 14) = false := by simp; omega
  have n15 : (k == 15) = false := by simp; omega
  have n16 : (k == 16) = false := by simp; omega
  have n17 : (k == 17) = false := by simp; omega
  clear h
  go_enter Tryd.func48, Tryd.ntmps48
  go_wp2
  go_ret
  exact ⟨rfl, rfl⟩
theorem sop_neg (w : World) (a b : Int) : Calls Tryd.prog 33 #[.int .i64 3, .int .i64 a, .int .i64 b] w fun e w' => e = .returned (.int .i64 (opVal 3 a b)) ∧ w' = w := by
  go_enter Tryd.func33, Tryd.ntmps33
  go_wp2_with (first | (go_at_call 34; refine (specOne_any _ _).mono ?_; rintro e w1 ⟨rfl, rfl⟩) | go_in)
  go_ret
  exact ⟨rfl, rfl⟩
theorem sop_not (w : World) (a b : Int) : Calls Tryd.prog 33 #[.int .i64 4, .int .i64 a, .int .i64 b] w fun e w' => e = .returned (.int .i64 (opVal 4 a b)) ∧ w' = w := by
  go_enter Tryd.func33, Tryd.ntmps33
  go_wp2_with (first | (go_at_call 34; refine (specOne_any _ _).mono ?_; rintro e w1 ⟨rfl, rfl⟩) | go_in)
  go_ret
  exact ⟨rfl, rfl⟩
theorem sop_abs (w : World) (a b : Int) : Calls Tryd.prog 33 #[.int .i64 20, .int .i64 a, .int .i64 b] w fun e w' => e = .returned (.int .i64 (opVal 20 a b)) ∧ w' = w := by
  have hs : opVal 20 a b = (if a < 0 then wrap64 (-a) else a) := rfl
  rw [hs]
  clear hs
  go_enter Tryd.func33, Tryd.ntmps33
  by_cases h : a < 0
  · rw [if_pos h]
    go_wp2
    go_ret
    exact ⟨rfl, rfl⟩
  · rw [if_neg h]
    go_wp2
    go_ret
    exact ⟨rfl, rfl⟩
theorem sop_mul (w : World) (a b : Int) : Calls Tryd.prog 33 #[.int .i64 5, .int .i64 a, .int .i64 b] w fun e w' => e = .returned (.int .i64 (opVal 5 a b)) ∧ w' = w := by
  go_enter Tryd.func33, Tryd.ntmps33
  go_wp2_with (first | (go_at_call 34; refine (specOne_any _ _).mono ?_; rintro e w1 ⟨rfl, rfl⟩) | go_in)
  go_ret
  exact ⟨rfl, rfl⟩
theorem sop_div (w : World) (a b : Int) : Calls Tryd.prog 33 #[.int .i64 6, .int .i64 a, .int .i64 b] w fun e w' => e = .returned (.int .i64 (opVal 6 a b)) ∧ w' = w := by
  go_enter Tryd.func33, Tryd.ntmps33
  by_cases hb : b = 0
  · subst hb
    go_wp2
    go_ret
    exact ⟨rfl, rfl⟩
  · have h0 : (b == 0) = false := by simpa using hb
    go_wp2
    go_ret
    exact ⟨ret_int (by simp [opVal, hb]), rfl⟩
theorem sop_mod (w : World) (a b : Int) : Calls Tryd.prog 33 #[.int .i64 7, .int .i64 a, .int .i64 b] w fun e w' => e = .returned (.int .i64 (opVal 7 a b)) ∧ w' = w := by
  go_enter Tryd.func33, Tryd.ntmps33
  by_cases hb : b = 0
  · subst hb
    go_wp2
    go_ret
    exact ⟨rfl, rfl⟩
  · have h0 : (b == 0) = false := by simpa using hb
    go_wp2
    go_ret
    exact ⟨ret_int (by simp [opVal, hb]), rfl⟩
theorem sop_add (w : World) (a b : Int) : Calls Tryd.prog 33 #[.int .i64 8, .int .i64 a, .int .i64 b] w fun e w' => e = .returned (.int .i64 (opVal 8 a b)) ∧ w' = w := by
  go_enter Tryd.func33, Tryd.ntmps33
  go_wp2_with (first | (go_at_call 34; refine (specOne_any _ _).mono ?_; rintro e w1 ⟨rfl, rfl⟩) | go_in)
  go_ret
  exact ⟨rfl, rfl⟩
theorem sop_sub (w : World) (a b : Int) : Calls Tryd.prog 33 #[.int .i64 9, .int .i64 a, .int .i64 b] w fun e w' => e = .returned (.int .i64 (opVal 9 a b)) ∧ w' = w := by
  go_enter Tryd.func33, Tryd.ntmps33
  go_wp2_with (first | (go_at_call 34; refine (specOne_any _ _).mono ?_; rintro e w1 ⟨rfl, rfl⟩) | go_in)
  go_ret
  exact ⟨rfl, rfl⟩
theorem sop_eq (w : World) (a b : Int) : Calls Tryd.prog 33 #[.int .i64 10, .int .i64 a, .int .i64 b] w fun e w' => e = .returned (.int .i64 (opVal 10 a b)) ∧ w' = w := by
  have hc := fun w => cmp_eq w a b
  generalize opVal 10 a b = r at hc ⊢
  go_enter Tryd.func33, Tryd.ntmps33
  go_wp2_with (first | (go_at_call 48; refine (hc _).mono ?_; rintro e w1 ⟨rfl, rfl⟩) | go_in)
  go_ret
  exact ⟨rfl, rfl⟩
theorem sop_ne (w : World) (a b : Int) : Calls Tryd.prog 33 #[.int .i64 11, .int .i64 a, .int .i64 b] w fun e w' => e = .returned (.int .i64 (opVal 11 a b)) ∧ w' = w := by
  have hc := fun w => cmp_ne w a b
  generalize opVal 11 a b = r at hc ⊢
  go_enter Tryd.func33, Tryd.ntmps33
  go_wp2_with (first | (go_at_call 48; refine (hc _).mono ?_; rintro e w1 ⟨rfl, rfl⟩) | go_in)
  go_ret
  exact ⟨rfl, rfl⟩
theorem sop_lt (w : World) (a b : Int) : Calls Tryd.prog 33 #[.int .i64 12, .int .i64 a, .int .i64 b] w fun e w' => e = .returned (.int .i64 (opVal 12 a b)) ∧ w' = w := by
  have hc := fun w => cmp_lt w a b
  generalize opVal 12 a b = r at hc ⊢
  go_enter Tryd.func33, Tryd.ntmps33
  go_wp2_with (first | (go_at_call 48; refine (hc _).mono ?_; rintro e w1 ⟨rfl, rfl⟩) | go_in)
  go_ret
  exact ⟨rfl, rfl⟩
theorem sop_le (w : World) (a b : Int) : Calls Tryd.prog 33 #[.int .i64 13, .int .i64 a, .int .i64 b] w fun e w' => e = .returned (.int .i64 (opVal 13 a b)) ∧ w' = w := by
  have hc := fun w => cmp_le w a b
  generalize opVal 13 a b = r at hc ⊢
  go_enter Tryd.func33, Tryd.ntmps33
  go_wp2_with (first | (go_at_call 48; refine (hc _).mono ?_; rintro e w1 ⟨rfl, rfl⟩) | go_in)
  go_ret
  exact ⟨rfl, rfl⟩
theorem sop_gt (w : World) (a b : Int) : Calls Tryd.prog 33 #[.int .i64 14, .int .i64 a, .int .i64 b] w fun e w' => e = .returned (.int .i64 (opVal 14 a b)) ∧ w' = w := by
  have hc := fun w => cmp_gt w a b
  generalize opVal 14 a b = r at hc ⊢
  go_enter Tryd.func33, Tryd.ntmps33
  go_wp2_with (first | (go_at_call 48; refine (hc _).mono ?_; rintro e w1 ⟨rfl, rfl⟩) | go_in)
  go_ret
  exact ⟨rfl, rfl⟩
theorem sop_ge (w : World) (a b : Int) : Calls Tryd.prog 33 #[.int .i64 15, .int .i64 a, .int .i64 b] w fun e w' => e = .returned (.int .i64 (opVal 15 a b)) ∧ w' = w := by
  have hc := fun w => cmp_ge w a b
  generalize opVal 15 a b = r at hc ⊢
  go_enter Tryd.func33, Tryd.ntmps33
  go_wp2_with (first | (go_at_call 48; refine (hc _).mono ?_; rintro e w1 ⟨rfl, rfl⟩) | go_in)
  go_ret
  exact ⟨rfl, rfl⟩
theorem sop_and (w : World) (a b : Int) : Calls Tryd.prog 33 #[.int .i64 16, .int .i64 a, .int .i64 b] w fun e w' => e = .returned (.int .i64 (opVal 16 a b)) ∧ w' = w := by
  have hc := fun w => cmp_and w a b
  generalize opVal 16 a b = r at hc ⊢
  go_enter Tryd.func33, Tryd.ntmps33
  go_wp2_with (first | (go_at_call 48; refine (hc _).mono ?_; rintro e w1 ⟨rfl, rfl⟩) | go_in)
  go_ret
  exact ⟨rfl, rfl⟩
theorem sop_or (w : World) (a b : Int) : Calls Tryd.prog 33 #[.int .i64 17, .int .i64 a, .int .i64 b] w fun e w' => e = .returned (.int .i64 (opVal 17 a b)) ∧ w' = w := by
  have hc := fun w => cmp_or w a b
  generalize opVal 17 a b = r at hc ⊢
  go_enter Tryd.func33, Tryd.ntmps33
  go_wp2_with (first | (go_at_call 48; refine (hc _).mono ?_; rintro e w1 ⟨rfl, rfl⟩) | go_in)
  go_ret
  exact ⟨rfl, rfl⟩
theorem sop_min (w : World) (a b : Int) : Calls Tryd.prog 33 #[.int .i64 18, .int .i64 a, .int .i64 b] w fun e w' => e = .returned (.int .i64 (opVal 18 a b)) ∧ w' = w := by
  have hs : opVal 18 a b = (if b < a then b else a) := rfl
  rw [hs]
  clear hs
  go_enter Tryd.func33, Tryd.ntmps33
  by_cases h : b < a
  · rw [if_pos h]
    go_wp2
    go_ret
    exact ⟨rfl, rfl⟩
  · rw [if_neg h]
    go_wp2
    go_ret
    exact ⟨rfl, rfl⟩
theorem sop_max (w : World) (a b : Int) : Calls Tryd.prog 33 #[.int .i64 19, .int .i64 a, .int .i64 b] w fun e w' => e = .returned (.int .i64 (opVal 19 a b)) ∧ w' = w := by
  have hs : opVal 19 a b = (if a < b then b else a) := rfl
  rw [hs]
  clear hs
  go_enter Tryd.func33, Tryd.ntmps33
  by_cases h : a < b
  · rw [if_pos h]
    go_wp2
    go_ret
    exact ⟨rfl, rfl⟩
  · rw [if_neg h]
    go_wp2
    go_ret
    exact ⟨rfl, rfl⟩
theorem sop_none (w : World) (k a b : Int) (h : k < 3 ∨ 20 < k) : Calls Tryd.prog 33 #[.int .i64 k, .int .i64 a, .int .i64 b] w fun e w' => e = .returned (.int .i64 (opVal k a b)) ∧ w' = w := by
  rw [op_none k a b h]
  have hc := fun w => cmp_none w k a b (by omega)
  have n3 : (k == 3) = false := by simp; omega
  have n4 : (k == 4) = false := by simp; omega
  have n5 : (k == 5) = false := by simp; omega
  have n6 : (k == 6) = false := by simp; omega
  have n7 : (k == 7) = false := by simp; omega
  have n8 : (k == 8) = false := by simp; omega
  have n9 : (k == 9) = false := by simp; omega
  have n18 : (k == 18) = false := by simp; omega
  have n19 : (k == 19) = false := by simp; omega
  have n20 : (k == 20) = false := by simp; omega
  clear h
  go_enter Tryd.func33, Tryd.ntmps33
  go_wp2_with (first | (go_at_call 48; refine (hc _).mono ?_; rintro e w1 ⟨rfl, rfl⟩) | go_in)
  go_ret
  exact ⟨rfl, rfl⟩
theorem specOp_any (w : World) (k a b : Int) : Calls Tryd.prog 33 #[.int .i64 k, .int .i64 a, .int .i64 b] w fun e w' => e = .returned (.int .i64 (opVal k a b)) ∧ w' = w := by
  rcases kinds_of k with (rfl | rfl | rfl | rfl | rfl | rfl | rfl | rfl | rfl | rfl | rfl | rfl | rfl | rfl | rfl | rfl | rfl | rfl) | h
  · exact sop_neg w a b
  · exact sop_not w a b
  · exact sop_abs w a b
  · exact sop_mul w a b
  · exact sop_div w a b
  · exact sop_mod w a b
  · exact sop_add w a b
  · exact sop_sub w a b
  · exact sop_eq w a b
  · exact sop_ne w a b
  · exact sop_lt w a b
  · exact sop_le w a b
  · exact sop_gt w a b
  · exact sop_ge w a b
  · exact sop_and w a b
  · exact sop_or w a b
  · exact sop_min w a b
  · exact sop_max w a b
  · exact sop_none w k a b h
end Go.Proofs.YtoehjbehfolekaaDoor
