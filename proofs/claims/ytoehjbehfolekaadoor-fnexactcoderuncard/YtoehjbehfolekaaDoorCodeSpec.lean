/-
  One instruction, looked at by the specification.
-/
import Derived.Test.YtoehjbehfolekaaDoorCodeIns
set_option linter.unusedVariables false
namespace Go.Proofs.YtoehjbehfolekaaDoor
open Go.RowKit Go.Maps Go.Deep

set_option maxHeartbeats 1600000 in
/-- an instruction without a name that is no load -/
theorem l4Ok_plain (w : World) (op a : Int) (s : ByteArray) (n : Int) (h3 : ¬ op = 3) (h0 : s.size = 0) :
    Calls Tryd.prog 28 #[.agg #[.int .i64 op, .int .i64 a, .string s], .int .i64 n] w fun e w' => e = .returned (.bool (fitsB op a n)) ∧ Below w.heap.size w w' := by
  have HB := hide ((Below.refl w.heap.size w).alloc (Nat.le_refl _) (.cells #[.int .i64 op, .int .i64 a, .string s] 49))
  have hse := str_empty s h0
  clear h0
  by_cases h1 : op = 1
  · subst h1
    clear h3 
    have hf := hide (fits_plain 1 a n (by omega))
    go_enter Tryd.func28, Tryd.ntmps28
    go_wp2
    go_ret
    exact ⟨ret_bool (unhide hf).symm, unhide HB⟩
  by_cases h10 : op = 10
  · subst h10
    clear h3 h1
    have hf := hide (fits_plain 10 a n (by omega))
    go_enter Tryd.func28, Tryd.ntmps28
    go_wp2
    go_ret
    exact ⟨ret_bool (unhide hf).symm, unhide HB⟩
  by_cases h11 : op = 11
  · subst h11
    clear h3 h1 h10
    have hf := hide (fits_plain 11 a n (by omega))
    go_enter Tryd.func28, Tryd.ntmps28
    go_wp2
    go_ret
    exact ⟨ret_bool (unhide hf).symm, unhide HB⟩
  by_cases h2 : op = 2
  · subst h2
    clear h3 h1 h10 h11
    go_enter Tryd.func28, Tryd.ntmps28
    go_wp2
    go_ret
    exact ⟨rfl, unhide HB⟩
  by_cases h4 : op = 4
  · subst h4
    clear h3 h1 h10 h11 h2
    have hf := hide (fits_slot 4 a n (by omega))
    by_cases a0 : 0 ≤ a
    · by_cases a1 : a < 80
      all_goals
        go_enter Tryd.func28, Tryd.ntmps28
        go_wp2
        go_ret
        exact ⟨ret_bool (by rw [unhide hf]; simp [a0, a1]), unhide HB⟩
    · go_enter Tryd.func28, Tryd.ntmps28
      go_wp2
      go_ret
      exact ⟨ret_bool (by rw [unhide hf]; simp; omega), unhide HB⟩
  by_cases h5 : op = 5
  · subst h5
    clear h3 h1 h10 h11 h2 h4
    have hf := hide (fits_slot 5 a n (by omega))
    by_cases a0 : 0 ≤ a
    · by_cases a1 : a < 80
      all_goals
        go_enter Tryd.func28, Tryd.ntmps28
        go_wp2
        go_ret
        exact ⟨ret_bool (by rw [unhide hf]; simp [a0, a1]), unhide HB⟩
    · go_enter Tryd.func28, Tryd.ntmps28
      go_wp2
      go_ret
      exact ⟨ret_bool (by rw [unhide hf]; simp; omega), unhide HB⟩
  by_cases h6 : op = 6
  · subst h6
    clear h3 h1 h10 h11 h2 h4 h5
    go_enter Tryd.func28, Tryd.ntmps28
    go_wp2_with (first
      | (go_at_call 43; refine (l4One_any _ _).mono ?_; rintro e w1 ⟨rfl, rfl⟩)
      | go_in)
    go_ret
    exact ⟨rfl, unhide HB⟩
  by_cases h7 : op = 7
  · subst h7
    clear h3 h1 h10 h11 h2 h4 h5 h6
    go_enter Tryd.func28, Tryd.ntmps28
    go_wp2_with (first
      | (go_at_call 44; refine (l4Two_any _ _).mono ?_; rintro e w1 ⟨rfl, rfl⟩)
      | go_in)
    go_ret
    exact ⟨rfl, unhide HB⟩
  by_cases h8 : op = 8
  · subst h8
    clear h3 h1 h10 h11 h2 h4 h5 h6 h7
    have hf := hide (fits_place 8 a n (by omega))
    by_cases a0 : 0 ≤ a
    · by_cases a1 : a ≤ n
      all_goals
        go_enter Tryd.func28, Tryd.ntmps28
        go_wp2
        go_ret
        exact ⟨ret_bool (by rw [unhide hf]; simp [a0, a1]), unhide HB⟩
    · go_enter Tryd.func28, Tryd.ntmps28
      go_wp2
      go_ret
      exact ⟨ret_bool (by rw [unhide hf]; simp; omega), unhide HB⟩
  by_cases h9 : op = 9
  · subst h9
    clear h3 h1 h10 h11 h2 h4 h5 h6 h7 h8
    have hf := hide (fits_place 9 a n (by omega))
    by_cases a0 : 0 ≤ a
    · by_cases a1 : a ≤ n
      all_goals
        go_enter Tryd.func28, Tryd.ntmps28
        go_wp2
        go_ret
        exact ⟨ret_bool (by rw [unhide hf]; simp [a0, a1]), unhide HB⟩
    · go_enter Tryd.func28, Tryd.ntmps28
      go_wp2
      go_ret
      exact ⟨ret_bool (by rw [unhide hf]; simp; omega), unhide HB⟩
  have hf := hide (fits_none op a n h1 h2 h4 h5 h6 h7 h8 h9 h10 h11)
  have e1 : (op == 1) = false := by simpa using h1
  have e2 : (op == 2) = false := by simpa using h2
  have e3 : (op == 3) = false := by simpa using h3
  have e4 : (op == 4) = false := by simpa using h4
  have e5 : (op == 5) = false := by simpa using h5
  have e6 : (op == 6) = false := by simpa using h6
  have e7 : (op == 7) = false := by simpa using h7
  have e8 : (op == 8) = false := by simpa using h8
  have e9 : (op == 9) = false := by simpa using h9
  have e10 : (op == 10) = false := by simpa using h10
  have e11 : (op == 11) = false := by simpa using h11
  clear h1 h2 h3 h4 h5 h6 h7 h8 h9 h10 h11
  go_enter Tryd.func28, Tryd.ntmps28
  go_wp2
  go_ret
  exact ⟨ret_bool (unhide hf).symm, unhide HB⟩

set_option maxHeartbeats 1600000 in
theorem l4Ok_any (w : World) (op a : Int) (s : ByteArray) (n : Int) (hs : s.size ≤ maxLen) :
    Calls Tryd.prog 28 #[.agg #[.int .i64 op, .int .i64 a, .string s], .int .i64 n] w fun e w' => e = .returned (.bool (insB op a s n)) ∧ Below w.heap.size w w' := by
  have HB := hide ((Below.refl w.heap.size w).alloc (Nat.le_refl _) (.cells #[.int .i64 op, .int .i64 a, .string s] 49))
  have HS := hide hs
  clear hs
  by_cases h3 : op = 3
  · subst h3
    by_cases h0 : s.size = 0
    · have hf := hide (show insB 3 a s n = false by rw [ins_load, name_empty s h0]; simp)
      have hse := str_empty s h0
      clear h0
      go_enter Tryd.func28, Tryd.ntmps28
      go_wp2
      go_ret
      exact ⟨ret_bool (unhide hf).symm, unhide HB⟩
    · have hse := str_full s h0
      clear h0
      by_cases ha : a = 0
      · subst ha
        have hf := hide (show insB 3 0 s n = nameB s by rw [ins_load]; simp)
        go_enter Tryd.func28, Tryd.ntmps28
        go_wp2_with (first
          | (go_at_call 29; refine (specName_any _ _ (unhide HS)).mono ?_; rintro e w1 ⟨rfl, hb1⟩)
          | go_in)
        go_ret
        exact ⟨ret_bool (unhide hf).symm, (unhide HB).trans (hb1.mono (unhide HB).size)⟩
      · have hf := hide (show insB 3 a s n = false by rw [ins_load]; simp [ha])
        have ea : (a == 0) = false := by simpa using ha
        clear ha
        go_enter Tryd.func28, Tryd.ntmps28
        go_wp2
        go_ret
        exact ⟨ret_bool (unhide hf).symm, unhide HB⟩
  · have hi := hide (ins_other op a s n h3)
    by_cases h0 : s.size = 0
    · rw [show insB op a s n = fitsB op a n by rw [unhide hi]; simp [h0]]
      exact l4Ok_plain w op a s n h3 h0
    · have hse := str_full s h0
      have hf := hide (show insB op a s n = false by rw [unhide hi]; simp [h0])
      have e3 : (op == 3) = false := by simpa using h3
      clear h0 h3 hi
      go_enter Tryd.func28, Tryd.ntmps28
      go_wp2
      go_ret
      exact ⟨ret_bool (unhide hf).symm, unhide HB⟩

end Go.Proofs.YtoehjbehfolekaaDoor
