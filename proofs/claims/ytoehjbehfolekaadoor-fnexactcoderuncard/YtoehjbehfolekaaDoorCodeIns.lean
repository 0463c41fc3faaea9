/-
  One instruction, looked at by both sides.
-/
import Derived.Test.YtoehjbehfolekaaDoorCodeMath
set_option linter.unusedVariables false
namespace Go.Proofs.YtoehjbehfolekaaDoor
open Go.RowKit Go.Maps Go.Deep

theorem fits_plain (op a n : Int) (h : op = 1 ∨ op = 10 ∨ op = 11) : fitsB op a n = (a == 0) := by unfold fitsB; rw [if_pos h, dec_beq]
theorem fits_slot (op a n : Int) (h : op = 4 ∨ op = 5) : fitsB op a n = decide (0 ≤ a ∧ a < 80) := by unfold fitsB; rw [if_neg (by omega), if_neg (by omega), if_pos h]
theorem fits_place (op a n : Int) (h : op = 8 ∨ op = 9) : fitsB op a n = decide (0 ≤ a ∧ a ≤ n) := by unfold fitsB; rw [if_neg (by omega), if_neg (by omega), if_neg (by omega), if_neg (by omega), if_neg (by omega), if_pos h]
theorem fits_none (op a n : Int) (h1 : ¬ op = 1) (h2 : ¬ op = 2) (h4 : ¬ op = 4) (h5 : ¬ op = 5) (h6 : ¬ op = 6) (h7 : ¬ op = 7) (h8 : ¬ op = 8) (h9 : ¬ op = 9) (h10 : ¬ op = 10) (h11 : ¬ op = 11) : fitsB op a n = false := by
  unfold fitsB; rw [if_neg (by omega), if_neg (by omega), if_neg (by omega), if_neg (by omega), if_neg (by omega), if_neg (by omega)]

set_option maxHeartbeats 1600000 in
theorem numberFits_any (w : World) (op a : Int) (s : ByteArray) (n : Int) (hsh : ShapesIn w) (hsg : SignsIn w) :
    Calls Tryd.prog 49 #[.agg #[.int .i64 op, .int .i64 a, .string s], .int .i64 n] w fun e w' => e = .returned (.bool (fitsB op a n)) ∧ Below w.heap.size w w' := by
  have SH := hide (hsh.below ((Below.refl w.heap.size w).alloc (Nat.le_refl _) (.cells #[.int .i64 op, .int .i64 a, .string s] 49)) (Nat.le_refl _))
  have SG := hide (hsg.below ((Below.refl w.heap.size w).alloc (Nat.le_refl _) (.cells #[.int .i64 op, .int .i64 a, .string s] 49)) (Nat.le_refl _))
  have HB := hide ((Below.refl w.heap.size w).alloc (Nat.le_refl _) (.cells #[.int .i64 op, .int .i64 a, .string s] 49))
  clear hsh hsg
  by_cases h1 : op = 1
  · subst h1
    have hf := hide (fits_plain 1 a n (by omega))
    go_enter Tryd.func49, Tryd.ntmps49
    go_wp2
    go_ret
    exact ⟨ret_bool (unhide hf).symm, unhide HB⟩
  by_cases h10 : op = 10
  · subst h10
    have hf := hide (fits_plain 10 a n (by omega))
    clear h1
    go_enter Tryd.func49, Tryd.ntmps49
    go_wp2
    go_ret
    exact ⟨ret_bool (unhide hf).symm, unhide HB⟩
  by_cases h11 : op = 11
  · subst h11
    have hf := hide (fits_plain 11 a n (by omega))
    clear h1 h10
    go_enter Tryd.func49, Tryd.ntmps49
    go_wp2
    go_ret
    exact ⟨ret_bool (unhide hf).symm, unhide HB⟩
  by_cases h2 : op = 2
  · subst h2
    clear h1 h10 h11
    go_enter Tryd.func49, Tryd.ntmps49
    go_wp2
    go_ret
    exact ⟨rfl, unhide HB⟩
  by_cases h4 : op = 4
  · subst h4
    clear h1 h10 h11 h2
    have hf := hide (fits_slot 4 a n (by omega))
    by_cases a0 : 0 ≤ a
    · by_cases a1 : a < 80
      all_goals
        go_enter Tryd.func49, Tryd.ntmps49
        go_wp2
        go_ret
        exact ⟨ret_bool (by rw [unhide hf]; simp [a0, a1]), unhide HB⟩
    · go_enter Tryd.func49, Tryd.ntmps49
      go_wp2
      go_ret
      exact ⟨ret_bool (by rw [unhide hf]; simp; omega), unhide HB⟩
  by_cases h5 : op = 5
  · subst h5
    clear h1 h10 h11 h2 h4
    have hf := hide (fits_slot 5 a n (by omega))
    by_cases a0 : 0 ≤ a
    · by_cases a1 : a < 80
      all_goals
        go_enter Tryd.func49, Tryd.ntmps49
        go_wp2
        go_ret
        exact ⟨ret_bool (by rw [unhide hf]; simp [a0, a1]), unhide HB⟩
    · go_enter Tryd.func49, Tryd.ntmps49
      go_wp2
      go_ret
      exact ⟨ret_bool (by rw [unhide hf]; simp; omega), unhide HB⟩
  by_cases h6 : op = 6
  · subst h6
    clear h1 h10 h11 h2 h4 h5
    go_enter Tryd.func49, Tryd.ntmps49
    go_wp2_with (first
      | (go_at_call 77; refine (signTakes_any _ _ _ (unhide SH) (unhide SG)).mono ?_; rw [takes_one]; rintro e w1 ⟨rfl, rfl⟩)
      | go_in)
    go_ret
    exact ⟨rfl, unhide HB⟩
  by_cases h7 : op = 7
  · subst h7
    clear h1 h10 h11 h2 h4 h5 h6
    go_enter Tryd.func49, Tryd.ntmps49
    go_wp2_with (first
      | (go_at_call 77; refine (signTakes_any _ _ _ (unhide SH) (unhide SG)).mono ?_; rw [takes_two]; rintro e w1 ⟨rfl, rfl⟩)
      | go_in)
    go_ret
    exact ⟨rfl, unhide HB⟩
  by_cases h8 : op = 8
  · subst h8
    clear h1 h10 h11 h2 h4 h5 h6 h7
    have hf := hide (fits_place 8 a n (by omega))
    by_cases a0 : 0 ≤ a
    · by_cases a1 : a ≤ n
      all_goals
        go_enter Tryd.func49, Tryd.ntmps49
        go_wp2
        go_ret
        exact ⟨ret_bool (by rw [unhide hf]; simp [a0, a1]), unhide HB⟩
    · go_enter Tryd.func49, Tryd.ntmps49
      go_wp2
      go_ret
      exact ⟨ret_bool (by rw [unhide hf]; simp; omega), unhide HB⟩
  by_cases h9 : op = 9
  · subst h9
    clear h1 h10 h11 h2 h4 h5 h6 h7 h8
    have hf := hide (fits_place 9 a n (by omega))
    by_cases a0 : 0 ≤ a
    · by_cases a1 : a ≤ n
      all_goals
        go_enter Tryd.func49, Tryd.ntmps49
        go_wp2
        go_ret
        exact ⟨ret_bool (by rw [unhide hf]; simp [a0, a1]), unhide HB⟩
    · go_enter Tryd.func49, Tryd.ntmps49
      go_wp2
      go_ret
      exact ⟨ret_bool (by rw [unhide hf]; simp; omega), unhide HB⟩
  have hf := hide (fits_none op a n h1 h2 h4 h5 h6 h7 h8 h9 h10 h11)
  have e1 : (op == 1) = false := by simpa using h1
  have e2 : (op == 2) = false := by simpa using h2
  have e4 : (op == 4) = false := by simpa using h4
  have e5 : (op == 5) = false := by simpa using h5
  have e6 : (op == 6) = false := by simpa using h6
  have e7 : (op == 7) = false := by simpa using h7
  have e8 : (op == 8) = false := by simpa using h8
  have e9 : (op == 9) = false := by simpa using h9
  have e10 : (op == 10) = false := by simpa using h10
  have e11 : (op == 11) = false := by simpa using h11
  clear h1 h2 h4 h5 h6 h7 h8 h9 h10 h11
  go_enter Tryd.func49, Tryd.ntmps49
  go_wp2
  go_ret
  exact ⟨ret_bool (unhide hf).symm, unhide HB⟩

set_option maxHeartbeats 1600000 in
theorem insOk_any (w : World) (op a : Int) (s : ByteArray) (n : Int) (b m : Nat) (hs : s.size ≤ maxLen) (hsh : ShapesIn w) (hsg : SignsIn w) (hown : w.ownsMap Tryd.prog 9 (unitElem (H := Unit)) b m (setOf (.agg []) keyLits)) :
    Calls Tryd.prog 36 #[.agg #[.int .i64 op, .int .i64 a, .string s], .int .i64 n, .map (some b)] w fun e w' => e = .returned (.bool (insB op a s n)) ∧ Below w.heap.size w w' := by
  have bA := ((Below.refl w.heap.size w).alloc (Nat.le_refl _) (.cells #[.int .i64 op, .int .i64 a, .string s] 49))
  have SH := hide (hsh.below bA (Nat.le_refl _))
  have SG := hide (hsg.below bA (Nat.le_refl _))
  have HO := hide (ownsMap_below hown bA hown.lt)
  have HB := hide bA
  have HS := hide hs
  clear hsh hsg hown bA hs
  by_cases h3 : op = 3
  · subst h3
    by_cases ha : a = 0
    · subst ha
      have hf := hide (show insB 3 0 s n = nameB s by rw [ins_load]; simp)
      go_enter Tryd.func36, Tryd.ntmps36
      go_wp2_with (first
        | (go_at_call 37; refine (isName_any _ _ _ s (unhide HS) (unhide HO)).mono ?_; rintro e w1 ⟨rfl, hb1⟩)
        | go_in)
      go_ret
      exact ⟨ret_bool (unhide hf).symm, (unhide HB).trans (hb1.mono (unhide HB).size)⟩
    · have hf := hide (show insB 3 a s n = false by rw [ins_load]; simp [ha])
      have ea : (a == 0) = false := by simpa using ha
      clear ha
      go_enter Tryd.func36, Tryd.ntmps36
      go_wp2
      go_ret
      exact ⟨ret_bool (unhide hf).symm, unhide HB⟩
  · have e3 : (op == 3) = false := by simpa using h3
    have hi := hide (ins_other op a s n h3)
    by_cases h0 : s.size = 0
    · have hse := str_empty s h0
      have hf := hide (show insB op a s n = fitsB op a n by rw [unhide hi]; simp [h0])
      clear h3 h0 hi
      go_enter Tryd.func36, Tryd.ntmps36
      go_wp2_with (first
        | (go_at_call 49; refine (numberFits_any _ op a s n (unhide SH) (unhide SG)).mono ?_; rintro e w1 ⟨rfl, hb1⟩)
        | go_in)
      go_ret
      exact ⟨ret_bool (unhide hf).symm, (unhide HB).trans (hb1.mono (unhide HB).size)⟩
    · have hse := str_full s h0
      have hf := hide (show insB op a s n = false by rw [unhide hi]; simp [h0])
      clear h3 h0 hi
      go_enter Tryd.func36, Tryd.ntmps36
      go_wp2
      go_ret
      exact ⟨ret_bool (unhide hf).symm, unhide HB⟩

set_option maxHeartbeats 400000 in
theorem l4One_any (w : World) (a : Int) : Calls Tryd.prog 43 #[.int .i64 a] w fun e w' => e = .returned (.bool (oneB a)) ∧ w' = w := by
  have hf := hide (show oneB a = (a == 3 || (a == 4 || a == 20)) by simp [oneB, Bool.decide_or, dec_beq])
  by_cases h1 : a = 3
  · subst h1
    go_enter Tryd.func43, Tryd.ntmps43
    go_wp2
    go_ret
    exact ⟨rfl, rfl⟩
  have e1 : (a == 3) = false := by simpa using h1
  by_cases h2 : a = 4
  · subst h2
    clear e1 h1
    go_enter Tryd.func43, Tryd.ntmps43
    go_wp2
    go_ret
    exact ⟨rfl, rfl⟩
  have e2 : (a == 4) = false := by simpa using h2
  clear h1 h2
  go_enter Tryd.func43, Tryd.ntmps43
  go_wp2
  go_ret
  exact ⟨ret_bool (by rw [unhide hf, e1, e2]; rfl), rfl⟩

set_option maxHeartbeats 400000 in
theorem l4Two_any (w : World) (a : Int) : Calls Tryd.prog 44 #[.int .i64 a] w fun e w' => e = .returned (.bool (twoB a)) ∧ w' = w := by
  by_cases h1 : 5 ≤ a
  · by_cases h2 : a ≤ 15
    · have hf := hide (show twoB a = true by simp [twoB]; omega)
      go_enter Tryd.func44, Tryd.ntmps44
      go_wp2
      go_ret
      exact ⟨ret_bool (unhide hf).symm, rfl⟩
    · by_cases h18 : a = 18
      · subst h18
        clear h1 h2
        go_enter Tryd.func44, Tryd.ntmps44
        go_wp2
        go_ret
        exact ⟨rfl, rfl⟩
      · have e18 : (a == 18) = false := by simpa using h18
        have hf := hide (show twoB a = (a == 19) by rw [Bool.eq_iff_iff]; simp [twoB]; omega)
        clear h18
        go_enter Tryd.func44, Tryd.ntmps44
        go_wp2
        go_ret
        exact ⟨ret_bool (unhide hf).symm, rfl⟩
  · have e18 : (a == 18) = false := by simp; omega
    have e19 : (a == 19) = false := by simp; omega
    have hf := hide (show twoB a = false by simp [twoB]; omega)
    go_enter Tryd.func44, Tryd.ntmps44
    go_wp2
    go_ret
    exact ⟨ret_bool (unhide hf).symm, rfl⟩

end Go.Proofs.YtoehjbehfolekaaDoor
