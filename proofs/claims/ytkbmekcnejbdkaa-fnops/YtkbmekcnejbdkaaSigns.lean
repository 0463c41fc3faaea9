/-
  The two sides of MeanOp: the program's table of signs (function values in a map from kinds) and the specification's switch answer alike at every kind and every two numbers.
-/
import Derived.Test.YtkbmekcnejbdkaaProg
import Derived.WalkKit
import Derived.Maps.OwnSet
namespace Go.Proofs.Ytkbmekcnejbdkaa
open Go.RowKit Go.Maps

/-- a truth as a number -/
def bi (p : Bool) : Int := if p then 1 else 0
/-- what a sign makes of two numbers -/
def opVal (k a b : Int) : Int :=
  if k = 3 then wrap64 (-a) else if k = 4 then bi (a == 0) else if k = 20 then (if a < 0 then wrap64 (-a) else a)
  else if k = 5 then wrap64 (a * b) else if k = 6 then (if b = 0 then 0 else wrap64 (a.tdiv b)) else if k = 7 then (if b = 0 then 0 else a.tmod b)
  else if k = 8 then wrap64 (a + b) else if k = 9 then wrap64 (a - b)
  else if k = 10 then bi (a == b) else if k = 11 then bi (a != b) else if k = 12 then bi (decide (a < b)) else if k = 13 then bi (decide (a ≤ b)) else if k = 14 then bi (decide (b < a)) else if k = 15 then bi (decide (b ≤ a))
  else if k = 16 then bi (a != 0 && b != 0) else if k = 17 then bi (a != 0 || b != 0)
  else if k = 18 then (if b < a then b else a) else if k = 19 then (if a < b then b else a) else 0

theorem implTruth_any (w : World) (p : Bool) : Calls Try.prog 28 #[.bool p] w fun e w' => e = .returned (.int .i64 (bi p)) ∧ w' = w := by
  go_enter Try.func28, Try.ntmps28
  cases p <;> go_wp2 <;> go_ret <;> exact ⟨rfl, rfl⟩

theorem specOne_any (w : World) (p : Bool) : Calls Try.prog 18 #[.bool p] w fun e w' => e = .returned (.int .i64 (bi p)) ∧ w' = w := by
  go_enter Try.func18, Try.ntmps18
  cases p <;> go_wp2 <;> go_ret <;> exact ⟨rfl, rfl⟩

/-- a function that makes a number of two numbers and touches nothing -/
def Makes (f : Nat) (a b r : Int) : Prop := ∀ w : World, Calls Try.prog f #[.int .i64 a, .int .i64 b] w fun e w' => e = .returned (.int .i64 r) ∧ w' = w

def ranged (a : Int) : Prop := -9223372036854775808 ≤ a ∧ a ≤ 9223372036854775807

theorem abs_same {a : Int} (h : ranged a) : (if a < wrap64 (-a) then wrap64 (-a) else a) = (if a < 0 then wrap64 (-a) else a) := by
  unfold ranged at h
  unfold wrap64
  split <;> split <;> omega

theorem ret_int {a b : Int} (h : a = b) : Ending.returned (.int .i64 a) = .returned (.int .i64 b) := by rw [h]

theorem mk_neg (a b : Int) : Makes 26 a b (opVal 3 a b) := by
  intro w
  go_enter Try.func26, Try.ntmps26
  go_wp2
  go_ret
  exact ⟨rfl, rfl⟩
theorem mk_not (a b : Int) : Makes 27 a b (opVal 4 a b) := by
  intro w
  go_enter Try.func27, Try.ntmps27
  go_wp2_with (go_at_call 28; refine (implTruth_any _ _).mono ?_; rintro e w1 ⟨rfl, rfl⟩)
  go_ret
  exact ⟨rfl, rfl⟩
theorem mk_abs (a b : Int) (ha : ranged a) : Makes 29 a b (opVal 20 a b) := by
  intro w
  have hs : opVal 20 a b = (if a < wrap64 (-a) then wrap64 (-a) else a) := (abs_same ha).symm
  go_enter Try.func29, Try.ntmps29
  rw [hs]
  clear hs
  go_wp2
  all_goals (go_ret; exact ⟨rfl, rfl⟩)
theorem mk_mul (a b : Int) : Makes 30 a b (opVal 5 a b) := by
  intro w
  go_enter Try.func30, Try.ntmps30
  go_wp2
  go_ret
  exact ⟨rfl, rfl⟩
theorem mk_div (a b : Int) : Makes 31 a b (opVal 6 a b) := by
  intro w
  go_enter Try.func31, Try.ntmps31
  by_cases hb : b = 0
  · subst hb
    go_wp2
    go_ret
    exact ⟨rfl, rfl⟩
  · have h0 : (b == 0) = false := by simpa using hb
    go_wp2
    go_ret
    exact ⟨ret_int (by simp [opVal, hb]), rfl⟩
theorem mk_mod (a b : Int) : Makes 32 a b (opVal 7 a b) := by
  intro w
  go_enter Try.func32, Try.ntmps32
  by_cases hb : b = 0
  · subst hb
    go_wp2
    go_ret
    exact ⟨rfl, rfl⟩
  · have h0 : (b == 0) = false := by simpa using hb
    go_wp2
    go_ret
    exact ⟨ret_int (by simp [opVal, hb]), rfl⟩
theorem mk_add (a b : Int) : Makes 33 a b (opVal 8 a b) := by
  intro w
  go_enter Try.func33, Try.ntmps33
  go_wp2
  go_ret
  exact ⟨rfl, rfl⟩
theorem mk_sub (a b : Int) : Makes 34 a b (opVal 9 a b) := by
  intro w
  go_enter Try.func34, Try.ntmps34
  go_wp2
  go_ret
  exact ⟨rfl, rfl⟩
theorem mk_eq (a b : Int) : Makes 35 a b (opVal 10 a b) := by
  intro w
  go_enter Try.func35, Try.ntmps35
  go_wp2_with (go_at_call 28; refine (implTruth_any _ _).mono ?_; rintro e w1 ⟨rfl, rfl⟩)
  go_ret
  exact ⟨rfl, rfl⟩
theorem mk_ne (a b : Int) : Makes 36 a b (opVal 11 a b) := by
  intro w
  go_enter Try.func36, Try.ntmps36
  go_wp2_with (go_at_call 28; refine (implTruth_any _ _).mono ?_; rintro e w1 ⟨rfl, rfl⟩)
  go_ret
  exact ⟨rfl, rfl⟩
theorem mk_lt (a b : Int) : Makes 37 a b (opVal 12 a b) := by
  intro w
  go_enter Try.func37, Try.ntmps37
  go_wp2_with (go_at_call 28; refine (implTruth_any _ _).mono ?_; rintro e w1 ⟨rfl, rfl⟩)
  go_ret
  exact ⟨rfl, rfl⟩
theorem mk_le (a b : Int) : Makes 38 a b (opVal 13 a b) := by
  intro w
  go_enter Try.func38, Try.ntmps38
  go_wp2_with (go_at_call 28; refine (implTruth_any _ _).mono ?_; rintro e w1 ⟨rfl, rfl⟩)
  go_ret
  exact ⟨rfl, rfl⟩
theorem mk_gt (a b : Int) : Makes 39 a b (opVal 14 a b) := by
  intro w
  go_enter Try.func39, Try.ntmps39
  go_wp2_with (go_at_call 28; refine (implTruth_any _ _).mono ?_; rintro e w1 ⟨rfl, rfl⟩)
  go_ret
  exact ⟨rfl, rfl⟩
theorem mk_ge (a b : Int) : Makes 40 a b (opVal 15 a b) := by
  intro w
  go_enter Try.func40, Try.ntmps40
  go_wp2_with (go_at_call 28; refine (implTruth_any _ _).mono ?_; rintro e w1 ⟨rfl, rfl⟩)
  go_ret
  exact ⟨rfl, rfl⟩
theorem mk_and (a b : Int) : Makes 41 a b (opVal 16 a b) := by
  intro w
  go_enter Try.func41, Try.ntmps41
  by_cases ha : a = 0
  · subst ha
    go_wp2_with (go_at_call 28; refine (implTruth_any _ _).mono ?_; rintro e w1 ⟨rfl, rfl⟩)
    go_ret
    exact ⟨rfl, rfl⟩
  · have h0 : (a != 0) = true := by simpa using ha
    have h1 : opVal 16 a b = bi (b != 0) := by simp [opVal, h0]
    rw [h1]
    clear h1
    go_wp2_with (go_at_call 28; refine (implTruth_any _ _).mono ?_; rintro e w1 ⟨rfl, rfl⟩)
    go_ret
    exact ⟨rfl, rfl⟩
theorem mk_or (a b : Int) : Makes 42 a b (opVal 17 a b) := by
  intro w
  go_enter Try.func42, Try.ntmps42
  by_cases ha : a = 0
  · subst ha
    go_wp2_with (go_at_call 28; refine (implTruth_any _ _).mono ?_; rintro e w1 ⟨rfl, rfl⟩)
    go_ret
    exact ⟨ret_int (by simp [opVal]), rfl⟩
  · have h0 : (a != 0) = true := by simpa using ha
    have h1 : opVal 17 a b = bi true := by simp [opVal, h0]
    rw [h1]
    clear h1
    go_wp2_with (go_at_call 28; refine (implTruth_any _ _).mono ?_; rintro e w1 ⟨rfl, rfl⟩)
    go_ret
    exact ⟨rfl, rfl⟩
theorem mk_min (a b : Int) : Makes 43 a b (opVal 18 a b) := by
  intro w
  have hs : opVal 18 a b = (if b < a then b else a) := rfl
  go_enter Try.func43, Try.ntmps43
  rw [hs]
  clear hs
  go_wp2
  all_goals (go_ret; exact ⟨rfl, rfl⟩)
theorem mk_max (a b : Int) : Makes 44 a b (opVal 19 a b) := by
  intro w
  have hs : opVal 19 a b = (if a < b then b else a) := rfl
  go_enter Try.func44, Try.ntmps44
  rw [hs]
  clear hs
  go_wp2
  all_goals (go_ret; exact ⟨rfl, rfl⟩)
end Go.Proofs.Ytkbmekcnejbdkaa
