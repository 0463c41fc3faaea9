/-
  The two sides of MeanOp: the program's table of signs (function values in a map from kinds) and the specification's switch answer alike at every kind and every two numbers.
-/
import Derived.Test.YtoehjbehfolekaaDoorProg
import Derived.WalkKit
import Derived.Maps.OwnSet
namespace Go.Proofs.YtoehjbehfolekaaDoor
open Go.RowKit Go.Maps

/-- a truth as a number -/
def bi (p : Bool) : Int := if p then 1 else 0
/-- what a sign makes of two numbers -/
def opVal (k a b : Int) : Int :=
  if k = 3 then wrap64 (-a) else if k = 4 then bi (a == 0) else if k = 20 then (if a < 0 then wrap64 (-a) else a)
  else if k = 5 then wrap64 (a * b) else if k = 6 then (if b = 0 then 0 else wrap64 (a.tdiv b)) else if k = 7 then (if b = 0 then 0 else a.tmod b)
  else if k = 8 then wrap64 (a + b) else if k = 9 then wrap64 (a - b)
  else if k = 10 then bi (a == b) else if k = 11 then bi (a != b) else if k = 12 then bi (decide (a < b)) else if k = 13 then bi (decide (a ≤ b)) else if k = 14 then bi (decide (b < a)) else if k = 15 then bi (decide (b ≤ a))
  else if k = 16 then bi (a != 0 && b != 0) else if k = 17 then bi (a != 0 || b != 0)
  else if k = 18 then (if b < a then b else a) else if k = 19 then (if a < b then b else a) else 0

theorem implTruth_any (w : World) (p : Bool) : Calls Tryd.prog 56 #[.bool p] w fun e w' => e = .returned (.int .i64 (bi p)) ∧ w' = w := by
  go_enter Tryd.func56, Tryd.ntmps56
  cases p <;> go_wp2 <;> go_ret <;> exact ⟨rfl, rfl⟩

theorem specOne_any (w : World) (p : Bool) : Calls Tryd.prog 34 #[.bool p] w fun e w' => e = .returned (.int .i64 (bi p)) ∧ w' = w := by
  go_enter Tryd.func34, Tryd.ntmps34
  cases p <;> go_wp2 <;> go_ret <;> exact ⟨rfl, rfl⟩

/-- a function that makes a number of two numbers and touches nothing -/
def Makes (f : Nat) (a b r : Int) : Prop := ∀ w : World, Calls Tryd.prog f #[.int .i64 a, .int .i64 b] w fun e w' => e = .returned (.int .i64 r) ∧ w' = w

def ranged (a : Int) : Prop := -9223372036854775808 ≤ a ∧ a ≤ 9223372036854775807

theorem abs_same {a : Int} (h : ranged a) : (if a < wrap64 (-a) then wrap64 (-a) else a) = (if a < 0 then wrap64 (-a) else a) := by
  unfold ranged at h
  unfold wrap64
  split <;> split <;> omega

theorem ret_int {a b : Int} (h : a = b) : Ending.returned (.int .i64 a) = .returned (.int .i64 b) := by rw [h]

theorem mk_neg (a b : Int) : Makes 54 a b (opVal 3 a b) := by
  intro w
  go_enter Tryd.func54, Tryd.ntmps54
  go_wp2
  go_ret
  exact ⟨rfl, rfl⟩
theorem mk_not (a b : Int) : Makes 55 a b (opVal 4 a b) := by
  intro w
  go_enter Tryd.func55, Tryd.ntmps55
  go_wp2_with (go_at_call 56; refine (implTruth_any _ _).mono ?_; rintro e w1 ⟨rfl, rfl⟩)
  go_ret
  exact ⟨rfl, rfl⟩
theorem mk_abs (a b : Int) (ha : ranged a) : Makes 57 a b (opVal 20 a b) := by
  intro w
  have hs : opVal 20 a b = (if a < wrap64 (-a) then wrap64 (-a) else a) := (abs_same ha).symm
  go_enter Tryd.func57, Tryd.ntmps57
  rw [hs]
  clear hs
  go_wp2
  all_goals (go_ret; exact ⟨rfl, rfl⟩)
theorem mk_mul (a b : Int) : Makes 58 a b (opVal 5 a b) := by
  intro w
  go_enter Tryd.func58, Tryd.ntmps58
  go_wp2
  go_ret
  exact ⟨rfl, rfl⟩
theorem mk_div (a b : Int) : Makes 59 a b (opVal 6 a b) := by
  intro w
  go_enter Tryd.func59, Tryd.ntmps59
  by_cases hb : b = 0
  · subst hb
    go_wp2
    go_ret
    exact ⟨rfl, rfl⟩
  · have h0 : (b == 0) = false := by simpa using hb
    go_wp2
    go_ret
    exact ⟨ret_int (by simp [opVal, hb]), rfl⟩
theorem mk_mod (a b : Int) : Makes 60 a b (opVal 7 a b) := by
  intro w
  go_enter Tryd.func60, Tryd.ntmps60
  by_cases hb : b = 0
  · subst hb
    go_wp2
    go_ret
    exact ⟨rfl, rfl⟩
  · have h0 : (b == 0) = false := by simpa using hb
    go_wp2
    go_ret
    exact ⟨ret_int (by simp [opVal, hb]), rfl⟩
theorem mk_add (a b : Int) : Makes 61 a b (opVal 8 a b) := by
  intro w
  go_enter Tryd.func61, Tryd.ntmps61
  go_wp2
  go_ret
  exact ⟨rfl, rfl⟩
theorem mk_sub (a b : Int) : Makes 62 a b (opVal 9 a b) := by
  intro w
  go_enter Tryd.func62, Tryd.ntmps62
  go_wp2
  go_ret
  exact ⟨rfl, rfl⟩
theorem mk_eq (a b : Int) : Makes 63 a b (opVal 10 a b) := by
  intro w
  go_enter Tryd.func63, Tryd.ntmps63
  go_wp2_with (go_at_call 56; refine (implTruth_any _ _).mono ?_; rintro e w1 ⟨rfl, rfl⟩)
  go_ret
  exact ⟨rfl, rfl⟩
theorem mk_ne (a b : Int) : Makes 64 a b (opVal 11 a b) := by
  intro w
  go_enter Tryd.func64, Tryd.ntmps64
  go_wp2_with (go_at_call 56; refine (implTruth_any _ _).mono ?_; rintro e w1 ⟨rfl, rfl⟩)
  go_ret
  exact ⟨rfl, rfl⟩
theorem mk_lt (a b : Int) : Makes 65 a b (opVal 12 a b) := by
  intro w
  go_enter Tryd.func65, Tryd.ntmps65
  go_wp2_with (go_at_call 56; refine (implTruth_any _ _).mono ?_; rintro e w1 ⟨rfl, rfl⟩)
  go_ret
  exact ⟨rfl, rfl⟩
theorem mk_le (a b : Int) : Makes 66 a b (opVal 13 a b) := by
  intro w
  go_enter Tryd.func66, Tryd.ntmps66
  go_wp2_with (go_at_call 56; refine (implTruth_any _ _).mono ?_; rintro e w1 ⟨rfl, rfl⟩)
  go_ret
  exact ⟨rfl, rfl⟩
theorem mk_gt (a b : Int) : Makes 67 a b (opVal 14 a b) := by
  intro w
  go_enter Tryd.func67, Tryd.ntmps67
  go_wp2_with (go_at_call 56; refine (implTruth_any _ _).mono ?_; rintro e w1 ⟨rfl, rfl⟩)
  go_ret
  exact ⟨rfl, rfl⟩
theorem mk_ge (a b : Int) : Makes 68 a b (opVal 15 a b) := by
  intro w
  go_enter Tryd.func68, Tryd.ntmps68
  go_wp2_with (go_at_call 56; refine (implTruth_any _ _).mono ?_; rintro e w1 ⟨rfl, rfl⟩)
  go_ret
  exact ⟨rfl, rfl⟩
theorem mk_and (a b : Int) : Makes 69 a b (opVal 16 a b) := by
  intro w
  go_enter Tryd.func69, Tryd.ntmps69
  by_cases ha : a = 0
  · subst ha
    go_wp2_with (go_at_call 56; refine (implTruth_any _ _).mono ?_; rintro e w1 ⟨rfl, rfl⟩)
    go_ret
    exact ⟨rfl, rfl⟩
  · have h0 : (a != 0) = true := by simpa using ha
    have h1 : opVal 16 a b = bi (b != 0) := by simp [opVal, h0]
    rw [h1]
    clear h1
    go_wp2_with (go_at_call 56; refine (implTruth_any _ _).mono ?_; rintro e w1 ⟨rfl, rfl⟩)
    go_ret
    exact ⟨rfl, rfl⟩
theorem mk_or (a b : Int) : Makes 70 a b (opVal 17 a b) := by
  intro w
  go_enter Tryd.func70, Tryd.ntmps70
  by_cases ha : a = 0
  · subst ha
    go_wp2_with (go_at_call 56; refine (implTruth_any _ _).mono ?_; rintro e w1 ⟨rfl, rfl⟩)
    go_ret
    exact ⟨ret_int (by simp [opVal]), rfl⟩
  · have h0 : (a != 0) = true := by simpa using ha
    have h1 : opVal 17 a b = bi true := by simp [opVal, h0]
    rw [h1]
    clear h1
    go_wp2_with (go_at_call 56; refine (implTruth_any _ _).mono ?_; rintro e w1 ⟨rfl, rfl⟩)
    go_ret
    exact ⟨rfl, rfl⟩
theorem mk_min (a b : Int) : Makes 71 a b (opVal 18 a b) := by
  intro w
  have hs : opVal 18 a b = (if b < a then b else a) := rfl
  go_enter Tryd.func71, Tryd.ntmps71
  rw [hs]
  clear hs
  go_wp2
  all_goals (go_ret; exact ⟨rfl, rfl⟩)
theorem mk_max (a b : Int) : Makes 72 a b (opVal 19 a b) := by
  intro w
  have hs : opVal 19 a b = (if a < b then b else a) := rfl
  go_enter Tryd.func72, Tryd.ntmps72
  rw [hs]
  clear hs
  go_wp2
  all_goals (go_ret; exact ⟨rfl, rfl⟩)
end Go.Proofs.YtoehjbehfolekaaDoor
