/-
  Which instructions may stand in code of so many: what both sides answer.
-/
import Derived.Test.YtoehjbehfolekaaDoorInss
import Derived.Test.YtoehjbehfolekaaDoorNames
import Derived.Test.YtoehjbehfolekaaDoorWords
set_option linter.unusedVariables false
namespace Go.Proofs.YtoehjbehfolekaaDoor
open Go.RowKit Go.Maps Go.Deep

/-- the number of an instruction that has no name -/
def fitsB (op a n : Int) : Bool :=
  if op = 1 ∨ op = 10 ∨ op = 11 then decide (a = 0)
  else if op = 2 then true
  else if op = 4 ∨ op = 5 then decide (0 ≤ a ∧ a < 80)
  else if op = 6 then oneB a
  else if op = 7 then twoB a
  else if op = 8 ∨ op = 9 then decide (0 ≤ a ∧ a ≤ n)
  else false
/-- an instruction of code of so many -/
def insB (op a : Int) (s : ByteArray) (n : Int) : Bool :=
  if op = 3 then decide (a = 0) && nameB s else decide (s.size = 0) && fitsB op a n
theorem ins_load (a : Int) (s : ByteArray) (n : Int) : insB 3 a s n = (decide (a = 0) && nameB s) := rfl
theorem ins_other (op a : Int) (s : ByteArray) (n : Int) (h : ¬ op = 3) : insB op a s n = (decide (s.size = 0) && fitsB op a n) := by simp [insB, h]
theorem name_empty (s : ByteArray) (h : s.size = 0) : nameB s = false := by simp [nameB, h]

/-- code: its first k instructions may be -/
def CodeTo (xs : List InsV) (k : Nat) : Prop := ∀ i (h : i < xs.length), i < k → insB xs[i].a0 xs[i].a1 xs[i].a2 xs.length = true
def CodeGood (xs : List InsV) : Prop := (1 : Int) ≤ xs.length ∧ (xs.length : Int) ≤ 4000 ∧ CodeTo xs xs.length
def RetCode (xs : List InsV) (e : Ending) : Prop := (CodeGood xs ∧ e = .returned (.bool true)) ∨ (¬ CodeGood xs ∧ e = .returned (.bool false))
theorem retCode_same {xs : List InsV} {e e' : Ending} (h : RetCode xs e) (h' : RetCode xs e') : ∃ r : Bool, e = .returned (.bool r) ∧ e' = .returned (.bool r) := by
  rcases h with ⟨a, rfl⟩ | ⟨a, rfl⟩ <;> rcases h' with ⟨b, rfl⟩ | ⟨b, rfl⟩
  · exact ⟨true, rfl, rfl⟩
  · exact absurd a b
  · exact absurd b a
  · exact ⟨false, rfl, rfl⟩
theorem code_yes {xs : List InsV} (h : CodeGood xs) : RetCode xs (.returned (.bool true)) := .inl ⟨h, rfl⟩
theorem code_no {xs : List InsV} (h : ¬ CodeGood xs) : RetCode xs (.returned (.bool false)) := .inr ⟨h, rfl⟩
theorem code_bad {xs : List InsV} {k : Nat} (hk : k < xs.length) (h : insB xs[k].a0 xs[k].a1 xs[k].a2 xs.length = false) : ¬ CodeGood xs := fun g => by
  have := g.2.2 k hk hk
  rw [h] at this
  cases this
theorem code_step {xs : List InsV} {k : Nat} (hk : k < xs.length) (hg : CodeTo xs k) (h : insB xs[k].a0 xs[k].a1 xs[k].a2 xs.length = true) : CodeTo xs (k + 1) := by
  intro i hi hik
  by_cases e : i = k
  · subst e; exact h
  · exact hg i hi (by omega)
theorem code_zero (xs : List InsV) : CodeTo xs 0 := fun i h hi => absurd hi (Nat.not_lt_zero _)

end Go.Proofs.YtoehjbehfolekaaDoor
