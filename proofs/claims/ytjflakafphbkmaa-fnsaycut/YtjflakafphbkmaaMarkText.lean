/-
  The laws' own marks: a text for a number.
-/
import Derived.Test.YtjflakafphbkmaaTurns
import Derived.Deep.RegionWith
import Derived.Deep.Slices
import Derived.Deep.QuietTactic
import Derived.BigQuiet
import Derived.ProofKit
import Derived.Lib.ItoaNum
import Derived.Deep.RegionHeld3
set_option linter.unusedVariables false
namespace Go.Proofs.Ytjflakafphbkmaa
open Go.RowKit Go.Maps Go.Deep

def mDig (m : Nat) : UInt8 := UInt8.ofNat (48 + m % 10)
theorem mDec_len (u : Nat) : ∀ m : Nat, u < 10 ^ (m + 1) → (Lib.decDigits u).length ≤ m + 1 := by
  intro m
  induction m generalizing u with
  | zero =>
    intro h
    rw [Lib.decDigits, dif_pos (by simpa using h)]
    simp
  | succ m ih =>
    intro h
    rw [Lib.decDigits]
    split
    · simp
    · have := ih (u / 10) (by rw [Nat.pow_succ] at h; omega)
      simp; omega
theorem mDec_step (m : Nat) (h : ¬ m < 10) (out : ByteArray) : (⟨(Lib.decDigits m).toArray⟩ : ByteArray) ++ out = ⟨(Lib.decDigits (m / 10)).toArray⟩ ++ (⟨#[mDig m]⟩ ++ out) := by
  rw [Lib.decDigits, dif_neg h]
  apply ByteArray.ext
  simp [mDig]
theorem mDec_last (m : Nat) (h : m < 10) : (⟨(Lib.decDigits m).toArray⟩ : ByteArray) = ⟨#[mDig m]⟩ := by
  rw [Lib.decDigits, dif_pos h, mDig, Nat.mod_eq_of_lt h]
/-- what is still to be written, ahead of what is written -/
def MarkLeft (N m : Nat) (out : ByteArray) : Prop := if m = 0 then out = ⟨(Lib.decDigits N).toArray⟩ else (⟨(Lib.decDigits m).toArray⟩ : ByteArray) ++ out = ⟨(Lib.decDigits N).toArray⟩
theorem MarkLeft.step {N m : Nat} {out : ByteArray} (h : MarkLeft N m out) (hm : m ≠ 0) : MarkLeft N (m / 10) (⟨#[mDig m]⟩ ++ out) := by
  unfold MarkLeft at h ⊢
  rw [if_neg hm] at h
  by_cases h10 : m < 10
  · rw [if_pos (by omega), ← h, mDec_last m h10]
  · rw [if_neg (by omega), ← mDec_step m h10]; exact h
theorem MarkLeft.size {N m : Nat} {out : ByteArray} (h : MarkLeft N m out) (hN : N ≤ 999999999999999999) : out.size ≤ 18 := by
  have hl := mDec_len N 17 (by omega)
  have sl : ∀ l : List UInt8, (⟨l.toArray⟩ : ByteArray).size = l.length := fun l => by simp [ByteArray.size]
  unfold MarkLeft at h
  split at h
  · rw [h, sl]; omega
  · have := congrArg ByteArray.size h
    have e1 := sl (Lib.decDigits N)
    rw [show ∀ a b : ByteArray, (a ++ b).size = a.size + b.size from fun a b => by simp] at this
    omega
/-- the mark of a number -/
def mText (k : Int) : ByteArray := ⟨#[109]⟩ ++ ⟨(Lib.decDigits k.toNat).toArray⟩
theorem mText_zero (k : Int) (h : k ≤ 0) : mText k = ⟨#[109, 48]⟩ := by
  have : k.toNat = 0 := by omega
  unfold mText
  rw [this, mDec_last 0 (by omega)]
  rfl

end Go.Proofs.Ytjflakafphbkmaa
