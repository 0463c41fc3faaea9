/-
  Decimals: the specification's own way to write a number is Go's own.
-/
import Derived.Test.YtiebfcefmdiajaaGreatDoorTurns
import Derived.ProofKit
import Derived.WalkKit
import Derived.Lib.ItoaNum
import Derived.Laws.BytesArg
namespace Go.Proofs.YtiebfcefmdiajaaGreatDoor
open Go.RowKit Go.Maps

theorem size_app (a b : ByteArray) : (a ++ b).size = a.size + b.size := by simp
theorem size_lit (l : List UInt8) : (⟨l.toArray⟩ : ByteArray).size = l.length := by simp [ByteArray.size]
theorem dec_len (u : Nat) : ∀ m : Nat, u < 10 ^ (m + 1) → (Lib.decDigits u).length ≤ m + 1 := by
  intro m
  induction m generalizing u with
  | zero =>
    intro h
    rw [Lib.decDigits, dif_pos (by simpa using h)]
    simp
  | succ m ih =>
    intro h
    rw [Lib.decDigits]
    split
    · simp
    · have := ih (u / 10) (by rw [Nat.pow_succ] at h; omega)
      simp; omega
def dgt (m : Nat) : UInt8 := UInt8.ofNat (48 + m % 10)
theorem dec_step (m : Nat) (h : ¬ m < 10) (out : ByteArray) : (⟨(Lib.decDigits m).toArray⟩ : ByteArray) ++ out = ⟨(Lib.decDigits (m / 10)).toArray⟩ ++ (⟨#[dgt m]⟩ ++ out) := by
  rw [Lib.decDigits, dif_neg h]
  apply ByteArray.ext
  simp [dgt]
theorem dec_last (m : Nat) (h : m < 10) : (⟨(Lib.decDigits m).toArray⟩ : ByteArray) = ⟨#[dgt m]⟩ := by
  rw [Lib.decDigits, dif_pos h, dgt, Nat.mod_eq_of_lt h]
/-- what is still to be written, ahead of what is written -/
def DecLeft (N m : Nat) (out : ByteArray) : Prop := if m = 0 then out = ⟨(Lib.decDigits N).toArray⟩ else (⟨(Lib.decDigits m).toArray⟩ : ByteArray) ++ out = ⟨(Lib.decDigits N).toArray⟩
theorem DecLeft.step {N m : Nat} {out : ByteArray} (h : DecLeft N m out) (hm : m ≠ 0) : DecLeft N (m / 10) (⟨#[dgt m]⟩ ++ out) := by
  unfold DecLeft at h ⊢
  rw [if_neg hm] at h
  by_cases h10 : m < 10
  · rw [if_pos (by omega), ← h, dec_last m h10]
  · rw [if_neg (by omega), ← dec_step m h10]; exact h
theorem DecLeft.size {N m : Nat} {out : ByteArray} (h : DecLeft N m out) (hN : N ≤ 9223372036854775808) : out.size ≤ 19 := by
  have hl := dec_len N 18 (by omega)
  unfold DecLeft at h
  split at h
  · rw [h, size_lit]; omega
  · have := congrArg ByteArray.size h
    have e1 := size_lit (Lib.decDigits N)
    rw [size_app] at this
    omega
def itoaB (n : Int) : ByteArray := ⟨(Lib.itoa n).toArray⟩
theorem itoaB_size (n : Int) (h0 : -9223372036854775808 ≤ n) (h1 : n ≤ 9223372036854775807) : (itoaB n).size ≤ 20 := by
  unfold itoaB Lib.itoa
  rw [size_lit]
  split
  · have := dec_len n.natAbs 18 (by omega)
    simp only [List.length_cons]; omega
  · have := dec_len n.toNat 18 (by omega)
    omega

end Go.Proofs.YtiebfcefmdiajaaGreatDoor
