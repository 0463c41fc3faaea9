/-
  The laws' own marks: a text for a number.
-/
import Derived.Test.YtpekcpjlappkgaaDoorTurns
import Derived.Deep.RegionWith
import Derived.Deep.Slices
import Derived.Deep.QuietTactic
import Derived.BigQuiet
import Derived.ProofKit
import Derived.Lib.ItoaNum
import Derived.Deep.RegionHeld3
set_option linter.unusedVariables false
namespace Go.Proofs.YtpekcpjlappkgaaDoor
open Go.RowKit Go.Maps Go.Deep

def mDig (m : Nat) : UInt8 := UInt8.ofNat (48 + m % 10)
theorem mDec_len (u : Nat) : ∀ m : Nat, u < 10 ^ (m + 1) → (Lib.decDigits u).length ≤ m + 1 := by
  intro m
  induction m generalizing u with
  | zero =>
    intro h
    rw [Lib.decDigits, dif_pos (by simpa using h)]
    simp
  | succ m ih =>
    intro h
    rw [Lib.decDigits]
    split
    · simp
    · have := ih (u / 10) (by rw [Nat.pow_succ] at h; omega)
      simp; omega
theorem mDec_step (m : Nat) (h : ¬ m < 10) (out : ByteArray) : (⟨(Lib.decDigits m).toArray⟩ : ByteArray) ++ out = ⟨(Lib.decDigits (m / 10)).toArray⟩ ++ (⟨#[mDig m]⟩ ++ out) := by
  rw [Lib.decDigits, dif_neg h]
  apply ByteArray.ext
  simp [mDig]
theorem mDec_last (m : Nat) (h : m < 10) : (⟨(Lib.decDigits m).toArray⟩ : ByteArray) = ⟨#[mDig m]⟩ := by
  rw [Lib.decDigits, dif_pos h, mDig, Nat.mod_eq_of_lt h]
/-- what is still to be written, ahead of what is written -/
def MarkLeft (N m : Nat) (out : ByteArray) : Prop := if m = 0 then out = ⟨(Lib.decDigits N).toArray⟩ else (⟨(Lib.decDigits m).toArray⟩ : ByteArray) ++ out = ⟨(Lib.decDigits N).toArray⟩
theorem MarkLeft.step {N m : Nat} {out : ByteArray} (h : MarkLeft N m out) (hm : m ≠ 0) : MarkLeft N (m / 10) (⟨#[mDig m]⟩ ++ out) := by
  unfold MarkLeft at h ⊢
  rw [if_neg hm] at h
  by_cases h10 : m < 10
  · rw [if_pos (by omega), ← h, mDec_last m h10]
  · rw [if_neg (by omega), ← mDec_step m h10]; exact h
theorem MarkLeft.size {N m : Nat} {out : ByteArray} (h : MarkLeft N m out) (hN : N ≤ 999999999999999999) : out.size ≤ 18 := by
  have hl := mDec_len N 17 (by omega)
  have sl : ∀ l : List UInt8, (⟨l.toArray⟩ : ByteArray).size = l.length := fun l => by simp [ByteArray.size]
  unfold MarkLeft at h
  split at h
  · rw [h, sl]; omega
  · have := congrArg ByteArray.size h
    have e1 := sl (Lib.decDigits N)
    rw [show ∀ a b : ByteArray, (a ++ b).size = a.size + b.size from fun a b => by simp] at this
    omega
/-- the mark of a number -/
def mText (k : Int) : ByteArray := ⟨#[109]⟩ ++ ⟨(Lib.decDigits k.toNat).toArray⟩
theorem mText_zero (k : Int) (h : k ≤ 0) : mText k = ⟨#[109, 48]⟩ := by
  have : k.toNat = 0 := by omega
  unfold mText
  rw [this, mDec_last 0 (by omega)]
  rfl

set_option maxRecDepth 20000 in
set_option maxHeartbeats 1600000 in
theorem markText_any (n : Int) (h1 : n ≤ 999999999999999999) (w : World) : Calls Tryd.prog 14 #[.int .i64 n] w fun e w' => e = .returned (.string (mText n)) ∧ Below w.heap.size w w' := by
  by_cases h0 : n ≤ 0
  · rw [mText_zero n h0]
    go_enter Tryd.func14, Tryd.ntmps14
    go_wp2
    go_ret
    exact ⟨rfl, Below.refl _ _⟩
  · obtain ⟨N, rfl⟩ := Int.eq_ofNat_of_zero_le (show 0 ≤ n by omega)
    have hN : N ≤ 999999999999999999 := by omega
    have hz : N ≠ 0 := by omega
    clear h1
    go_enter Tryd.func14, Tryd.ntmps14
    go_wp2_with fail
    go_loopw [0, 3] (fun nv ov wr => ∃ (m : Nat) (out : ByteArray), m ≤ N ∧ nv = .int .i64 m ∧ ov = .string out ∧ Hid (MarkLeft N m out) ∧ Below w.heap.size w wr) (fun nv _ _ => (intOf nv).toNat)
    case atStart => exact ⟨N, _, Nat.le_refl _, rfl, rfl, hide (by unfold MarkLeft; rw [if_neg hz]; apply ByteArray.ext; simp), Below.refl _ _⟩
    case round =>
      obtain ⟨m, out, hmN, rfl, rfl, hL, hbel⟩ := hrel
      by_cases hm : m = 0
      · subst hm
        have hout := hide (show (⟨#[109]⟩ : ByteArray) ++ out = mText (N : Int) by have := unhide hL; unfold MarkLeft at this; rw [if_pos rfl] at this; rw [this]; rfl)
        have hos : (out.size : Int) ≤ 18 := by have := (unhide hL).size hN; omega
        go_wp2_with fail
        go_ret
        exact ⟨by rw [← unhide hout]; rfl, hbel⟩
      · have hm' : ¬ (m : Int) ≤ 0 := by omega
        have ht : Int.tmod (m : Int) 10 = ((m % 10 : Nat) : Int) := by rw [Int.tmod_eq_emod_of_nonneg (by omega)]; omega
        have hq : Int.tdiv (m : Int) 10 = ((m / 10 : Nat) : Int) := by rw [Int.tdiv_eq_ediv_of_nonneg (by omega)]; omega
        have hd : ¬ ((m % 10 : Nat) : Int) < 0 := by omega
        have HS := hide ((unhide hL).step hm)
        have hos := (unhide hL).size hN
        have hos' : (out.size : Int) ≤ 18 := by omega
        have hcv : (convert 61 9 (.slice (some ⟨wr.heap.size, 0, none⟩) 1 1)).run Tryd.prog (wr.alloc (.cells #[.int .u8 (48 + (m : Int) % 10)] 5)) = .ok (.string (strOfNums [48 + (m : Int) % 10])) (wr.alloc (.cells #[.int .u8 (48 + (m : Int) % 10)] 5)) :=
          run_convert_bytes_arg _ 61 5 Tryd.underlying61 Tryd.underlying5 wr.heap.size 0 1 1 [48 + (m : Int) % 10] rfl (fun i hi => by
            obtain rfl : i = 0 := by omega
            exact World.cell?_alloc_at _ _ _ _ rfl) 9 Tryd.underlying9
        have hstr : strOfNums [48 + (m : Int) % 10] = ⟨#[mDig m]⟩ := by
          have e : (48 + (m : Int) % 10).toNat = 48 + m % 10 := by omega
          simp [strOfNums, e, mDig]
        rw [hstr] at hcv
        have hb' := hbel.alloc hbel.size (.cells #[.int .u8 (48 + (m : Int) % 10)] 5)
        clear hstr
        go_wp2_with fail
        go_roundw
        case rel => exact ⟨m / 10, _, by omega, by go_num, rfl, HS, hb'⟩
        case measure => simp [intOf]; omega

end Go.Proofs.YtpekcpjlappkgaaDoor
