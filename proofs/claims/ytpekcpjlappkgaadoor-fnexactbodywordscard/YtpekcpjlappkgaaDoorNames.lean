/-
  The two sides of BodyNameOk: the program goes through the runes of a text, the specification through its bytes; both answer 'nameB' at every string.
-/
import Derived.Test.YtpekcpjlappkgaaDoorKeys
import Derived.Laws.RangeString
import Derived.Laws.RangeAny
namespace Go.Proofs.YtpekcpjlappkgaaDoor
open Go.RowKit Go.Maps

def letB (r : Int) : Bool := decide (97 ≤ r) && decide (r ≤ 122)
def digB (r : Int) : Bool := decide (48 ≤ r) && decide (r ≤ 57)
def byteAt (s : ByteArray) (i : Nat) : Int := (s.data.getD i 0).toNat
/-- every byte ahead of a place is a letter, or a digit that is not the first -/
def goodTo (s : ByteArray) (n : Nat) : Prop := ∀ i, i < n → letB (byteAt s i) = true ∨ (i ≠ 0 ∧ digB (byteAt s i) = true)
def restB (s : ByteArray) : Bool := (List.range s.size).all fun i => letB (byteAt s i) || (decide (i ≠ 0) && digB (byteAt s i))
def nameB (s : ByteArray) : Bool := decide (1 ≤ s.size) && decide (s.size ≤ 8) && restB s && !isKeyB s

theorem rest_iff (s : ByteArray) : restB s = true ↔ goodTo s s.size := by
  unfold restB goodTo
  simp [List.all_eq_true]

theorem byteAt_eq (s : ByteArray) (i : Nat) (h : i < s.size) : byteAt s i = ((s[i]'h).toNat : Int) := by
  unfold byteAt
  have : s.data.getD i 0 = s[i]'h := by
    have h' : i < s.data.size := h
    rw [Array.getD, dif_pos h']
    rfl
  rw [this]

set_option maxHeartbeats 400000 in
theorem isLetter_any (r : Int) (w : World) : Calls Tryd.prog 30 #[.int .i32 r] w fun e w' => e = .returned (.bool (letB r)) ∧ w' = w := by
  unfold letB
  by_cases h1 : 97 ≤ r <;> by_cases h2 : r ≤ 122
  all_goals
    go_enter Tryd.func30, Tryd.ntmps30
    go_wp2
    go_ret
    exact ⟨by simp [h1, h2], rfl⟩
set_option maxHeartbeats 400000 in
theorem isDigit_any (r : Int) (w : World) : Calls Tryd.prog 29 #[.int .i32 r] w fun e w' => e = .returned (.bool (digB r)) ∧ w' = w := by
  unfold digB
  by_cases h1 : 48 ≤ r <;> by_cases h2 : r ≤ 57
  all_goals
    go_enter Tryd.func29, Tryd.ntmps29
    go_wp2
    go_ret
    exact ⟨by simp [h1, h2], rfl⟩
set_option maxHeartbeats 400000 in
theorem l1Letter_any (r : Int) (w : World) : Calls Tryd.prog 17 #[.int .u8 r] w fun e w' => e = .returned (.bool (letB r)) ∧ w' = w := by
  unfold letB
  by_cases h1 : 97 ≤ r <;> by_cases h2 : r ≤ 122
  all_goals
    go_enter Tryd.func17, Tryd.ntmps17
    go_wp2
    go_ret
    exact ⟨by simp [h1, h2], rfl⟩
set_option maxHeartbeats 400000 in
theorem l1Digit_any (r : Int) (w : World) : Calls Tryd.prog 15 #[.int .u8 r] w fun e w' => e = .returned (.bool (digB r)) ∧ w' = w := by
  unfold digB
  by_cases h1 : 48 ≤ r <;> by_cases h2 : r ≤ 57
  all_goals
    go_enter Tryd.func15, Tryd.ntmps15
    go_wp2
    go_ret
    exact ⟨by simp [h1, h2], rfl⟩

theorem name_short (s : ByteArray) (h : ¬ (1 : Int) ≤ (s.size : Int)) : nameB s = false := by
  have : ¬ 1 ≤ s.size := by omega
  simp [nameB, this]
theorem name_long (s : ByteArray) (h : ¬ (s.size : Int) ≤ 8) : nameB s = false := by
  have : ¬ s.size ≤ 8 := by omega
  simp [nameB, this]
theorem name_bad (s : ByteArray) (i : Nat) (h : i < s.size) (hl : letB (byteAt s i) = false) (hd : i = 0 ∨ digB (byteAt s i) = false) : nameB s = false := by
  have : restB s = false := by
    cases hr : restB s
    · rfl
    · rw [rest_iff] at hr
      rcases hr i h with e | ⟨e, e2⟩
      · rw [hl] at e; cases e
      · rcases hd with hd | hd
        · exact absurd hd e
        · rw [hd] at e2; cases e2
  simp [nameB, this]
theorem name_good (s : ByteArray) (h1 : (1 : Int) ≤ (s.size : Int)) (h8 : (s.size : Int) ≤ 8) (hg : goodTo s s.size) : nameB s = !isKeyB s := by
  have a1 : 1 ≤ s.size := by omega
  have a8 : s.size ≤ 8 := by omega
  simp [nameB, a1, a8, (rest_iff s).2 hg]
theorem name_key (s : ByteArray) (hk : isKeyB s = true) : nameB s = false := by simp [nameB, hk]
theorem goodTo_succ (s : ByteArray) (k : Nat) (hg : goodTo s k) (h : letB (byteAt s k) = true ∨ (k ≠ 0 ∧ digB (byteAt s k) = true)) : goodTo s (k + 1) := by
  intro i hi
  by_cases e : i = k
  · subst e; exact h
  · exact hg i (by omega)

theorem high_not (s : ByteArray) (k : Nat) (h : k < s.size) (hh : ¬ (s[k]'h).toNat < 128) : letB (byteAt s k) = false ∧ digB (byteAt s k) = false ∧ letB ((Utf8.decode s k).1 : Nat) = false ∧ digB ((Utf8.decode s k).1 : Nat) = false := by
  have hd := (decode_high s k h (by omega)).1
  rw [byteAt_eq s k h]
  unfold letB digB
  have e1 : ¬ (((s[k]'h).toNat : Int) ≤ 122) := by omega
  have e2 : ¬ (((s[k]'h).toNat : Int) ≤ 57) := by omega
  have e3 : ¬ (((Utf8.decode s k).1 : Nat) : Int) ≤ 122 := by omega
  have e4 : ¬ (((Utf8.decode s k).1 : Nat) : Int) ≤ 57 := by omega
  simp [e1, e2, e3, e4]

/-- the rune at a place answers both questions as the byte there does; where one of them is yes it is one byte wide -/
theorem rune_byte (s : ByteArray) (k : Nat) (h : k < s.size) : letB ((Utf8.decode s k).1 : Nat) = letB (byteAt s k) ∧ digB ((Utf8.decode s k).1 : Nat) = digB (byteAt s k) ∧ ((letB (byteAt s k) = true ∨ digB (byteAt s k) = true) → (Utf8.decode s k).2 = 1) := by
  by_cases hh : (s[k]'h).toNat < 128
  · rw [decode_ascii s k h hh, byteAt_eq s k h]
    exact ⟨rfl, rfl, fun _ => rfl⟩
  · obtain ⟨a, b, c, d⟩ := high_not s k h hh
    rw [a, b, c, d]
    exact ⟨rfl, rfl, fun e => by rcases e with e | e <;> cases e⟩

end Go.Proofs.YtpekcpjlappkgaaDoor
