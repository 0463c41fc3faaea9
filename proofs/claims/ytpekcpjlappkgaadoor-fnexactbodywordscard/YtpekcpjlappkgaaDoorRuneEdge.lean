/-
  A rune of a text is an edge just where the byte is.
-/
import Derived.Test.YtpekcpjlappkgaaDoorBase
import Derived.Laws.RangeString
import Derived.Laws.RangeAny
import Derived.Lib.OthersKept
set_option linter.unusedVariables false
namespace Go.Proofs.YtpekcpjlappkgaaDoor
open Go.RowKit Go.Maps Go.Lib

theorem getB (s : ByteArray) (k : Nat) (h : k < s.size) : s.get! k = s[k] := get_at s k h
theorem decode_cont (s : ByteArray) (pos : Nat) : ∀ k, 1 ≤ k → k < (Utf8.decode s pos).2 → pos + k < s.size ∧ 128 ≤ (s.get! (pos + k)).toNat := by
  intro k h1 h2
  unfold Utf8.decode at h2
  simp only at h2
  split at h2
  · simp at h2; omega
  split at h2
  · rename_i hc
    simp only [Bool.and_eq_true, decide_eq_true_eq, beq_iff_eq] at hc
    split at h2
    · simp only at h2
      obtain rfl : k = 1 := by omega
      exact ⟨hc.2.1, by omega⟩
    · simp at h2; omega
  split at h2
  · rename_i hc
    simp only [Bool.and_eq_true, decide_eq_true_eq, beq_iff_eq] at hc
    split at h2
    · simp only at h2
      rcases (show k = 1 ∨ k = 2 by omega) with rfl | rfl
      · exact ⟨hc.1.2.1, by omega⟩
      · exact ⟨hc.2.1, by omega⟩
    · simp at h2; omega
  split at h2
  · rename_i hc
    simp only [Bool.and_eq_true, decide_eq_true_eq, beq_iff_eq] at hc
    split at h2
    · simp only at h2
      rcases (show k = 1 ∨ k = 2 ∨ k = 3 by omega) with rfl | rfl | rfl
      · exact ⟨hc.1.1.2.1, by omega⟩
      · exact ⟨hc.1.2.1, by omega⟩
      · exact ⟨hc.2.1, by omega⟩
    · simp at h2; omega
  · simp at h2; omega
/-- a rune is the edge just where the byte is; no byte within another rune is -/
theorem rune_edge (s : ByteArray) (pos : Nat) (hp : pos < s.size) (c : UInt8) (hc : c.toNat < 128) :
    ((Utf8.decode s pos).1 = c.toNat ↔ s[pos] = c) ∧ 1 ≤ (Utf8.decode s pos).2 ∧ pos + (Utf8.decode s pos).2 ≤ s.size ∧ (s[pos] = c → (Utf8.decode s pos).2 = 1) ∧ ∀ j (hj : j < s.size), pos < j → j < pos + (Utf8.decode s pos).2 → s[j] ≠ c := by
  have hcont := decode_cont s pos
  have hin : ∀ j (hj : j < s.size), pos < j → j < pos + (Utf8.decode s pos).2 → s[j] ≠ c := fun j hj h1 h2 e => by
    obtain ⟨h3, h4⟩ := hcont (j - pos) (by omega) (by omega)
    rw [show pos + (j - pos) = j by omega, getB s j hj, e] at h4
    omega
  have hle : 1 ≤ (Utf8.decode s pos).2 → pos + (Utf8.decode s pos).2 ≤ s.size := fun h1 => by
    by_cases h2 : (Utf8.decode s pos).2 = 1
    · omega
    · have := (hcont ((Utf8.decode s pos).2 - 1) (by omega) (by omega)).1
      omega
  by_cases hh : s[pos].toNat < 128
  · have e := decode_ascii s pos hp hh
    rw [e] at hin hle ⊢
    refine ⟨⟨fun h => UInt8.toNat_inj.1 h, fun h => by rw [h]⟩, Nat.le_refl _, hle (Nat.le_refl _), fun _ => rfl, hin⟩
  · obtain ⟨h1, h2⟩ := decode_high s pos hp (by omega)
    refine ⟨⟨fun h => by omega, fun h => by rw [h] at hh; omega⟩, h2, hle h2, fun h => by rw [h] at hh; omega, hin⟩
end Go.Proofs.YtpekcpjlappkgaaDoor
