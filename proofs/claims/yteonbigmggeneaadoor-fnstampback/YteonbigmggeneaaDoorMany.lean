/-
  The specification's l1Many: a text so many times.
-/
import Derived.Test.YteonbigmggeneaaDoorBase
import Derived.Handy
set_option linter.unusedVariables false
namespace Go.Proofs.YteonbigmggeneaaDoor
open Go.RowKit Go.Maps

theorem many_step (a b n M : Nat) (h : a + b * n ≤ M) : (n % 2 = 1 → (a + b) + (b + b) * (n / 2) ≤ M) ∧ (n % 2 = 0 → a + (b + b) * (n / 2) ≤ M) ∧ (1 ≤ n → b ≤ M) := by
  have e : b * n = (b + b) * (n / 2) + b * (n % 2) := by
    have hn : n = 2 * (n / 2) + n % 2 := by omega
    calc b * n = b * (2 * (n / 2) + n % 2) := by rw [← hn]
      _ = (b + b) * (n / 2) + b * (n % 2) := by rw [Nat.mul_add, ← Nat.mul_assoc, Nat.mul_comm b 2, Nat.two_mul]
  refine ⟨fun h1 => ?_, fun h0 => ?_, fun h1 => ?_⟩
  · rw [h1, Nat.mul_one] at e; omega
  · rw [h0, Nat.mul_zero] at e; omega
  · have := Nat.mul_le_mul_left b h1
    omega
set_option maxHeartbeats 3200000 in
theorem many_any (s : ByteArray) (n M : Nat) (w : World) (hn : n ≤ 1000000) (hM : s.size * n ≤ M) (hs : s.size ≤ 100) (hM2 : 100 ≤ M) (hM3 : M ≤ 1000000) :
    Calls Tryd.prog 26 #[.string s, .int .i64 (n : Int)] w fun e w' => (∃ t : ByteArray, e = .returned (.string t) ∧ t.size ≤ M) ∧ w' = w := by
  go_enter Tryd.func26, Tryd.ntmps26
  go_wp2_with fail
  go_loopw [0, 1, 5] (fun x i o wr => ∃ (k : Nat) (b a : ByteArray), k ≤ n ∧ x = .string b ∧ i = .int .i64 (k : Int) ∧ o = .string a ∧ Hid (a.size + b.size * k ≤ M ∧ b.size ≤ 2 * M) ∧ wr = w) (fun _ i _ _ => (intOf i).toNat)
  case atStart => exact ⟨n, s, ⟨#[]⟩, Nat.le_refl _, rfl, rfl, rfl, hide ⟨by have e : (⟨#[]⟩ : ByteArray).size = 0 := rfl; rw [e]; omega, by omega⟩, rfl⟩
  case round =>
    obtain ⟨k, b, a, hk, rfl, rfl, rfl, HI, hwr⟩ := hrel
    by_cases h0 : 1 ≤ k
    · obtain ⟨s1, s2, s3⟩ := many_step a.size b.size k M (unhide HI).1
      have hb := s3 h0
      have ha : a.size ≤ M := by have := (unhide HI).1; omega
      have hk2 : (k : Int).tmod 2 = ((k % 2 : Nat) : Int) := by rw [Int.tmod_eq_emod_of_nonneg (by omega)]; omega
      have hd2 : (k : Int).tdiv 2 = ((k / 2 : Nat) : Int) := by rw [Int.tdiv_eq_ediv_of_nonneg (by omega)]; omega
      have l1 : ¬ 9223372036854775807 < b.size + b.size := by omega
      have l2 : ¬ 9223372036854775807 < a.size + b.size := by omega
      by_cases hodd : k % 2 = 1
      · have HI2 := hide (show (a ++ b).size + (b ++ b).size * (k / 2) ≤ M ∧ (b ++ b).size ≤ 2 * M from ⟨by simpa using s1 hodd, by simp; omega⟩)
        rw [hodd] at hk2
        clear s1 s2 s3 HI hodd
        go_wp2_with fail
        exact ⟨⟨k / 2, _, _, by omega, rfl, by rw [Int.natCast_ediv]; rfl, rfl, HI2, trivial⟩, by simp [intOf]; omega⟩
      · have HI2 := hide (show a.size + (b ++ b).size * (k / 2) ≤ M ∧ (b ++ b).size ≤ 2 * M from ⟨by simpa using s2 (by omega), by simp; omega⟩)
        have hk0 : k % 2 = 0 := by omega
        rw [hk0] at hk2
        clear s1 s2 s3 HI hodd hk0
        go_wp2_with fail
        exact ⟨⟨k / 2, _, _, by omega, rfl, by rw [Int.natCast_ediv]; rfl, rfl, HI2, trivial⟩, by simp [intOf]; omega⟩
    · have HA := hide (show a.size ≤ M by have := (unhide HI).1; omega)
      go_wp2_with fail
      go_ret
      exact ⟨⟨_, rfl, unhide HA⟩, rfl⟩
end Go.Proofs.YteonbigmggeneaaDoor
