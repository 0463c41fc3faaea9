/-
  Stamps as values: which may be.
-/
import Derived.Test.YtiebfcefmdiajaaGreatDoorMarkRows
import Derived.Test.YtiebfcefmdiajaaGreatDoorPlain
import Derived.Test.YtiebfcefmdiajaaGreatDoorLess
set_option linter.unusedVariables false
namespace Go.Proofs.YtiebfcefmdiajaaGreatDoor
open Go.RowKit Go.Maps Go.Deep

def markB (x : MarkV) : Bool := plainB x.a0 && decide (1 ≤ x.a1) && decide (x.a1 ≤ 1099511627776)
/-- the first k are versions, and each stands behind the one ahead of it -/
def MStampTo (ns : List MarkV) (k : Nat) : Prop := ∀ i (h : i < ns.length), i < k → markB ns[i] = true ∧ (0 < i → lessS (ns[i - 1]'(by omega)).a0 ns[i].a0 = true)
instance (ns : List MarkV) (k : Nat) : Decidable (MStampTo ns k) := by unfold MStampTo; infer_instance
def mstampB (ns : List MarkV) : Bool := decide (ns.length ≤ 12) && decide (MStampTo ns ns.length)
theorem mstamp_zero (ns : List MarkV) : MStampTo ns 0 := fun i h hi => absurd hi (Nat.not_lt_zero _)
theorem mstamp_bad {ns : List MarkV} {k : Nat} (hk : k < ns.length) (h : markB ns[k] = false) : mstampB ns = false := by
  have : ¬ MStampTo ns ns.length := fun g => by
    have := (g k hk hk).1
    rw [h] at this
    cases this
  simp [mstampB, this]
theorem mstamp_down {ns : List MarkV} {k : Nat} (hk : k + 1 < ns.length) (h : lessS ns[k].a0 ns[k + 1].a0 = false) : mstampB ns = false := by
  have : ¬ MStampTo ns ns.length := fun g => by
    have := (g (k + 1) hk hk).2 (by omega)
    simp only [Nat.add_sub_cancel] at this
    rw [h] at this
    cases this
  simp [mstampB, this]
theorem mstamp_step0 {ns : List MarkV} (hk : 0 < ns.length) (h : markB ns[0] = true) : MStampTo ns 1 := by
  intro i hi hik
  obtain rfl : i = 0 := by omega
  exact ⟨h, fun h => absurd h (Nat.lt_irrefl _)⟩
theorem mstamp_step {ns : List MarkV} {k : Nat} (hk : k + 1 < ns.length) (hg : MStampTo ns (k + 1)) (h : markB ns[k + 1] = true) (hl : lessS ns[k].a0 ns[k + 1].a0 = true) : MStampTo ns (k + 2) := by
  intro i hi hik
  by_cases e : i = k + 1
  · subst e
    refine ⟨h, fun _ => ?_⟩
    simpa using hl
  · exact hg i hi (by omega)
theorem mstamp_good {ns : List MarkV} (h12 : ns.length ≤ 12) (h : MStampTo ns ns.length) : mstampB ns = true := by simp [mstampB, h12, h]
theorem mstamp_long {ns : List MarkV} (h12 : ¬ ns.length ≤ 12) : mstampB ns = false := by simp [mstampB, h12]
/-- what a version's test comes to -/
theorem mark_cases (x : MarkV) : (markB x = true ∧ plainB x.a0 = true ∧ ¬ x.a1 < 1 ∧ ¬ 1099511627776 < x.a1) ∨ (markB x = false ∧ (plainB x.a0 = false ∨ (plainB x.a0 = true ∧ x.a1 < 1) ∨ (plainB x.a0 = true ∧ ¬ x.a1 < 1 ∧ 1099511627776 < x.a1))) := by
  unfold markB
  cases plainB x.a0
  · right; simp
  · by_cases h1 : x.a1 < 1
    · right; simp; omega
    · by_cases h2 : 1099511627776 < x.a1
      · right; simp; omega
      · left; simp; omega
end Go.Proofs.YtiebfcefmdiajaaGreatDoor
