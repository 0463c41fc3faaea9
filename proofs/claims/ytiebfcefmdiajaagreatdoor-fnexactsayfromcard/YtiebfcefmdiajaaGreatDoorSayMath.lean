/-
  Words between nodes as values: which may be.
-/
import Derived.Test.YtiebfcefmdiajaaGreatDoorVerOwns
import Derived.Test.YtiebfcefmdiajaaGreatDoorPlain
import Derived.Test.YtiebfcefmdiajaaGreatDoorLess
set_option linter.unusedVariables false
namespace Go.Proofs.YtiebfcefmdiajaaGreatDoor
open Go.RowKit Go.Maps Go.Deep

def verB (x : VerV) : Bool := plainB x.a0 && decide (1 ≤ x.a1) && decide (x.a1 ≤ 1099511627776)
/-- the first k are versions, and each stands behind the one ahead of it -/
def StampTo (ns : List VerV) (k : Nat) : Prop := ∀ i (h : i < ns.length), i < k → verB ns[i] = true ∧ (0 < i → lessS (ns[i - 1]'(by omega)).a0 ns[i].a0 = true)
instance (ns : List VerV) (k : Nat) : Decidable (StampTo ns k) := by unfold StampTo; infer_instance
def stampB (ns : List VerV) : Bool := decide (ns.length ≤ 12) && decide (StampTo ns ns.length)
theorem stamp_zero (ns : List VerV) : StampTo ns 0 := fun i h hi => absurd hi (Nat.not_lt_zero _)
theorem stamp_bad {ns : List VerV} {k : Nat} (hk : k < ns.length) (h : verB ns[k] = false) : stampB ns = false := by
  have : ¬ StampTo ns ns.length := fun g => by
    have := (g k hk hk).1
    rw [h] at this
    cases this
  simp [stampB, this]
theorem stamp_down {ns : List VerV} {k : Nat} (hk : k + 1 < ns.length) (h : lessS ns[k].a0 ns[k + 1].a0 = false) : stampB ns = false := by
  have : ¬ StampTo ns ns.length := fun g => by
    have := (g (k + 1) hk hk).2 (by omega)
    simp only [Nat.add_sub_cancel] at this
    rw [h] at this
    cases this
  simp [stampB, this]
theorem stamp_step0 {ns : List VerV} (hk : 0 < ns.length) (h : verB ns[0] = true) : StampTo ns 1 := by
  intro i hi hik
  obtain rfl : i = 0 := by omega
  exact ⟨h, fun h => absurd h (Nat.lt_irrefl _)⟩
theorem stamp_step {ns : List VerV} {k : Nat} (hk : k + 1 < ns.length) (hg : StampTo ns (k + 1)) (h : verB ns[k + 1] = true) (hl : lessS ns[k].a0 ns[k + 1].a0 = true) : StampTo ns (k + 2) := by
  intro i hi hik
  by_cases e : i = k + 1
  · subst e
    refine ⟨h, fun _ => ?_⟩
    simpa using hl
  · exact hg i hi (by omega)
theorem stamp_good {ns : List VerV} (h12 : ns.length ≤ 12) (h : StampTo ns ns.length) : stampB ns = true := by simp [stampB, h12, h]
theorem stamp_long {ns : List VerV} (h12 : ¬ ns.length ≤ 12) : stampB ns = false := by simp [stampB, h12]
/-- what a version's test comes to -/
theorem ver_cases (x : VerV) : (verB x = true ∧ plainB x.a0 = true ∧ ¬ x.a1 < 1 ∧ ¬ 1099511627776 < x.a1) ∨ (verB x = false ∧ (plainB x.a0 = false ∨ (plainB x.a0 = true ∧ x.a1 < 1) ∨ (plainB x.a0 = true ∧ ¬ x.a1 < 1 ∧ 1099511627776 < x.a1))) := by
  unfold verB
  cases plainB x.a0
  · right; simp
  · by_cases h1 : x.a1 < 1
    · right; simp; omega
    · by_cases h2 : 1099511627776 < x.a1
      · right; simp; omega
      · left; simp; omega
structure SayV where
  kind : Int
  src : Int
  dst : Int
  name : ByteArray
  val : Int
  stamp : List VerV
def nodeB (n : Int) : Bool := decide (0 ≤ n) && decide (n ≤ 9)
def tailB (s : SayV) : Bool := if s.kind = 2 then decide (1 ≤ s.stamp.length) && stampB s.stamp else if s.kind = 1 ∨ s.kind = 3 then decide (s.val = 0) && decide (s.stamp.length = 0) else false
def sayOkB (s : SayV) : Bool := decide (s.src ≠ s.dst) && nodeB s.src && nodeB s.dst && plainB s.name && tailB s
end Go.Proofs.YtiebfcefmdiajaaGreatDoor
