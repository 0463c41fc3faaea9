/-
  Texts in order, byte by byte.
-/
/-
  Stamps as values: which may be.
-/
/-
  Lists of Mark for reading and of one's own: copied, compared, marked, and found marked again. (Made by wip/mkrows.py.)
-/
import Derived.Test.YtlbhandkpnjgmaaMerged1
import Derived.Laws.Cover1
import Derived.Test.YtlbhandkpnjgmaaMerged7
import Derived.Test.YtlbhandkpnjgmaaPlain
import Derived.Deep.RegionHeld3
set_option linter.unusedVariables false
namespace Go.Proofs.Ytlbhandkpnjgmaa
open Go.RowKit

def lessS (a b : ByteArray) : Bool := Op.bytesLess a.toList b.toList
theorem less_other (x y : List UInt8) : (Op.bytesLess x y || x == y) = !Op.bytesLess y x := by
  induction x generalizing y with
  | nil => cases y <;> simp [Op.bytesLess]
  | cons a x ih =>
    cases y with
    | nil => simp [Op.bytesLess]
    | cons b y =>
      simp only [Op.bytesLess, List.cons_beq_cons]
      have := ih y
      by_cases h1 : a < b
      · have h2 : ¬ b < a := by simp only [UInt8.lt_iff_toNat_lt] at *; omega
        have h3 : (b == a) = false := by rw [beq_eq_false_iff_ne]; intro e; subst e; exact h2 h1
        simp [h1, h2, h3]
      · by_cases h2 : b < a
        · have h3 : (a == b) = false := by rw [beq_eq_false_iff_ne]; intro e; subst e; exact h1 h2
          simp [h1, h2, h3]
        · have h3 : a = b := by
            rw [← UInt8.toNat_inj]
            simp only [UInt8.lt_iff_toNat_lt] at *
            omega
          subst h3
          simp [h1]
          exact this
theorem geq_leq (a b : ByteArray) : (Op.bytesLess a.toList b.toList || a.toList == b.toList) = !lessS b a := less_other _ _
theorem str_same (a b : ByteArray) : (a.toList == b.toList) = decide (a = b) := by
  rw [ByteArray.toList_eq, ByteArray.toList_eq, Bool.eq_iff_iff]
  simp
  constructor
  · intro h; cases a; cases b; simp_all
  · rintro rfl; rfl
end Go.Proofs.Ytlbhandkpnjgmaa

set_option linter.unusedVariables false
namespace Go.Proofs.Ytlbhandkpnjgmaa
open Go.RowKit Go.Maps Go.Deep

def markB (x : MarkV) : Bool := plainB x.a0 && decide (1 ≤ x.a1) && decide (x.a1 ≤ 1099511627776)
/-- the first k are versions, and each stands behind the one ahead of it -/
def MStampTo (ns : List MarkV) (k : Nat) : Prop := ∀ i (h : i < ns.length), i < k → markB ns[i] = true ∧ (0 < i → lessS (ns[i - 1]'(by omega)).a0 ns[i].a0 = true)
instance (ns : List MarkV) (k : Nat) : Decidable (MStampTo ns k) := by unfold MStampTo; infer_instance
def mstampB (ns : List MarkV) : Bool := decide (ns.length ≤ 12) && decide (MStampTo ns ns.length)
theorem mstamp_zero (ns : List MarkV) : MStampTo ns 0 := fun i h hi => absurd hi (Nat.not_lt_zero _)
theorem mstamp_bad {ns : List MarkV} {k : Nat} (hk : k < ns.length) (h : markB ns[k] = false) : mstampB ns = false := by
  have : ¬ MStampTo ns ns.length := fun g => by
    have := (g k hk hk).1
    rw [h] at this
    cases this
  simp [mstampB, this]
theorem mstamp_down {ns : List MarkV} {k : Nat} (hk : k + 1 < ns.length) (h : lessS ns[k].a0 ns[k + 1].a0 = false) : mstampB ns = false := by
  have : ¬ MStampTo ns ns.length := fun g => by
    have := (g (k + 1) hk hk).2 (by omega)
    simp only [Nat.add_sub_cancel] at this
    rw [h] at this
    cases this
  simp [mstampB, this]
theorem mstamp_step0 {ns : List MarkV} (hk : 0 < ns.length) (h : markB ns[0] = true) : MStampTo ns 1 := by
  intro i hi hik
  obtain rfl : i = 0 := by omega
  exact ⟨h, fun h => absurd h (Nat.lt_irrefl _)⟩
theorem mstamp_step {ns : List MarkV} {k : Nat} (hk : k + 1 < ns.length) (hg : MStampTo ns (k + 1)) (h : markB ns[k + 1] = true) (hl : lessS ns[k].a0 ns[k + 1].a0 = true) : MStampTo ns (k + 2) := by
  intro i hi hik
  by_cases e : i = k + 1
  · subst e
    refine ⟨h, fun _ => ?_⟩
    simpa using hl
  · exact hg i hi (by omega)
theorem mstamp_good {ns : List MarkV} (h12 : ns.length ≤ 12) (h : MStampTo ns ns.length) : mstampB ns = true := by simp [mstampB, h12, h]
theorem mstamp_long {ns : List MarkV} (h12 : ¬ ns.length ≤ 12) : mstampB ns = false := by simp [mstampB, h12]
/-- what a version's test comes to -/
theorem mark_cases (x : MarkV) : (markB x = true ∧ plainB x.a0 = true ∧ ¬ x.a1 < 1 ∧ ¬ 1099511627776 < x.a1) ∨ (markB x = false ∧ (plainB x.a0 = false ∨ (plainB x.a0 = true ∧ x.a1 < 1) ∨ (plainB x.a0 = true ∧ ¬ x.a1 < 1 ∧ 1099511627776 < x.a1))) := by
  unfold markB
  cases plainB x.a0
  · right; simp
  · by_cases h1 : x.a1 < 1
    · right; simp; omega
    · by_cases h2 : 1099511627776 < x.a1
      · right; simp; omega
      · left; simp; omega
end Go.Proofs.Ytlbhandkpnjgmaa

set_option linter.unusedVariables false
namespace Go.Proofs.Ytlbhandkpnjgmaa
open Go.RowKit Go.Maps Go.Deep

def MarkSRd (w : World) (v : Value) (ns : List MarkV) : Prop := ∃ a c, v = .slice a ns.length c ∧ MarkIn w a ns
def MarkSOwn (S : List Nat) (w : World) (v : Value) (ns : List MarkV) : Prop :=
  (S = [] ∧ ns = [] ∧ ∃ a c, v = .slice a 0 c) ∨ ∃ b off cap, S = [b] ∧ v = .slice (some ⟨b, off, none⟩) ns.length cap ∧ b < w.heap.size ∧ MarkAt w b off ns ∧ ∀ i, i < ns.length * 2 → w.frozen? ⟨b, off + i, none⟩ = false
theorem MarkAt.turn {w w' : World} {S : List Nat} {b off : Nat} {ns : List MarkV} (h : MarkAt w b off ns) (ht : Turn S w w') (hb : b < w.heap.size) (hS : b ∉ S) : MarkAt w' b off ns := by
  intro i hi
  obtain ⟨c0, c1⟩ := h i hi
  exact ⟨(ht.cell hb hS).trans c0, (ht.cell hb hS).trans c1⟩
theorem MarkSRd.up {w w' : World} {v : Value} {ns : List MarkV} (h : MarkSRd w v ns) (hb : Below w.heap.size w w') : MarkSRd w' v ns := by
  obtain ⟨a, c, e, h⟩ := h
  exact ⟨a, c, e, h.below hb⟩
theorem MarkSRd.len {w : World} {v : Value} {ns : List MarkV} (h : MarkSRd w v ns) : ∃ a c, v = .slice a ns.length c := by
  obtain ⟨a, c, e, _⟩ := h
  exact ⟨a, c, e⟩
theorem MarkSRd.form {w : World} {v : Value} {ns : List MarkV} (h : MarkSRd w v ns) : ∃ a n c, v = .slice a n c := by
  obtain ⟨a, c, e⟩ := h.len
  exact ⟨a, _, c, e⟩
theorem MarkSOwn.rd {S : List Nat} {w : World} {v : Value} {ns : List MarkV} (h : MarkSOwn S w v ns) : MarkSRd w v ns := by
  rcases h with ⟨_, rfl, a, c, rfl⟩ | ⟨b, off, cap, _, rfl, hb, hc, _⟩
  · exact ⟨a, c, rfl, .inl rfl⟩
  · exact ⟨_, cap, rfl, .inr ⟨b, off, rfl, hb, hc⟩⟩
theorem MarkSOwn.turn {S S' : List Nat} {w w' : World} {v : Value} {ns : List MarkV} (h : MarkSOwn S w v ns) (ht : Turn S' w w') (hS : ∀ k ∈ S, k ∉ S') : MarkSOwn S w' v ns := by
  rcases h with h | ⟨b, off, cap, rfl, rfl, hb, hc, hf⟩
  · exact .inl h
  · have hn := hS b (by simp)
    exact .inr ⟨b, off, cap, rfl, rfl, Nat.lt_of_lt_of_le hb ht.size, hc.turn ht hb hn, fun i hi => (ht.frozen hb hn).trans (hf i hi)⟩
theorem MarkSOwn.up {S : List Nat} {w w' : World} {v : Value} {ns : List MarkV} (h : MarkSOwn S w v ns) (hb : Below w.heap.size w w') : MarkSOwn S w' v ns := h.turn (Turn.of_below (S := []) hb) (by simp)
theorem MarkSOwn.lt {S : List Nat} {w : World} {v : Value} {ns : List MarkV} (h : MarkSOwn S w v ns) : ∀ k ∈ S, k < w.heap.size := by
  rcases h with ⟨rfl, _⟩ | ⟨b, off, cap, rfl, rfl, hb, _⟩
  · simp
  · simpa using hb
def SmallMarkS (ns : List MarkV) : Prop := MarkSmall ns ∧ MarkOk ns
def MarkSFit (ns : List MarkV) : Prop := ns.length ≤ maxLen ∧ MarkOk ns
def nMarkS (ns : List MarkV) : Nat := 2 * ns.length
theorem nMarkS_le {ns : List MarkV} (h : SmallMarkS ns) : nMarkS ns ≤ 100000000 := by have := h.1.1; unfold nMarkS; omega
end Go.Proofs.Ytlbhandkpnjgmaa
