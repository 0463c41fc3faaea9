/-
  Texts in order, byte by byte.
-/
/-
  Stamps as values: which may be.
-/
/-
  Two stamps side by side: a pair of marks for each source that one of both has.
-/
import Derived.Test.YtnijccmhajjdoaaMerged1
import Derived.Laws.Cover1
import Derived.Test.YtnijccmhajjdoaaMarkRows
import Derived.Test.YtnijccmhajjdoaaPlain
set_option linter.unusedVariables false
namespace Go.Proofs.Ytnijccmhajjdoaa
open Go.RowKit

def lessS (a b : ByteArray) : Bool := Op.bytesLess a.toList b.toList
theorem less_other (x y : List UInt8) : (Op.bytesLess x y || x == y) = !Op.bytesLess y x := by
  induction x generalizing y with
  | nil => cases y <;> simp [Op.bytesLess]
  | cons a x ih =>
    cases y with
    | nil => simp [Op.bytesLess]
    | cons b y =>
      simp only [Op.bytesLess, List.cons_beq_cons]
      have := ih y
      by_cases h1 : a < b
      · have h2 : ¬ b < a := by simp only [UInt8.lt_iff_toNat_lt] at *; omega
        have h3 : (b == a) = false := by rw [beq_eq_false_iff_ne]; intro e; subst e; exact h2 h1
        simp [h1, h2, h3]
      · by_cases h2 : b < a
        · have h3 : (a == b) = false := by rw [beq_eq_false_iff_ne]; intro e; subst e; exact h1 h2
          simp [h1, h2, h3]
        · have h3 : a = b := by
            rw [← UInt8.toNat_inj]
            simp only [UInt8.lt_iff_toNat_lt] at *
            omega
          subst h3
          simp [h1]
          exact this
theorem geq_leq (a b : ByteArray) : (Op.bytesLess a.toList b.toList || a.toList == b.toList) = !lessS b a := less_other _ _
theorem str_same (a b : ByteArray) : (a.toList == b.toList) = decide (a = b) := by
  rw [ByteArray.toList_eq, ByteArray.toList_eq, Bool.eq_iff_iff]
  simp
  constructor
  · intro h; cases a; cases b; simp_all
  · rintro rfl; rfl
end Go.Proofs.Ytnijccmhajjdoaa

set_option linter.unusedVariables false
namespace Go.Proofs.Ytnijccmhajjdoaa
open Go.RowKit Go.Maps Go.Deep

def markB (x : MarkV) : Bool := plainB x.a0 && decide (1 ≤ x.a1) && decide (x.a1 ≤ 1099511627776)
/-- the first k are versions, and each stands behind the one ahead of it -/
def MStampTo (ns : List MarkV) (k : Nat) : Prop := ∀ i (h : i < ns.length), i < k → markB ns[i] = true ∧ (0 < i → lessS (ns[i - 1]'(by omega)).a0 ns[i].a0 = true)
instance (ns : List MarkV) (k : Nat) : Decidable (MStampTo ns k) := by unfold MStampTo; infer_instance
def mstampB (ns : List MarkV) : Bool := decide (ns.length ≤ 12) && decide (MStampTo ns ns.length)
theorem mstamp_zero (ns : List MarkV) : MStampTo ns 0 := fun i h hi => absurd hi (Nat.not_lt_zero _)
theorem mstamp_bad {ns : List MarkV} {k : Nat} (hk : k < ns.length) (h : markB ns[k] = false) : mstampB ns = false := by
  have : ¬ MStampTo ns ns.length := fun g => by
    have := (g k hk hk).1
    rw [h] at this
    cases this
  simp [mstampB, this]
theorem mstamp_down {ns : List MarkV} {k : Nat} (hk : k + 1 < ns.length) (h : lessS ns[k].a0 ns[k + 1].a0 = false) : mstampB ns = false := by
  have : ¬ MStampTo ns ns.length := fun g => by
    have := (g (k + 1) hk hk).2 (by omega)
    simp only [Nat.add_sub_cancel] at this
    rw [h] at this
    cases this
  simp [mstampB, this]
theorem mstamp_step0 {ns : List MarkV} (hk : 0 < ns.length) (h : markB ns[0] = true) : MStampTo ns 1 := by
  intro i hi hik
  obtain rfl : i = 0 := by omega
  exact ⟨h, fun h => absurd h (Nat.lt_irrefl _)⟩
theorem mstamp_step {ns : List MarkV} {k : Nat} (hk : k + 1 < ns.length) (hg : MStampTo ns (k + 1)) (h : markB ns[k + 1] = true) (hl : lessS ns[k].a0 ns[k + 1].a0 = true) : MStampTo ns (k + 2) := by
  intro i hi hik
  by_cases e : i = k + 1
  · subst e
    refine ⟨h, fun _ => ?_⟩
    simpa using hl
  · exact hg i hi (by omega)
theorem mstamp_good {ns : List MarkV} (h12 : ns.length ≤ 12) (h : MStampTo ns ns.length) : mstampB ns = true := by simp [mstampB, h12, h]
theorem mstamp_long {ns : List MarkV} (h12 : ¬ ns.length ≤ 12) : mstampB ns = false := by simp [mstampB, h12]
/-- what a version's test comes to -/
theorem mark_cases (x : MarkV) : (markB x = true ∧ plainB x.a0 = true ∧ ¬ x.a1 < 1 ∧ ¬ 1099511627776 < x.a1) ∨ (markB x = false ∧ (plainB x.a0 = false ∨ (plainB x.a0 = true ∧ x.a1 < 1) ∨ (plainB x.a0 = true ∧ ¬ x.a1 < 1 ∧ 1099511627776 < x.a1))) := by
  unfold markB
  cases plainB x.a0
  · right; simp
  · by_cases h1 : x.a1 < 1
    · right; simp; omega
    · by_cases h2 : 1099511627776 < x.a1
      · right; simp; omega
      · left; simp; omega
end Go.Proofs.Ytnijccmhajjdoaa

set_option linter.unusedVariables false
namespace Go.Proofs.Ytnijccmhajjdoaa
open Go.RowKit Go.Maps Go.Deep

/-- the marks of both for each source, the version 0 where one has none -/
def sideL : List MarkV → List MarkV → List (MarkV × MarkV)
  | [], [] => []
  | x :: xs, [] => (x, ⟨x.a0, 0⟩) :: sideL xs []
  | [], y :: ys => (⟨y.a0, 0⟩, y) :: sideL [] ys
  | x :: xs, y :: ys =>
    if lessS x.a0 y.a0 then (x, ⟨x.a0, 0⟩) :: sideL xs (y :: ys)
    else if lessS y.a0 x.a0 then (⟨y.a0, 0⟩, y) :: sideL (x :: xs) ys
    else (x, y) :: sideL xs ys
termination_by xs ys => xs.length + ys.length
theorem sideL_len (xa xb : List MarkV) : (sideL xa xb).length ≤ xa.length + xb.length := by
  fun_induction sideL xa xb <;> simp_all <;> omega
/-- what has come, where so many of both are through -/
def SideTo (xa xb : List MarkV) (i j : Nat) (pre : List (MarkV × MarkV)) : Prop := pre ++ sideL (xa.drop i) (xb.drop j) = sideL xa xb
theorem side_start (xa xb : List MarkV) : SideTo xa xb 0 0 [] := by simp [SideTo]
theorem side_end {xa xb : List MarkV} {pre : List (MarkV × MarkV)} (h : SideTo xa xb xa.length xb.length pre) : pre = sideL xa xb := by
  unfold SideTo at h
  simpa [sideL] using h
theorem side_pre {xa xb : List MarkV} {i j : Nat} {pre : List (MarkV × MarkV)} (h : SideTo xa xb i j pre) : pre <+: sideL xa xb := ⟨_, h⟩
theorem side_lt {xa xb : List MarkV} {pre : List (MarkV × MarkV)} {x : MarkV × MarkV} {i' j' : Nat} (h : SideTo xa xb i' j' (pre ++ [x])) : pre.length < xa.length + xb.length := by
  have h1 := congrArg List.length h
  have h2 := sideL_len xa xb
  simp at h1
  omega
theorem side_has {xa xb : List MarkV} {pre : List (MarkV × MarkV)} {x : MarkV × MarkV} {i j : Nat} (h : SideTo xa xb i j (pre ++ [x])) : x ∈ sideL xa xb := by
  unfold SideTo at h
  rw [← h]
  simp
theorem side_a {xa xb : List MarkV} {i : Nat} {pre : List (MarkV × MarkV)} (h : SideTo xa xb i xb.length pre) (hi : i < xa.length) : SideTo xa xb (i + 1) xb.length (pre ++ [(xa[i], ⟨xa[i].a0, 0⟩)]) := by
  unfold SideTo at *
  rw [List.drop_eq_getElem_cons hi] at h
  simp only [List.drop_length, sideL] at h ⊢
  simpa using h
theorem side_b {xa xb : List MarkV} {j : Nat} {pre : List (MarkV × MarkV)} (h : SideTo xa xb xa.length j pre) (hj : j < xb.length) : SideTo xa xb xa.length (j + 1) (pre ++ [(⟨xb[j].a0, 0⟩, xb[j])]) := by
  unfold SideTo at *
  rw [List.drop_eq_getElem_cons hj] at h
  simp only [List.drop_length, sideL] at h ⊢
  simpa using h
theorem side_lo {xa xb : List MarkV} {i j : Nat} {pre : List (MarkV × MarkV)} (h : SideTo xa xb i j pre) (hi : i < xa.length) (hj : j < xb.length) (hl : lessS xa[i].a0 xb[j].a0 = true) : SideTo xa xb (i + 1) j (pre ++ [(xa[i], ⟨xa[i].a0, 0⟩)]) := by
  unfold SideTo at *
  rw [List.drop_eq_getElem_cons hi, List.drop_eq_getElem_cons hj, sideL, if_pos hl] at h
  rw [List.drop_eq_getElem_cons hj]
  simpa using h
theorem side_hi {xa xb : List MarkV} {i j : Nat} {pre : List (MarkV × MarkV)} (h : SideTo xa xb i j pre) (hi : i < xa.length) (hj : j < xb.length) (hl : lessS xa[i].a0 xb[j].a0 = false) (hr : lessS xb[j].a0 xa[i].a0 = true) : SideTo xa xb i (j + 1) (pre ++ [(⟨xb[j].a0, 0⟩, xb[j])]) := by
  unfold SideTo at *
  rw [List.drop_eq_getElem_cons hi, List.drop_eq_getElem_cons hj, sideL, if_neg (by simp [hl]), if_pos hr] at h
  rw [List.drop_eq_getElem_cons hi]
  simpa using h
theorem side_eq {xa xb : List MarkV} {i j : Nat} {pre : List (MarkV × MarkV)} (h : SideTo xa xb i j pre) (hi : i < xa.length) (hj : j < xb.length) (hl : lessS xa[i].a0 xb[j].a0 = false) (hr : lessS xb[j].a0 xa[i].a0 = false) : SideTo xa xb (i + 1) (j + 1) (pre ++ [(xa[i], xb[j])]) := by
  unfold SideTo at *
  rw [List.drop_eq_getElem_cons hi, List.drop_eq_getElem_cons hj, sideL, if_neg (by simp [hl]), if_neg (by simp [hr])] at h
  simpa using h
end Go.Proofs.Ytnijccmhajjdoaa
