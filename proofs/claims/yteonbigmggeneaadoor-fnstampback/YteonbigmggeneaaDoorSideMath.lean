/-
  Two stamps side by side: a pair of marks for each source that one of both has.
-/
import Derived.Test.YteonbigmggeneaaDoorStampMath
set_option linter.unusedVariables false
namespace Go.Proofs.YteonbigmggeneaaDoor
open Go.RowKit Go.Maps Go.Deep

/-- the marks of both for each source, the version 0 where one has none -/
def sideL : List MarkV → List MarkV → List (MarkV × MarkV)
  | [], [] => []
  | x :: xs, [] => (x, ⟨x.a0, 0⟩) :: sideL xs []
  | [], y :: ys => (⟨y.a0, 0⟩, y) :: sideL [] ys
  | x :: xs, y :: ys =>
    if lessS x.a0 y.a0 then (x, ⟨x.a0, 0⟩) :: sideL xs (y :: ys)
    else if lessS y.a0 x.a0 then (⟨y.a0, 0⟩, y) :: sideL (x :: xs) ys
    else (x, y) :: sideL xs ys
termination_by xs ys => xs.length + ys.length
theorem sideL_len (xa xb : List MarkV) : (sideL xa xb).length ≤ xa.length + xb.length := by
  fun_induction sideL xa xb <;> simp_all <;> omega
/-- what has come, where so many of both are through -/
def SideTo (xa xb : List MarkV) (i j : Nat) (pre : List (MarkV × MarkV)) : Prop := pre ++ sideL (xa.drop i) (xb.drop j) = sideL xa xb
theorem side_start (xa xb : List MarkV) : SideTo xa xb 0 0 [] := by simp [SideTo]
theorem side_end {xa xb : List MarkV} {pre : List (MarkV × MarkV)} (h : SideTo xa xb xa.length xb.length pre) : pre = sideL xa xb := by
  unfold SideTo at h
  simpa [sideL] using h
theorem side_pre {xa xb : List MarkV} {i j : Nat} {pre : List (MarkV × MarkV)} (h : SideTo xa xb i j pre) : pre <+: sideL xa xb := ⟨_, h⟩
theorem side_lt {xa xb : List MarkV} {pre : List (MarkV × MarkV)} {x : MarkV × MarkV} {i' j' : Nat} (h : SideTo xa xb i' j' (pre ++ [x])) : pre.length < xa.length + xb.length := by
  have h1 := congrArg List.length h
  have h2 := sideL_len xa xb
  simp at h1
  omega
theorem side_has {xa xb : List MarkV} {pre : List (MarkV × MarkV)} {x : MarkV × MarkV} {i j : Nat} (h : SideTo xa xb i j (pre ++ [x])) : x ∈ sideL xa xb := by
  unfold SideTo at h
  rw [← h]
  simp
theorem side_a {xa xb : List MarkV} {i : Nat} {pre : List (MarkV × MarkV)} (h : SideTo xa xb i xb.length pre) (hi : i < xa.length) : SideTo xa xb (i + 1) xb.length (pre ++ [(xa[i], ⟨xa[i].a0, 0⟩)]) := by
  unfold SideTo at *
  rw [List.drop_eq_getElem_cons hi] at h
  simp only [List.drop_length, sideL] at h ⊢
  simpa using h
theorem side_b {xa xb : List MarkV} {j : Nat} {pre : List (MarkV × MarkV)} (h : SideTo xa xb xa.length j pre) (hj : j < xb.length) : SideTo xa xb xa.length (j + 1) (pre ++ [(⟨xb[j].a0, 0⟩, xb[j])]) := by
  unfold SideTo at *
  rw [List.drop_eq_getElem_cons hj] at h
  simp only [List.drop_length, sideL] at h ⊢
  simpa using h
theorem side_lo {xa xb : List MarkV} {i j : Nat} {pre : List (MarkV × MarkV)} (h : SideTo xa xb i j pre) (hi : i < xa.length) (hj : j < xb.length) (hl : lessS xa[i].a0 xb[j].a0 = true) : SideTo xa xb (i + 1) j (pre ++ [(xa[i], ⟨xa[i].a0, 0⟩)]) := by
  unfold SideTo at *
  rw [List.drop_eq_getElem_cons hi, List.drop_eq_getElem_cons hj, sideL, if_pos hl] at h
  rw [List.drop_eq_getElem_cons hj]
  simpa using h
theorem side_hi {xa xb : List MarkV} {i j : Nat} {pre : List (MarkV × MarkV)} (h : SideTo xa xb i j pre) (hi : i < xa.length) (hj : j < xb.length) (hl : lessS xa[i].a0 xb[j].a0 = false) (hr : lessS xb[j].a0 xa[i].a0 = true) : SideTo xa xb i (j + 1) (pre ++ [(⟨xb[j].a0, 0⟩, xb[j])]) := by
  unfold SideTo at *
  rw [List.drop_eq_getElem_cons hi, List.drop_eq_getElem_cons hj, sideL, if_neg (by simp [hl]), if_pos hr] at h
  rw [List.drop_eq_getElem_cons hi]
  simpa using h
theorem side_eq {xa xb : List MarkV} {i j : Nat} {pre : List (MarkV × MarkV)} (h : SideTo xa xb i j pre) (hi : i < xa.length) (hj : j < xb.length) (hl : lessS xa[i].a0 xb[j].a0 = false) (hr : lessS xb[j].a0 xa[i].a0 = false) : SideTo xa xb (i + 1) (j + 1) (pre ++ [(xa[i], xb[j])]) := by
  unfold SideTo at *
  rw [List.drop_eq_getElem_cons hi, List.drop_eq_getElem_cons hj, sideL, if_neg (by simp [hl]), if_neg (by simp [hr])] at h
  simpa using h
end Go.Proofs.YteonbigmggeneaaDoor
