/-
  Two stamps side by side: a pair of marks for each source that one of both has.
-/
/-
  The version that marks have of a source: the first one tells; both sides' ways to find it.
-/
import Derived.Test.YtlbhandkpnjgmaaMerged9
import Derived.Test.YtlbhandkpnjgmaaBoxes
import Derived.BigQuiet
import Derived.Deep.QuietTactic
import Derived.Handy
set_option linter.unusedVariables false
namespace Go.Proofs.Ytlbhandkpnjgmaa
open Go.RowKit Go.Maps Go.Deep

/-- the marks of both for each source, the version 0 where one has none -/
def sideL : List MarkV → List MarkV → List (MarkV × MarkV)
  | [], [] => []
  | x :: xs, [] => (x, ⟨x.a0, 0⟩) :: sideL xs []
  | [], y :: ys => (⟨y.a0, 0⟩, y) :: sideL [] ys
  | x :: xs, y :: ys =>
    if lessS x.a0 y.a0 then (x, ⟨x.a0, 0⟩) :: sideL xs (y :: ys)
    else if lessS y.a0 x.a0 then (⟨y.a0, 0⟩, y) :: sideL (x :: xs) ys
    else (x, y) :: sideL xs ys
termination_by xs ys => xs.length + ys.length
theorem sideL_len (xa xb : List MarkV) : (sideL xa xb).length ≤ xa.length + xb.length := by
  fun_induction sideL xa xb <;> simp_all <;> omega
/-- what has come, where so many of both are through -/
def SideTo (xa xb : List MarkV) (i j : Nat) (pre : List (MarkV × MarkV)) : Prop := pre ++ sideL (xa.drop i) (xb.drop j) = sideL xa xb
theorem side_start (xa xb : List MarkV) : SideTo xa xb 0 0 [] := by simp [SideTo]
theorem side_end {xa xb : List MarkV} {pre : List (MarkV × MarkV)} (h : SideTo xa xb xa.length xb.length pre) : pre = sideL xa xb := by
  unfold SideTo at h
  simpa [sideL] using h
theorem side_pre {xa xb : List MarkV} {i j : Nat} {pre : List (MarkV × MarkV)} (h : SideTo xa xb i j pre) : pre <+: sideL xa xb := ⟨_, h⟩
theorem side_lt {xa xb : List MarkV} {pre : List (MarkV × MarkV)} {x : MarkV × MarkV} {i' j' : Nat} (h : SideTo xa xb i' j' (pre ++ [x])) : pre.length < xa.length + xb.length := by
  have h1 := congrArg List.length h
  have h2 := sideL_len xa xb
  simp at h1
  omega
theorem side_has {xa xb : List MarkV} {pre : List (MarkV × MarkV)} {x : MarkV × MarkV} {i j : Nat} (h : SideTo xa xb i j (pre ++ [x])) : x ∈ sideL xa xb := by
  unfold SideTo at h
  rw [← h]
  simp
theorem side_a {xa xb : List MarkV} {i : Nat} {pre : List (MarkV × MarkV)} (h : SideTo xa xb i xb.length pre) (hi : i < xa.length) : SideTo xa xb (i + 1) xb.length (pre ++ [(xa[i], ⟨xa[i].a0, 0⟩)]) := by
  unfold SideTo at *
  rw [List.drop_eq_getElem_cons hi] at h
  simp only [List.drop_length, sideL] at h ⊢
  simpa using h
theorem side_b {xa xb : List MarkV} {j : Nat} {pre : List (MarkV × MarkV)} (h : SideTo xa xb xa.length j pre) (hj : j < xb.length) : SideTo xa xb xa.length (j + 1) (pre ++ [(⟨xb[j].a0, 0⟩, xb[j])]) := by
  unfold SideTo at *
  rw [List.drop_eq_getElem_cons hj] at h
  simp only [List.drop_length, sideL] at h ⊢
  simpa using h
theorem side_lo {xa xb : List MarkV} {i j : Nat} {pre : List (MarkV × MarkV)} (h : SideTo xa xb i j pre) (hi : i < xa.length) (hj : j < xb.length) (hl : lessS xa[i].a0 xb[j].a0 = true) : SideTo xa xb (i + 1) j (pre ++ [(xa[i], ⟨xa[i].a0, 0⟩)]) := by
  unfold SideTo at *
  rw [List.drop_eq_getElem_cons hi, List.drop_eq_getElem_cons hj, sideL, if_pos hl] at h
  rw [List.drop_eq_getElem_cons hj]
  simpa using h
theorem side_hi {xa xb : List MarkV} {i j : Nat} {pre : List (MarkV × MarkV)} (h : SideTo xa xb i j pre) (hi : i < xa.length) (hj : j < xb.length) (hl : lessS xa[i].a0 xb[j].a0 = false) (hr : lessS xb[j].a0 xa[i].a0 = true) : SideTo xa xb i (j + 1) (pre ++ [(⟨xb[j].a0, 0⟩, xb[j])]) := by
  unfold SideTo at *
  rw [List.drop_eq_getElem_cons hi, List.drop_eq_getElem_cons hj, sideL, if_neg (by simp [hl]), if_pos hr] at h
  rw [List.drop_eq_getElem_cons hi]
  simpa using h
theorem side_eq {xa xb : List MarkV} {i j : Nat} {pre : List (MarkV × MarkV)} (h : SideTo xa xb i j pre) (hi : i < xa.length) (hj : j < xb.length) (hl : lessS xa[i].a0 xb[j].a0 = false) (hr : lessS xb[j].a0 xa[i].a0 = false) : SideTo xa xb (i + 1) (j + 1) (pre ++ [(xa[i], xb[j])]) := by
  unfold SideTo at *
  rw [List.drop_eq_getElem_cons hi, List.drop_eq_getElem_cons hj, sideL, if_neg (by simp [hl]), if_neg (by simp [hr])] at h
  simpa using h
end Go.Proofs.Ytlbhandkpnjgmaa

set_option linter.unusedVariables false
namespace Go.Proofs.Ytlbhandkpnjgmaa
open Go.RowKit Go.Maps Go.Deep

def getV : List MarkV → ByteArray → Int
  | [], _ => 0
  | x :: xs, s => if x.a0 = s then x.a1 else getV xs s
theorem getV_hit (ns : List MarkV) (s : ByteArray) (k : Nat) (hk : k < ns.length) (he : ns[k].a0 = s) (hn : ∀ j (h : j < ns.length), j < k → ns[j].a0 ≠ s) : getV ns s = ns[k].a1 := by
  induction ns generalizing k with
  | nil => simp at hk
  | cons x xs ih =>
    cases k with
    | zero => simp at he; simp [getV, he]
    | succ k =>
      have h0 := hn 0 (by simp) (by omega)
      simp at h0
      simp only [getV, if_neg h0]
      simp only [List.getElem_cons_succ]
      exact ih k (by simpa using hk) (by simpa using he) (fun j h hj => by have := hn (j + 1) (by simpa using h) (by omega); simpa using this)
theorem getV_miss (ns : List MarkV) (s : ByteArray) (hn : ∀ j (h : j < ns.length), ns[j].a0 ≠ s) : getV ns s = 0 := by
  induction ns with
  | nil => rfl
  | cons x xs ih =>
    have h0 := hn 0 (by simp)
    simp at h0
    simp only [getV, if_neg h0]
    exact ih (fun j h => by have := hn (j + 1) (by simpa using h); simpa using this)
set_option maxHeartbeats 1600000 in
theorem l13Get_row (w : World) (b off cap : Nat) (ns : List MarkV) (s : ByteArray) (hl : (ns.length : Int) ≤ 1048576) (hc : MarkAt w b off ns) :
    Calls Try.prog 53 #[.slice (some ⟨b, off, none⟩) ns.length cap, .string s] w fun e w' => e = .returned (.int .i64 (getV ns s)) ∧ w' = w := by
  have HC := hide hc
  clear hc
  go_enter Try.func53, Try.ntmps53
  go_wp2_with fail
  go_loop [5] (fun i => ∃ k : Nat, k ≤ ns.length ∧ i = .int .i64 k ∧ Hid (∀ j (h : j < ns.length), j < k → ns[j].a0 ≠ s)) (fun i => ns.length - (intOf i).toNat)
  case atStart => exact ⟨0, Nat.zero_le _, rfl, fun j h hj => absurd hj (Nat.not_lt_zero _)⟩
  case round =>
    obtain ⟨k, hk, rfl, HN⟩ := hrel
    by_cases hlt : k < ns.length
    · obtain ⟨c0, c1⟩ := unhide HC k hlt
      by_cases he : ns[k].a0 = s
      · have hf := hide (getV_hit ns s k hlt he (fun j h hj => unhide HN j h hj))
        rw [he] at c0
        clear he
        generalize ns[k].a1 = vl at *
        go_wp2_with fail
        go_ret
        exact ⟨ret_int (unhide hf).symm, rfl⟩
      · have HN2 := hide (show ∀ j (h : j < ns.length), j < k + 1 → ns[j].a0 ≠ s from fun j h hj => by
          by_cases e : j = k
          · subst e; exact he
          · exact unhide HN j h (by omega))
        have qe : (ns[k].a0.toList == s.toList) = false := by rw [str_same]; simpa using he
        clear he
        generalize ns[k].a0 = nm at *
        generalize ns[k].a1 = vl at *
        go_wp2_with fail
        go_round
        case rel => exact ⟨k + 1, by omega, by go_num, HN2⟩
        case measure => simp [intOf]; omega
    · have hf := hide (getV_miss ns s (fun j h => unhide HN j h (by omega)))
      go_wp2_with fail
      go_ret
      exact ⟨ret_int (unhide hf).symm, rfl⟩
theorem l13Get_none (w : World) (a : Option Addr) (cap : Nat) (s : ByteArray) : Calls Try.prog 53 #[.slice a 0 cap, .string s] w fun e w' => e = .returned (.int .i64 (getV [] s)) ∧ w' = w := by
  go_enter Try.func53, Try.ntmps53
  go_wp2_with fail
  refine wp_loop_rounds 1 ?_
  rw [rounds_succ]
  go_wp2_with fail
  go_ret
  exact ⟨rfl, rfl⟩
theorem l13Get_any (ns : List MarkV) (v : Value) (s : ByteArray) (w : World) (hs : SmallMarkS ns) (h : MarkSRd w v ns) : Calls Try.prog 53 #[v, .string s] w fun e w' => e = .returned (.int .i64 (getV ns s)) ∧ w' = w := by
  obtain ⟨a, c, rfl, h⟩ := h
  rcases h with rfl | ⟨b, off, rfl, hb, hc⟩
  · exact l13Get_none w a c s
  · exact l13Get_row w b off c ns s (by have := hs.1.1; omega) hc
end Go.Proofs.Ytlbhandkpnjgmaa
