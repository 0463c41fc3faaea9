/-
  The records with which bytes begin, one behind the other, at most two hundred; and where they end.
-/
import Derived.Test.YtcpjcdbhcllbiaaRecMath
import Derived.Test.YtcpjcdbhcllbiaaRecRowsOwn
set_option linter.unusedVariables false
namespace Go.Proofs.Ytcpjcdbhcllbiaa
open Go.RowKit Go.Maps Go.Deep

def lgGo (bs : List UInt8) : Nat → List RecV → Nat → List RecV × Nat
  | 0, rs, p => (rs, p)
  | k + 1, rs, p => match readI (bs.drop p) with
    | none => (rs, p)
    | some (r, n) => lgGo bs k (rs ++ [r]) (p + n)
theorem lgGo_zero (bs : List UInt8) (rs : List RecV) (p : Nat) : lgGo bs 0 rs p = (rs, p) := rfl
theorem lgGo_none {bs : List UInt8} {p : Nat} (k : Nat) (rs : List RecV) (h : readI (bs.drop p) = none) : lgGo bs (k + 1) rs p = (rs, p) := by simp [lgGo, h]
theorem lgGo_some {bs : List UInt8} {p : Nat} {r : RecV} {n : Nat} (k : Nat) (rs : List RecV) (h : readI (bs.drop p) = some (r, n)) : lgGo bs (k + 1) rs p = lgGo bs k (rs ++ [r]) (p + n) := by simp [lgGo, h]
def logRs (bs : List UInt8) : List RecV := (lgGo bs 200 [] 0).1
def logE (bs : List UInt8) : Nat := (lgGo bs 200 [] 0).2
/-- so many have been read, and what is still to be read is what is asked for -/
def LgTo (bs : List UInt8) (k : Nat) (rs : List RecV) (p : Nat) : Prop := k ≤ 200 ∧ rs.length = k ∧ p ≤ bs.length ∧ (∀ r ∈ rs, RecFit r ∧ recOkB r = true) ∧ lgGo bs (200 - k) rs p = lgGo bs 200 [] 0
theorem lg_zero (bs : List UInt8) : LgTo bs 0 [] 0 := ⟨by omega, rfl, by omega, by simp, rfl⟩
theorem read_facts {bs : List UInt8} {r : RecV} {n : Nat} (h : readI bs = some (r, n)) : RecFit r ∧ recOkB r = true ∧ n ≤ bs.length ∧ 0 < n := by
  have := readI_is bs
  rw [h] at this
  obtain ⟨h1, h2, h3, more, h4⟩ := this
  refine ⟨h1, h2, by rw [h4, List.length_append]; omega, ?_⟩
  rw [h3, recAll, List.length_append, beL_length]
  omega
theorem lg_step {bs : List UInt8} {k : Nat} {rs : List RecV} {p : Nat} {r : RecV} {n : Nat} (h : LgTo bs k rs p) (hk : k < 200) (hr : readI (bs.drop p) = some (r, n)) : LgTo bs (k + 1) (rs ++ [r]) (p + n) := by
  obtain ⟨h1, h2, h3, h4, h5⟩ := h
  obtain ⟨f1, f2, f3, f4⟩ := read_facts hr
  refine ⟨by omega, by simp [h2], by rw [List.length_drop] at f3; omega, fun x hx => ?_, ?_⟩
  · rcases List.mem_append.1 hx with hx | hx
    · exact h4 x hx
    · simp at hx; subst hx; exact ⟨f1, f2⟩
  · rw [← h5, show 200 - k = 200 - (k + 1) + 1 by omega, lgGo_some _ _ hr]
theorem lg_none {bs : List UInt8} {k : Nat} {rs : List RecV} {p : Nat} (h : LgTo bs k rs p) (hk : k < 200) (hr : readI (bs.drop p) = none) : logRs bs = rs ∧ logE bs = p := by
  obtain ⟨h1, h2, h3, h4, h5⟩ := h
  rw [show 200 - k = 200 - (k + 1) + 1 by omega, lgGo_none _ _ hr] at h5
  exact ⟨by rw [logRs, ← h5], by rw [logE, ← h5]⟩
theorem lg_full {bs : List UInt8} {rs : List RecV} {p : Nat} (h : LgTo bs 200 rs p) : logRs bs = rs ∧ logE bs = p := by
  obtain ⟨h1, h2, h3, h4, h5⟩ := h
  rw [Nat.sub_self, lgGo_zero] at h5
  exact ⟨by rw [logRs, ← h5], by rw [logE, ← h5]⟩
theorem lg_all (bs : List UInt8) : ∀ m k, m + k = 200 → ∀ rs p, LgTo bs k rs p → ∃ k', LgTo bs k' (logRs bs) (logE bs) := by
  intro m
  induction m with
  | zero =>
    intro k hk rs p h
    obtain rfl : k = 200 := by omega
    obtain ⟨e1, e2⟩ := lg_full h
    exact ⟨200, by rw [e1, e2]; exact h⟩
  | succ m ih =>
    intro k hk rs p h
    cases hr : readI (bs.drop p) with
    | none =>
      obtain ⟨e1, e2⟩ := lg_none h (by omega) hr
      exact ⟨k, by rw [e1, e2]; exact h⟩
    | some q =>
      obtain ⟨r, n⟩ := q
      exact ih (k + 1) (by omega) _ _ (lg_step h (by omega) hr)
theorem log_facts (bs : List UInt8) : (logRs bs).length ≤ 200 ∧ logE bs ≤ bs.length ∧ ∀ r ∈ logRs bs, RecFit r ∧ recOkB r = true := by
  obtain ⟨k, h1, h2, h3, h4, _⟩ := lg_all bs 200 0 rfl _ _ (lg_zero bs)
  exact ⟨by omega, h3, h4⟩
theorem rec_small {r : RecV} (h : recOkB r = true) : r.name.size ≤ 8 ∧ r.text.size ≤ 200 := by
  simp only [recOkB, plainB, Bool.and_eq_true, decide_eq_true_eq] at h
  refine ⟨h.1.1.2, ?_⟩
  have hf := h.2
  unfold fitsB at hf
  have em : ∀ {t : ByteArray}, emptyB t = true → t.size ≤ 200 := fun {t} ht => by have := of_decide_eq_true ht; omega
  split at hf
  · simp only [Bool.and_eq_true, decide_eq_true_eq] at hf; omega
  · split at hf
    · simp only [Bool.and_eq_true] at hf; exact em hf.2
    · split at hf
      · exact em hf
      · split at hf
        · simp only [Bool.and_eq_true] at hf; exact em hf.1.1
        · cases hf
theorem small_log (bs : List UInt8) : SmallRecS (logRs bs) := by
  obtain ⟨h1, h2, h3⟩ := log_facts bs
  refine ⟨⟨by omega, fun x hx => ?_⟩, fun x hx => (h3 x hx).1⟩
  have := rec_small (h3 x hx).2
  exact ⟨by omega, by omega⟩
end Go.Proofs.Ytcpjcdbhcllbiaa
