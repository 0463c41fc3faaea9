/-
  What a log is: the bytes of its records, one behind the other, and something that is none.
-/
import Derived.Test.YtcpjcdbhcllbiaaLogRd
import Derived.Test.YtcpjcdbhcllbiaaLogMath
set_option linter.unusedVariables false
namespace Go.Proofs.Ytcpjcdbhcllbiaa
open Go.RowKit Go.Maps Go.Deep

def recsB (rs : List RecV) : List UInt8 := rs.flatMap recAll
theorem recsB_nil : recsB [] = [] := rfl
theorem recsB_cons (r : RecV) (rs : List RecV) : recsB (r :: rs) = recAll r ++ recsB rs := rfl
theorem recsB_append (a b : List RecV) : recsB (a ++ b) = recsB a ++ recsB b := by simp [recsB]
theorem recsB_snoc (a : List RecV) (r : RecV) : recsB (a ++ [r]) = recsB a ++ recAll r := by simp [recsB]
def AllOk (rs : List RecV) : Prop := ∀ r ∈ rs, RecFit r ∧ recOkB r = true
theorem recAll_pos (r : RecV) : 0 < (recAll r).length := by
  rw [recAll, List.length_append, beL_length]
  omega
theorem readI_some {r : RecV} (hf : RecFit r) (hb : recOkB r = true) (more : List UInt8) : readI (recAll r ++ more) = some (r, (recAll r).length) :=
  isRead_same (readI_is _) ⟨hf, hb, rfl, more, rfl⟩
theorem readI_nil : readI [] = none := by
  cases h : readI [] with
  | none => rfl
  | some q =>
    obtain ⟨r, n⟩ := q
    have := read_facts h
    simp at this
    omega
/-- the reading goes over all the records -/
theorem lgGo_over (rest : List UInt8) : ∀ (rs pre : List RecV) (k : Nat), AllOk rs → rs.length ≤ k → lgGo (recsB (pre ++ rs) ++ rest) k pre (recsB pre).length = lgGo (recsB (pre ++ rs) ++ rest) (k - rs.length) (pre ++ rs) (recsB (pre ++ rs)).length := by
  intro rs
  induction rs with
  | nil => intro pre k _ _; simp
  | cons r rs ih =>
    intro pre k hok hk
    simp only [List.length_cons] at hk
    obtain ⟨m, rfl⟩ : ∃ m, k = m + 1 := ⟨k - 1, by omega⟩
    have h1 := hok r (by simp)
    have hd : (recsB (pre ++ r :: rs) ++ rest).drop (recsB pre).length = recAll r ++ (recsB rs ++ rest) := by
      rw [recsB_append, recsB_cons, List.append_assoc, List.drop_left]
      simp
    rw [lgGo_some (r := r) (n := (recAll r).length) m pre (by rw [hd]; exact readI_some h1.1 h1.2 _)]
    have e : pre ++ r :: rs = (pre ++ [r]) ++ rs := by simp
    have hn : (recsB pre).length + (recAll r).length = (recsB (pre ++ [r])).length := by rw [recsB_snoc, List.length_append]
    rw [hn, e, ih (pre ++ [r]) m (fun x hx => hok x (by simp [hx])) (by omega)]
    congr 1
    simp only [List.length_cons]
    omega
/-- records, and behind them something that is none (or there are two hundred) -/
theorem log_is {rs : List RecV} {rest : List UInt8} (hok : AllOk rs) (hl : rs.length ≤ 200) (hr : rs.length = 200 ∨ readI rest = none) : logRs (recsB rs ++ rest) = rs ∧ logE (recsB rs ++ rest) = (recsB rs).length := by
  have h := lgGo_over rest rs [] 200 hok hl
  simp only [List.nil_append, recsB_nil, List.length_nil] at h
  have he : lgGo (recsB rs ++ rest) (200 - rs.length) rs (recsB rs).length = (rs, (recsB rs).length) := by
    rcases Nat.eq_zero_or_pos (200 - rs.length) with h0 | h0
    · rw [h0, lgGo_zero]
    · obtain ⟨m, hm⟩ : ∃ m, 200 - rs.length = m + 1 := ⟨200 - rs.length - 1, by omega⟩
      rw [hm, lgGo_none m rs (by rw [List.drop_left]; rcases hr with hr | hr; omega; exact hr)]
  rw [he] at h
  exact ⟨by rw [logRs, h], by rw [logE, h]⟩
theorem lgGo_form (bs : List UInt8) : ∀ (k : Nat) (rs : List RecV) (p : Nat), AllOk rs → bs.take p = recsB rs → p ≤ bs.length → (let q := lgGo bs k rs p; AllOk q.1 ∧ bs.take q.2 = recsB q.1 ∧ q.2 ≤ bs.length ∧ (q.1.length = rs.length + k ∨ readI (bs.drop q.2) = none)) := by
  intro k
  induction k with
  | zero => intro rs p h1 h2 h3; exact ⟨h1, h2, h3, .inl rfl⟩
  | succ k ih =>
    intro rs p h1 h2 h3
    cases hr : readI (bs.drop p) with
    | none =>
      rw [lgGo_none k rs hr]
      exact ⟨h1, h2, h3, .inr hr⟩
    | some q =>
      obtain ⟨r, n⟩ := q
      rw [lgGo_some k rs hr]
      have hi := readI_is (bs.drop p)
      rw [hr] at hi
      obtain ⟨f1, f2, f3, more, f4⟩ := hi
      have hl : n ≤ bs.length - p := by have := congrArg List.length f4; simp at this; omega
      have h := ih (rs ++ [r]) (p + n) (fun x hx => by
        rcases List.mem_append.1 hx with hx | hx
        · exact h1 x hx
        · simp at hx; subst hx; exact ⟨f1, f2⟩) (by
        rw [List.take_add, h2, f4, f3, List.take_left, recsB_snoc]) (by omega)
      obtain ⟨g1, g2, g3, g4⟩ := h
      refine ⟨g1, g2, g3, ?_⟩
      rcases g4 with g4 | g4
      · exact .inl (by rw [g4]; simp; omega)
      · exact .inr g4
theorem log_form (bs : List UInt8) : AllOk (logRs bs) ∧ bs.take (logE bs) = recsB (logRs bs) ∧ logE bs ≤ bs.length ∧ ((logRs bs).length = 200 ∨ readI (bs.drop (logE bs)) = none) := by
  have h := lgGo_form bs 200 [] 0 (fun x hx => by simp at hx) (by simp [recsB]) (by omega)
  simpa [logRs, logE] using h
theorem logE_len (bs : List UInt8) : logE bs = (recsB (logRs bs)).length := by
  obtain ⟨_, h2, h3, _⟩ := log_form bs
  rw [← h2]
  simp
  omega
/-- what is whole is read as it was -/
theorem log_whole (bs : List UInt8) : logRs (bs.take (logE bs)) = logRs bs ∧ logE (bs.take (logE bs)) = logE bs ∧ (bs.take (logE bs)).length = logE bs := by
  obtain ⟨h1, h2, h3, h4⟩ := log_form bs
  have hl := (log_facts bs).1
  have h := log_is (rest := []) h1 hl (.inr readI_nil)
  rw [List.append_nil] at h
  rw [h2]
  exact ⟨h.1, by rw [h.2, logE_len], (logE_len bs).symm⟩
/-- one more record behind a log that is whole -/
theorem log_more {bs : List UInt8} {r : RecV} (he : logE bs = bs.length) (hl : (logRs bs).length < 200) (hf : RecFit r) (hb : recOkB r = true) : logRs (bs ++ recAll r) = logRs bs ++ [r] ∧ logE (bs ++ recAll r) = (bs ++ recAll r).length := by
  obtain ⟨h1, h2, h3, h4⟩ := log_form bs
  rw [he, List.take_of_length_le (Nat.le_refl _)] at h2
  have h := log_is (rs := logRs bs ++ [r]) (rest := []) (fun x hx => by
    rcases List.mem_append.1 hx with hx | hx
    · exact h1 x hx
    · simp at hx; subst hx; exact ⟨hf, hb⟩) (by simp; omega) (.inr readI_nil)
  rw [List.append_nil, recsB_snoc, ← h2] at h
  exact h
/-- a beginning of a record's bytes is none -/
theorem read_short {r : RecV} (hf : RecFit r) (hb : recOkB r = true) {a b : List UInt8} (h : recAll r = a ++ b) (hne : b ≠ []) : readI a = none := by
  cases hr : readI a with
  | none => rfl
  | some q =>
    obtain ⟨s, n⟩ := q
    have hi := readI_is a
    rw [hr] at hi
    obtain ⟨f1, f2, f3, more, f4⟩ := hi
    have e1 := readI_some f1 f2 (more ++ b)
    have e2 := readI_some hf hb []
    rw [List.append_nil, h, f4, List.append_assoc] at e2
    rw [e1] at e2
    simp only [Option.some.injEq, Prod.mk.injEq] at e2
    have hs := e2.1
    subst hs
    have hl := congrArg List.length f4
    have hL := congrArg List.length h
    have hb' : 0 < b.length := List.length_pos_iff.2 hne
    simp only [List.length_append] at hl hL
    omega
end Go.Proofs.Ytcpjcdbhcllbiaa
