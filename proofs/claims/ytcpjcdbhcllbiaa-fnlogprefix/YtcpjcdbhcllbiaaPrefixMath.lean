/-
  A log that is cut anywhere: just the whole records are read.
-/
import Derived.Test.YtcpjcdbhcllbiaaLogForm
set_option linter.unusedVariables false
namespace Go.Proofs.Ytcpjcdbhcllbiaa
open Go.RowKit Go.Maps Go.Deep

theorem recBytesL_all {r : RecV} (h : recOkB r = true) : recBytesL r = recAll r := by simp [recBytesL, h]
theorem logL_form : ∀ (n : Nat) (rs : List RecV), rs.length = n → ∀ acc, logL rs = some acc → acc = recsB rs ∧ ∀ r ∈ rs, recOkB r = true := by
  intro n
  induction n with
  | zero =>
    intro rs h acc e
    rw [List.eq_nil_of_length_eq_zero h] at e ⊢
    simp [logL] at e
    rw [e]
    exact ⟨rfl, by simp⟩
  | succ n ih =>
    intro rs h acc e
    have hn : n < rs.length := by omega
    have ht := log_take rs n hn
    rw [List.take_of_length_le (by omega), e] at ht
    have hrs : rs = rs.take n ++ [rs[n]] := by
      have h1 : rs = rs.take (n + 1) := (List.take_of_length_le (by omega)).symm
      rw [List.take_succ_eq_append_getElem hn] at h1
      exact h1
    cases hp : logL (rs.take n) with
    | none => rw [hp] at ht; cases ht
    | some a =>
      rw [hp] at ht
      simp only [logStep] at ht
      split at ht
      · rename_i hh
        simp only [Option.some.injEq] at ht
        obtain ⟨i1, i2⟩ := ih (rs.take n) (by simp; omega) a hp
        refine ⟨?_, fun r hr => ?_⟩
        · rw [ht, i1, recBytesL_all hh.1]
          conv => rhs; rw [hrs, recsB_snoc]
        · rw [hrs] at hr
          rcases List.mem_append.1 hr with hr | hr
          · exact i2 r hr
          · simp at hr
            rw [hr]
            exact hh.1
      · cases ht
/-- the records of a log that may be written -/
theorem log_ok_form {rs : List RecV} (h : logOkB rs = true) (hf : ∀ r ∈ rs, RecFit r) : logOut rs = recsB rs ∧ AllOk rs ∧ rs.length ≤ 200 ∧ (recsB rs).length ≤ 8000 := by
  unfold logOkB logAll at h
  split at h
  · rename_i hl
    obtain ⟨acc, ha⟩ := Option.isSome_iff_exists.1 h
    obtain ⟨h1, h2⟩ := logL_form _ rs rfl acc ha
    have h3 := log_len rs acc ha
    rw [h1] at h3
    exact ⟨by rw [logOut, logAll, if_pos hl, ha]; exact h1, fun r hr => ⟨hf r hr, h2 r hr⟩, hl, h3⟩
  · cases h
/-- and a beginning of them may be written too -/
theorem log_begin {rs : List RecV} (h : logOkB rs = true) (hf : ∀ r ∈ rs, RecFit r) (j : Nat) : logOkB (rs.take j) = true ∧ logOut (rs.take j) = recsB (rs.take j) := by
  have hb : logOkB (rs.take j) = true := by
    unfold logOkB logAll at h ⊢
    split at h
    · rename_i hl
      rw [if_pos (by simp; omega)]
      cases hp : logL (rs.take j) with
      | none => rw [log_none hp] at h; cases h
      | some a => rfl
    · cases h
  exact ⟨hb, (log_ok_form hb (fun r hr => hf r (List.mem_of_mem_take hr))).1⟩
/-- how many records fit into the first bytes -/
theorem fit_most (rs : List RecV) (k : Nat) : ∃ j, j ≤ rs.length ∧ (recsB (rs.take j)).length ≤ k ∧ (j = rs.length ∨ ∃ h : j < rs.length, k < (recsB (rs.take j)).length + (recAll rs[j]).length) := by
  induction rs generalizing k with
  | nil => exact ⟨0, by simp, by simp [recsB], .inl rfl⟩
  | cons r rs ih =>
    by_cases hk : (recAll r).length ≤ k
    · obtain ⟨j, h1, h2, h3⟩ := ih (k - (recAll r).length)
      refine ⟨j + 1, by simp; omega, by rw [List.take_succ_cons, recsB_cons, List.length_append]; omega, ?_⟩
      rcases h3 with h3 | ⟨h, h3⟩
      · exact .inl (by simp [h3])
      · refine .inr ⟨by simp; omega, ?_⟩
        rw [List.take_succ_cons, recsB_cons, List.length_append]
        simp only [List.getElem_cons_succ]
        omega
    · exact ⟨0, by simp, by simp [recsB], .inr ⟨by simp, by simp [recsB]; omega⟩⟩
/-- what is read of a log that is cut -/
theorem log_cut {rs : List RecV} (hok : AllOk rs) (hl : rs.length ≤ 200) (k : Nat) (hk : k ≤ (recsB rs).length) : ∃ j, j ≤ rs.length ∧ logRs ((recsB rs).take k) = rs.take j ∧ logE ((recsB rs).take k) = (recsB (rs.take j)).length ∧ (recsB (rs.take j)).length ≤ k ∧ (j = rs.length ∨ ∃ h : j < rs.length, k < (recsB (rs.take j)).length + (recAll rs[j]).length) := by
  obtain ⟨j, h1, h2, h3⟩ := fit_most rs k
  have hp : AllOk (rs.take j) := fun r hr => hok r (List.mem_of_mem_take hr)
  have key : ∃ rest, (recsB rs).take k = recsB (rs.take j) ++ rest ∧ readI rest = none := by
    rcases h3 with h3 | ⟨h, h3⟩
    · subst h3
      rw [List.take_of_length_le (Nat.le_refl _)] at h2 ⊢
      exact ⟨[], by rw [List.append_nil, List.take_of_length_le (by omega)], readI_nil⟩
    · have hs : recsB rs = recsB (rs.take j) ++ (recAll rs[j] ++ recsB (rs.drop (j + 1))) := by
        conv => lhs; rw [← List.take_append_drop j rs, recsB_append, List.drop_eq_getElem_cons h, recsB_cons]
      generalize hpl : (recsB (rs.take j)).length = p at *
      refine ⟨(recAll rs[j]).take (k - p), ?_, ?_⟩
      · rw [hs, List.take_append, hpl, List.take_of_length_le (by omega), List.take_append, show k - p - (recAll rs[j]).length = 0 by omega, List.take_zero, List.append_nil]
      · have hr := hok rs[j] (List.getElem_mem h)
        exact read_short hr.1 hr.2 (b := (recAll rs[j]).drop (k - p)) (List.take_append_drop _ _).symm (by
          intro e
          have := congrArg List.length e
          simp at this
          omega)
  obtain ⟨rest, e1, e2⟩ := key
  rw [e1]
  obtain ⟨g1, g2⟩ := log_is hp (by simp; omega) (.inr e2)
  exact ⟨j, h1, g1, g2, h2, h3⟩
end Go.Proofs.Ytcpjcdbhcllbiaa
