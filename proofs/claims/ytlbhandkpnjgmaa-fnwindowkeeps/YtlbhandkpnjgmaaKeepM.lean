/-
  Windows: what is put is taken or not; what is kept is the last four of what was taken.
-/
import Derived.Test.YtlbhandkpnjgmaaMerged31
set_option linter.unusedVariables false
namespace Go.Proofs.Ytlbhandkpnjgmaa
open Go.RowKit Go.Maps Go.Deep

theorem takeC_zero {ns : List ItemV} {it : ItemV} (h : takeC ns it = 0) : itemB it = true ∧ (ns = [] ∨ aboveB orderOut (lastM ns) it.a1 = true) := by
  unfold takeC at h
  split at h
  · cases h
  · rename_i h1
    split at h
    · cases h
    · rename_i h2
      refine ⟨by simpa using h1, ?_⟩
      by_cases e : ns = []
      · exact .inl e
      · refine .inr ?_
        cases hb : aboveB orderOut (lastM ns) it.a1
        · exact absurd ⟨e, hb⟩ h2
        · rfl
theorem lastM_at {ns : List ItemV} (h : ns ≠ []) (hl : ns.length - 1 < ns.length) : lastM ns = ns[ns.length - 1].a1 := by
  unfold lastM
  rw [List.getLast?_eq_getElem?, List.getElem?_eq_getElem hl]
  rfl
theorem winTo_snoc {ns : List ItemV} {it : ItemV} (hw : WinTo orderOut ns ns.length) (hc : takeC ns it = 0) : WinTo orderOut (ns ++ [it]) (ns ++ [it]).length := by
  obtain ⟨h1, h2⟩ := takeC_zero hc
  intro i h _
  simp only [List.length_append, List.length_cons, List.length_nil] at h
  by_cases e : i < ns.length
  · obtain ⟨q1, q2⟩ := hw i e e
    refine ⟨by rw [List.getElem_append_left e]; exact q1, fun h0 => ?_⟩
    rw [List.getElem_append_left e, List.getElem_append_left (by omega)]
    exact q2 h0
  · have e' : i = ns.length := by omega
    subst e'
    refine ⟨by rw [List.getElem_append_right (Nat.le_refl _)]; simpa using h1, fun h0 => ?_⟩
    have hne : ns ≠ [] := by rintro rfl; simp at h0
    rw [List.getElem_append_right (Nat.le_refl _), List.getElem_append_left (by omega)]
    rw [lastM_at hne (by omega)] at h2
    simpa using h2.resolve_left hne
theorem winTo_drop {ns : List ItemV} (hw : WinTo orderOut ns ns.length) : WinTo orderOut (ns.drop 1) (ns.drop 1).length := by
  intro i h _
  simp only [List.length_drop] at h
  obtain ⟨q1, q2⟩ := hw (1 + i) (by omega) (by omega)
  refine ⟨by rw [List.getElem_drop]; exact q1, fun h0 => ?_⟩
  rw [List.getElem_drop, List.getElem_drop]
  have e : 1 + i - 1 = 1 + (i - 1) := by omega
  have := q2 (by omega)
  simp only [e] at this
  exact this
theorem win_to {ns : List ItemV} (hw : windowB orderOut ns = true) : ns.length ≤ 4 ∧ WinTo orderOut ns ns.length := by
  unfold windowB at hw
  simpa using hw
theorem win_putN {ns : List ItemV} {it : ItemV} (hw : windowB orderOut ns = true) (hc : takeC ns it = 0) : windowB orderOut (putN ns it) = true := by
  obtain ⟨h4, ht⟩ := win_to hw
  have hs := winTo_snoc ht hc
  unfold putN
  split
  · exact win_good (by simp; omega) hs
  · have e : ns.drop 1 ++ [it] = (ns ++ [it]).drop 1 := by rw [List.drop_append_of_le_length (by omega)]
    rw [e]
    exact win_good (by simp; omega) (winTo_drop hs)
/-- a window is the last few of what was taken -/
def Kept (ns ts : List ItemV) : Prop := windowB orderOut ns = true ∧ ns = ts.drop (ts.length - 4)
theorem kept_nil : Kept [] [] := ⟨win_good (by simp) (win_zero _ _), rfl⟩
theorem kept_put {ns ts : List ItemV} {it : ItemV} (h : Kept ns ts) (hc : takeC ns it = 0) : Kept (putN ns it) (ts ++ [it]) := by
  refine ⟨win_putN h.1 hc, ?_⟩
  have e := h.2
  unfold putN
  by_cases hl : ts.length < 4
  · have e0 : ts.length - 4 = 0 := by omega
    rw [e0, List.drop_zero] at e
    subst e
    rw [if_pos hl]
    have : (ns ++ [it]).length - 4 = 0 := by simp; omega
    rw [this, List.drop_zero]
  · have hn : ns.length = 4 := by rw [e]; simp; omega
    rw [if_neg (by omega), e, List.drop_drop]
    have : (ts ++ [it]).length - 4 = ts.length - 4 + 1 := by simp; omega
    rw [this, List.drop_append_of_le_length (by omega)]
theorem kept_empty {ns ts : List ItemV} (h : Kept ns ts) : decide (ns ≠ []) = decide (0 < ts.length) := by
  have e := h.2
  have hl : ns.length = ts.length - (ts.length - 4) := by rw [e]; simp
  rw [decide_eq_decide]
  constructor
  · intro h1
    have : ns.length ≠ 0 := fun h => h1 (List.eq_nil_of_length_eq_zero h)
    omega
  · intro h1 h2
    rw [h2] at hl
    simp at hl
    omega
theorem kept_last {ns ts : List ItemV} (h : Kept ns ts) (ht : 0 < ts.length) : lastB ns = true ∧ lastI ns = ts[ts.length - 1] := by
  have hne : ns ≠ [] := by
    have := kept_empty h
    rw [decide_eq_decide] at this
    exact this.2 ht
  have e := h.2
  obtain ⟨h1, h2⟩ := lastI_get h.1 hne
  refine ⟨h1, ?_⟩
  rw [h2]
  have hl : ns.length = ts.length - (ts.length - 4) := by rw [e]; simp
  have : ns[ns.length - 1]'(last_split hne) = (ts.drop (ts.length - 4))[ns.length - 1]'(by simp; omega) := by
    congr 1
  rw [this, List.getElem_drop]
  congr 1
  omega
/-- the three ways of a put -/
theorem kept_ways {ns ts : List ItemV} (it : ItemV) (h : Kept ns ts) :
    (putI ns it = 1 ∧ putV ns it = []) ∨ (putI ns it = 0 ∧ Kept (putV ns it) (ts ++ [it])) ∨ (putI ns it = 2 ∧ Kept (putV ns it) ts) := by
  have hi : putI ns it = takeC ns it := by simp [putI, h.1]
  rcases takeC_form ns it with ⟨hc, -⟩ | ⟨hc | hc, -⟩
  · exact .inl ⟨hi.trans hc, by simp [putV, h.1, hc]⟩
  · exact .inr (.inl ⟨hi.trans hc, by rw [show putV ns it = putN ns it by simp [putV, h.1, hc]]; exact kept_put h hc⟩)
  · exact .inr (.inr ⟨hi.trans hc, by rw [show putV ns it = ns by simp [putV, h.1, hc]]; exact h⟩)
end Go.Proofs.Ytlbhandkpnjgmaa
