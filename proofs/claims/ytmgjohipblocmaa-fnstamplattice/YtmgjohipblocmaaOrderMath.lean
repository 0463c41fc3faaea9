/-
  How two stamps stand: the mathematics.
-/
import Derived.Test.YtmgjohipblocmaaAgreeMath
import Derived.Test.YtmgjohipblocmaaOrderI
set_option linter.unusedVariables false
namespace Go.Proofs.Ytmgjohipblocmaa
open Go.RowKit Go.Maps Go.Deep

def LtM (xa xb : List MarkV) : Prop := ∃ s, getV xa s < getV xb s
theorem less_iff {xa xb : List MarkV} (ha : mstampB xa = true) (hb : mstampB xb = true) : lessP (sideL xa xb) = true ↔ LtM xa xb := by
  unfold lessP LtM
  rw [List.any_eq_true]
  constructor
  · rintro ⟨p, hp, hd⟩
    obtain ⟨s, _, rfl⟩ := (side_mem xa xb (asc_of_stamp ha) (asc_of_stamp hb) p).1 hp
    exact ⟨s, of_decide_eq_true hd⟩
  · rintro ⟨s, h⟩
    have h0 := getV_nonneg (pos_of_stamp ha) s
    obtain ⟨x, hx, e⟩ := getV_in (ns := xb) (s := s) (by omega)
    exact ⟨pairOf xa xb s, (side_mem xa xb (asc_of_stamp ha) (asc_of_stamp hb) _).2 ⟨s, .inr ⟨x, hx, e⟩, rfl⟩, decide_eq_true h⟩
theorem more_iff {xa xb : List MarkV} (ha : mstampB xa = true) (hb : mstampB xb = true) : moreP (sideL xa xb) = true ↔ LtM xb xa := by
  unfold moreP LtM
  rw [List.any_eq_true]
  constructor
  · rintro ⟨p, hp, hd⟩
    obtain ⟨s, _, rfl⟩ := (side_mem xa xb (asc_of_stamp ha) (asc_of_stamp hb) p).1 hp
    exact ⟨s, of_decide_eq_true hd⟩
  · rintro ⟨s, h⟩
    have h0 := getV_nonneg (pos_of_stamp hb) s
    obtain ⟨x, hx, e⟩ := getV_in (ns := xa) (s := s) (by omega)
    exact ⟨pairOf xa xb s, (side_mem xa xb (asc_of_stamp ha) (asc_of_stamp hb) _).2 ⟨s, .inl ⟨x, hx, e⟩, rfl⟩, decide_eq_true h⟩
theorem side_swap {xa xb : List MarkV} (ha : mstampB xa = true) (hb : mstampB xb = true) : lessP (sideL xb xa) = moreP (sideL xa xb) ∧ moreP (sideL xb xa) = lessP (sideL xa xb) := by
  constructor
  · rw [Bool.eq_iff_iff, less_iff hb ha, more_iff ha hb]
  · rw [Bool.eq_iff_iff, more_iff hb ha, less_iff ha hb]
/-- what the other side tells -/
def swapO (o : Int) : Int := if o = 1 then 2 else if o = 2 then 1 else o
theorem order_swap (xa xb : List MarkV) : orderOut xb xa = swapO (orderOut xa xb) := by
  unfold orderOut
  cases h1 : mstampB xa
  · cases mstampB xb <;> simp [swapO]
  · cases h2 : mstampB xb
    · simp [swapO]
    · simp only [Bool.and_self, if_true]
      unfold orderS
      obtain ⟨e1, e2⟩ := side_swap h1 h2
      rw [e1, e2]
      cases lessP (sideL xa xb) <;> cases moreP (sideL xa xb) <;> simp [orderB, swapO]
theorem order_range (xa xb : List MarkV) : 0 ≤ orderOut xa xb ∧ orderOut xa xb ≤ 4 := by
  unfold orderOut orderS
  cases mstampB xa <;> cases mstampB xb <;> simp
  cases lessP (sideL xa xb) <;> cases moreP (sideL xa xb) <;> simp [orderB]
theorem order_same (xa xb : List MarkV) : (orderOut xa xb == 0) = (mstampB xa && eqMk xa xb) := by
  rw [Bool.eq_iff_iff]
  simp only [beq_iff_eq, Bool.and_eq_true, eqMk_iff]
  unfold orderOut
  cases h1 : mstampB xa
  · simp
  · cases h2 : mstampB xb
    · simp
      rintro rfl
      rw [h1] at h2
      cases h2
    · simp only [Bool.and_self, if_true, true_and]
      unfold orderS
      constructor
      · intro h
        have hL : lessP (sideL xa xb) = false := by
          cases hl : lessP (sideL xa xb)
          · rfl
          · rw [hl] at h
            cases hm : moreP (sideL xa xb) <;> rw [hm] at h <;> simp [orderB] at h
        have hM : moreP (sideL xa xb) = false := by
          cases hm : moreP (sideL xa xb)
          · rfl
          · rw [hL, hm] at h
            simp [orderB] at h
        refine marks_ext _ _ (asc_of_stamp h1) (asc_of_stamp h2) (pos_of_stamp h1) (pos_of_stamp h2) fun s => ?_
        have n1 : ¬ LtM xa xb := fun q => by rw [(less_iff h1 h2).2 q] at hL; cases hL
        have n2 : ¬ LtM xb xa := fun q => by rw [(more_iff h1 h2).2 q] at hM; cases hM
        have q1 : ¬ getV xa s < getV xb s := fun q => n1 ⟨s, q⟩
        have q2 : ¬ getV xb s < getV xa s := fun q => n2 ⟨s, q⟩
        omega
      · rintro rfl
        have n1 : lessP (sideL xa xa) = false := by
          cases hl : lessP (sideL xa xa)
          · rfl
          · obtain ⟨s, q⟩ := (less_iff h1 h2).1 hl
            omega
        have n2 : moreP (sideL xa xa) = false := by
          cases hl : moreP (sideL xa xa)
          · rfl
          · obtain ⟨s, q⟩ := (more_iff h1 h2).1 hl
            omega
        rw [n1, n2]
        simp [orderB]
theorem order_less_iff {xa xb : List MarkV} : orderOut xa xb = 1 ↔ mstampB xa = true ∧ mstampB xb = true ∧ LtM xa xb ∧ ¬ LtM xb xa := by
  unfold orderOut
  cases h1 : mstampB xa
  · simp
  · cases h2 : mstampB xb
    · simp
    · simp only [Bool.and_self, if_true, true_and]
      unfold orderS
      rw [← less_iff h1 h2, ← more_iff h1 h2]
      cases lessP (sideL xa xb) <;> cases moreP (sideL xa xb) <;> simp [orderB]
theorem order_join {xa xb xc : List MarkV} (h : orderOut xa xb = 1) (hj : joinOkB xb xc = true) : orderOut xa (joinL xb xc) = 1 := by
  rw [order_less_iff] at h ⊢
  obtain ⟨h1, h2, ⟨s, hs⟩, h4⟩ := h
  have hst := joinL_stamp hj
  simp only [joinOkB, Bool.and_eq_true, decide_eq_true_eq] at hj
  obtain ⟨⟨_, hc⟩, _⟩ := hj
  refine ⟨h1, hst, ⟨s, ?_⟩, ?_⟩
  · rw [joinL_get h2 hc]
    split <;> omega
  · rintro ⟨t, ht⟩
    rw [joinL_get h2 hc] at ht
    apply h4
    refine ⟨t, ?_⟩
    split at ht <;> omega
end Go.Proofs.Ytmgjohipblocmaa
