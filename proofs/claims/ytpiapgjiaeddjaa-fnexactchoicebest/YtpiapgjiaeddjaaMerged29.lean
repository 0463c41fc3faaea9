/-
  When two stamps agree: the mathematics.
-/
/-
  How two stamps stand: the mathematics.
-/
import Derived.Test.YtpiapgjiaeddjaaMerged28
import Derived.Test.YtpiapgjiaeddjaaMerged10
import Derived.Test.YtpiapgjiaeddjaaOrderI
set_option linter.unusedVariables false
namespace Go.Proofs.Ytpiapgjiaeddjaa
open Go.RowKit Go.Maps Go.Deep

theorem eqMk_iff (xs ys : List MarkV) : eqMk xs ys = true ↔ xs = ys := by unfold eqMk; exact decide_eq_true_iff
theorem getV_in {ns : List MarkV} {s : ByteArray} (h : getV ns s ≠ 0) : ∃ x ∈ ns, x.a0 = s := by
  refine Classical.byContradiction fun hn => h (getV_none fun x hx e => hn ⟨x, hx, e⟩)
def Agr (xa xb : List MarkV) : Prop := ∀ s, 0 < getV xa s → 0 < getV xb s → getV xa s = getV xb s
theorem bad_iff (xa xb : List MarkV) (s : ByteArray) : badP (pairOf xa xb s) = true ↔ 0 < getV xa s ∧ 0 < getV xb s ∧ getV xa s ≠ getV xb s := by
  unfold badP pairOf
  dsimp only
  rw [str_same]
  simp [and_assoc]
theorem agree_iff {xa xb : List MarkV} (ha : AscM xa) (hb : AscM xb) : agreeS xa xb = true ↔ Agr xa xb := by
  unfold agreeS
  rw [List.all_eq_true]
  constructor
  · intro h s h1 h2
    refine Classical.byContradiction fun hn => ?_
    obtain ⟨x, hx, e⟩ := getV_in (ns := xa) (s := s) (by omega)
    have hp := h (pairOf xa xb s) ((side_mem xa xb ha hb _).2 ⟨s, .inl ⟨x, hx, e⟩, rfl⟩)
    rw [(bad_iff xa xb s).2 ⟨h1, h2, hn⟩] at hp
    cases hp
  · intro h p hp
    obtain ⟨s, _, rfl⟩ := (side_mem xa xb ha hb p).1 hp
    cases hbd : badP (pairOf xa xb s)
    · rfl
    · obtain ⟨h1, h2, h3⟩ := (bad_iff xa xb s).1 hbd
      exact absurd (h s h1 h2) h3
theorem agree_comm (xa xb : List MarkV) : agreeOut xa xb = agreeOut xb xa := by
  unfold agreeOut
  cases h1 : mstampB xa
  · cases mstampB xb <;> simp
  · cases h2 : mstampB xb
    · simp
    · simp only [Bool.true_and]
      rw [Bool.eq_iff_iff, agree_iff (asc_of_stamp h1) (asc_of_stamp h2), agree_iff (asc_of_stamp h2) (asc_of_stamp h1)]
      exact ⟨fun h s a b => (h s b a).symm, fun h s a b => (h s b a).symm⟩
theorem joinL_get {xa xb : List MarkV} (ha : mstampB xa = true) (hb : mstampB xb = true) (s : ByteArray) : getV (joinL xa xb) s = if getV xa s < getV xb s then getV xb s else getV xa s := by
  rw [← join_same ha hb]
  exact join_get (pos_of_stamp hb) (asc_of_stamp hb) (asc_of_stamp ha) (pos_of_stamp ha) s
theorem joinL_asc {xa xb : List MarkV} (ha : mstampB xa = true) (hb : mstampB xb = true) : AscM (joinL xa xb) ∧ PosM (joinL xa xb) := by
  rw [← join_same ha hb]
  have := join_inv (out := xa) (ys := xb) (pos_of_stamp hb) (asc_of_stamp ha) (pos_of_stamp ha)
  exact ⟨this.1, this.2.1⟩
theorem getV_mark {ns : List MarkV} (h : mstampB ns = true) {s : ByteArray} (hs : getV ns s ≠ 0) : markB ⟨s, getV ns s⟩ = true := by
  obtain ⟨x, hx, rfl⟩ := getV_in hs
  rw [getV_mem (asc_of_stamp h) hx]
  exact ((stamp_iff ns).1 h).2.1 x hx
theorem joinL_stamp {xa xb : List MarkV} (h : joinOkB xa xb = true) : mstampB (joinL xa xb) = true := by
  simp only [joinOkB, Bool.and_eq_true, decide_eq_true_eq] at h
  obtain ⟨⟨ha, hb⟩, hl⟩ := h
  obtain ⟨h1, h2⟩ := joinL_asc ha hb
  rw [stamp_iff]
  refine ⟨hl, fun x hx => ?_, h1⟩
  have e := getV_mem h1 hx
  rw [joinL_get ha hb] at e
  have hp := h2 x hx
  have hx' : x = ⟨x.a0, x.a1⟩ := rfl
  rw [hx', ← e]
  split
  · rename_i hlt
    exact getV_mark hb (by have := getV_nonneg (pos_of_stamp ha) x.a0; omega)
  · rename_i hlt
    rw [if_neg hlt] at e
    exact getV_mark ha (by omega)
def namesM (ns : List MarkV) : List ByteArray := ns.map (·.a0)
theorem has_names {ns : List MarkV} {s : ByteArray} : hasB (namesM ns) s = true ↔ ∃ x ∈ ns, x.a0 = s := by
  unfold hasB namesM
  simp
theorem getV_onlyN (names : List ByteArray) (ns : List MarkV) (s : ByteArray) : getV (onlyL names ns) s = if hasB names s then getV ns s else 0 := by
  cases h : hasB names s
  · simp only [Bool.false_eq_true, if_false]
    refine getV_none fun x hx e => ?_
    have := (List.mem_filter.1 hx).2
    rw [e, h] at this
    cases this
  · simp only [if_true]
    exact getV_only names h ns
/-- a stamp is cut out of another one just if that one has its versions -/
theorem only_eq {xa j : List MarkV} (ha : mstampB xa = true) (hj : mstampB j = true) : onlyV j (namesM xa) = xa ↔ ∀ x ∈ xa, getV j x.a0 = x.a1 := by
  unfold onlyV
  rw [if_pos hj]
  have aA := asc_of_stamp ha
  have aJ := asc_of_stamp hj
  constructor
  · intro h x hx
    have e := getV_onlyN (namesM xa) j x.a0
    rw [h, getV_mem aA hx, if_pos (has_names.2 ⟨x, hx, rfl⟩)] at e
    exact e.symm
  · intro h
    refine marks_ext _ _ (asc_filter _ aJ) aA (fun x hx => pos_of_stamp hj x (List.mem_filter.1 hx).1) (pos_of_stamp ha) fun s => ?_
    rw [getV_onlyN]
    cases hs : hasB (namesM xa) s
    · simp only [Bool.false_eq_true, if_false]
      refine (getV_none fun x hx e => ?_).symm
      rw [has_names.2 ⟨x, hx, e⟩] at hs
      cases hs
    · simp only [if_true]
      obtain ⟨x, hx, rfl⟩ := has_names.1 hs
      rw [h x hx, getV_mem aA hx]
theorem agree_only {xa xb : List MarkV} (h : joinOkB xa xb = true) : agreeOut xa xb = (eqMk (onlyV (joinL xa xb) (namesM xa)) xa && eqMk (onlyV (joinL xa xb) (namesM xb)) xb) := by
  have hj := joinL_stamp h
  simp only [joinOkB, Bool.and_eq_true, decide_eq_true_eq] at h
  obtain ⟨⟨ha, hb⟩, _⟩ := h
  unfold agreeOut
  rw [ha, hb]
  simp only [Bool.true_and]
  rw [Bool.eq_iff_iff, agree_iff (asc_of_stamp ha) (asc_of_stamp hb)]
  simp only [Bool.and_eq_true, eqMk_iff]
  rw [only_eq ha hj, only_eq hb hj]
  have pa := pos_of_stamp ha
  have pb := pos_of_stamp hb
  constructor
  · intro hA
    refine ⟨fun x hx => ?_, fun x hx => ?_⟩
    · rw [joinL_get ha hb]
      have e := getV_mem (asc_of_stamp ha) hx
      have := pa x hx
      by_cases hz : 0 < getV xb x.a0
      · have := hA x.a0 (by omega) hz
        rw [if_neg (by omega), e]
      · rw [if_neg (by omega), e]
    · rw [joinL_get ha hb]
      have e := getV_mem (asc_of_stamp hb) hx
      have := pb x hx
      by_cases hz : 0 < getV xa x.a0
      · have := hA x.a0 hz (by omega)
        rw [if_neg (by omega)]
        omega
      · rw [if_pos (by omega), e]
  · rintro ⟨h1, h2⟩ s p1 p2
    obtain ⟨x, hx, rfl⟩ := getV_in (ns := xa) (s := s) (by omega)
    obtain ⟨y, hy, e⟩ := getV_in (ns := xb) (s := x.a0) (by omega)
    have q1 := h1 x hx
    have q2 := h2 y hy
    rw [joinL_get ha hb] at q1 q2
    rw [e] at q2
    have e1 := getV_mem (asc_of_stamp ha) hx
    have e2 := getV_mem (asc_of_stamp hb) hy
    rw [e] at e2
    split at q1 <;> omega
end Go.Proofs.Ytpiapgjiaeddjaa

set_option linter.unusedVariables false
namespace Go.Proofs.Ytpiapgjiaeddjaa
open Go.RowKit Go.Maps Go.Deep

def LtM (xa xb : List MarkV) : Prop := ∃ s, getV xa s < getV xb s
theorem less_iff {xa xb : List MarkV} (ha : mstampB xa = true) (hb : mstampB xb = true) : lessP (sideL xa xb) = true ↔ LtM xa xb := by
  unfold lessP LtM
  rw [List.any_eq_true]
  constructor
  · rintro ⟨p, hp, hd⟩
    obtain ⟨s, _, rfl⟩ := (side_mem xa xb (asc_of_stamp ha) (asc_of_stamp hb) p).1 hp
    exact ⟨s, of_decide_eq_true hd⟩
  · rintro ⟨s, h⟩
    have h0 := getV_nonneg (pos_of_stamp ha) s
    obtain ⟨x, hx, e⟩ := getV_in (ns := xb) (s := s) (by omega)
    exact ⟨pairOf xa xb s, (side_mem xa xb (asc_of_stamp ha) (asc_of_stamp hb) _).2 ⟨s, .inr ⟨x, hx, e⟩, rfl⟩, decide_eq_true h⟩
theorem more_iff {xa xb : List MarkV} (ha : mstampB xa = true) (hb : mstampB xb = true) : moreP (sideL xa xb) = true ↔ LtM xb xa := by
  unfold moreP LtM
  rw [List.any_eq_true]
  constructor
  · rintro ⟨p, hp, hd⟩
    obtain ⟨s, _, rfl⟩ := (side_mem xa xb (asc_of_stamp ha) (asc_of_stamp hb) p).1 hp
    exact ⟨s, of_decide_eq_true hd⟩
  · rintro ⟨s, h⟩
    have h0 := getV_nonneg (pos_of_stamp hb) s
    obtain ⟨x, hx, e⟩ := getV_in (ns := xa) (s := s) (by omega)
    exact ⟨pairOf xa xb s, (side_mem xa xb (asc_of_stamp ha) (asc_of_stamp hb) _).2 ⟨s, .inl ⟨x, hx, e⟩, rfl⟩, decide_eq_true h⟩
theorem side_swap {xa xb : List MarkV} (ha : mstampB xa = true) (hb : mstampB xb = true) : lessP (sideL xb xa) = moreP (sideL xa xb) ∧ moreP (sideL xb xa) = lessP (sideL xa xb) := by
  constructor
  · rw [Bool.eq_iff_iff, less_iff hb ha, more_iff ha hb]
  · rw [Bool.eq_iff_iff, more_iff hb ha, less_iff ha hb]
/-- what the other side tells -/
def swapO (o : Int) : Int := if o = 1 then 2 else if o = 2 then 1 else o
theorem order_swap (xa xb : List MarkV) : orderOut xb xa = swapO (orderOut xa xb) := by
  unfold orderOut
  cases h1 : mstampB xa
  · cases mstampB xb <;> simp [swapO]
  · cases h2 : mstampB xb
    · simp [swapO]
    · simp only [Bool.and_self, if_true]
      unfold orderS
      obtain ⟨e1, e2⟩ := side_swap h1 h2
      rw [e1, e2]
      cases lessP (sideL xa xb) <;> cases moreP (sideL xa xb) <;> simp [orderB, swapO]
theorem order_range (xa xb : List MarkV) : 0 ≤ orderOut xa xb ∧ orderOut xa xb ≤ 4 := by
  unfold orderOut orderS
  cases mstampB xa <;> cases mstampB xb <;> simp
  cases lessP (sideL xa xb) <;> cases moreP (sideL xa xb) <;> simp [orderB]
theorem order_same (xa xb : List MarkV) : (orderOut xa xb == 0) = (mstampB xa && eqMk xa xb) := by
  rw [Bool.eq_iff_iff]
  simp only [beq_iff_eq, Bool.and_eq_true, eqMk_iff]
  unfold orderOut
  cases h1 : mstampB xa
  · simp
  · cases h2 : mstampB xb
    · simp
      rintro rfl
      rw [h1] at h2
      cases h2
    · simp only [Bool.and_self, if_true, true_and]
      unfold orderS
      constructor
      · intro h
        have hL : lessP (sideL xa xb) = false := by
          cases hl : lessP (sideL xa xb)
          · rfl
          · rw [hl] at h
            cases hm : moreP (sideL xa xb) <;> rw [hm] at h <;> simp [orderB] at h
        have hM : moreP (sideL xa xb) = false := by
          cases hm : moreP (sideL xa xb)
          · rfl
          · rw [hL, hm] at h
            simp [orderB] at h
        refine marks_ext _ _ (asc_of_stamp h1) (asc_of_stamp h2) (pos_of_stamp h1) (pos_of_stamp h2) fun s => ?_
        have n1 : ¬ LtM xa xb := fun q => by rw [(less_iff h1 h2).2 q] at hL; cases hL
        have n2 : ¬ LtM xb xa := fun q => by rw [(more_iff h1 h2).2 q] at hM; cases hM
        have q1 : ¬ getV xa s < getV xb s := fun q => n1 ⟨s, q⟩
        have q2 : ¬ getV xb s < getV xa s := fun q => n2 ⟨s, q⟩
        omega
      · rintro rfl
        have n1 : lessP (sideL xa xa) = false := by
          cases hl : lessP (sideL xa xa)
          · rfl
          · obtain ⟨s, q⟩ := (less_iff h1 h2).1 hl
            omega
        have n2 : moreP (sideL xa xa) = false := by
          cases hl : moreP (sideL xa xa)
          · rfl
          · obtain ⟨s, q⟩ := (more_iff h1 h2).1 hl
            omega
        rw [n1, n2]
        simp [orderB]
theorem order_less_iff {xa xb : List MarkV} : orderOut xa xb = 1 ↔ mstampB xa = true ∧ mstampB xb = true ∧ LtM xa xb ∧ ¬ LtM xb xa := by
  unfold orderOut
  cases h1 : mstampB xa
  · simp
  · cases h2 : mstampB xb
    · simp
    · simp only [Bool.and_self, if_true, true_and]
      unfold orderS
      rw [← less_iff h1 h2, ← more_iff h1 h2]
      cases lessP (sideL xa xb) <;> cases moreP (sideL xa xb) <;> simp [orderB]
theorem order_join {xa xb xc : List MarkV} (h : orderOut xa xb = 1) (hj : joinOkB xb xc = true) : orderOut xa (joinL xb xc) = 1 := by
  rw [order_less_iff] at h ⊢
  obtain ⟨h1, h2, ⟨s, hs⟩, h4⟩ := h
  have hst := joinL_stamp hj
  simp only [joinOkB, Bool.and_eq_true, decide_eq_true_eq] at hj
  obtain ⟨⟨_, hc⟩, _⟩ := hj
  refine ⟨h1, hst, ⟨s, ?_⟩, ?_⟩
  · rw [joinL_get h2 hc]
    split <;> omega
  · rintro ⟨t, ht⟩
    rw [joinL_get h2 hc] at ht
    apply h4
    refine ⟨t, ?_⟩
    split at ht <;> omega
end Go.Proofs.Ytpiapgjiaeddjaa
