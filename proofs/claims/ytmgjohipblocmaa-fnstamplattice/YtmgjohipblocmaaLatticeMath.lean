/-
  The join of two stamps is the least one that is not below either: the mathematics.
-/
import Derived.Test.YtmgjohipblocmaaOrderMath
set_option linter.unusedVariables false
namespace Go.Proofs.Ytmgjohipblocmaa
open Go.RowKit Go.Maps Go.Deep

theorem less_self {s : ByteArray} (h : lessS s s = true) : False := by
  rw [less_irrefl] at h
  cases h
/-- whose sources are all among another's is no longer -/
theorem asc_len : ∀ (ys xs : List MarkV), AscM xs → AscM ys → (∀ x ∈ xs, srcIn x.a0 ys) → xs.length ≤ ys.length
  | [], xs, _, _, h => by
    cases xs with
    | nil => simp
    | cons x t =>
      obtain ⟨y, hy, _⟩ := h x (by simp)
      simp at hy
  | y :: t, [], _, _, _ => by simp
  | y :: t, x :: s, ha, hb, h => by
    by_cases e : x.a0 = y.a0
    · have := asc_len t s ha.2 hb.2 (fun z hz => by
        obtain ⟨u, hu, eu⟩ := h z (by simp [hz])
        rcases List.mem_cons.1 hu with rfl | hu
        · have := ha.1 z hz
          rw [e, eu] at this
          exact absurd this (fun q => less_self q)
        · exact ⟨u, hu, eu⟩)
      simp only [List.length_cons]
      omega
    · have hx : srcIn x.a0 t := by
        obtain ⟨u, hu, eu⟩ := h x (by simp)
        rcases List.mem_cons.1 hu with rfl | hu
        · exact absurd eu.symm e
        · exact ⟨u, hu, eu⟩
      have hyx := srcIn_above hb.1 hx
      have := asc_len t (x :: s) ha hb.2 (fun z hz => by
        obtain ⟨u, hu, eu⟩ := h z hz
        rcases List.mem_cons.1 hu with rfl | hu
        · exfalso
          rcases List.mem_cons.1 hz with rfl | hz
          · exact e eu.symm
          · have h2 := less_trans hyx (ha.1 z hz)
            rw [← eu] at h2
            exact less_self h2
        · exact ⟨u, hu, eu⟩)
      simp only [List.length_cons] at this ⊢
      omega
theorem src_pos {ns : List MarkV} (h : mstampB ns = true) (s : ByteArray) : srcIn s ns ↔ 0 < getV ns s := by
  constructor
  · intro hs
    have := getV_pos (asc_of_stamp h) (pos_of_stamp h) hs
    omega
  · intro hs
    exact getV_in (by omega)
theorem joinL_src2 {xa xb : List MarkV} (ha : mstampB xa = true) (hb : mstampB xb = true) (s : ByteArray) : srcIn s (joinL xa xb) ↔ srcIn s xa ∨ srcIn s xb := by
  obtain ⟨h1, h2⟩ := joinL_asc ha hb
  have n1 := getV_nonneg (pos_of_stamp ha) s
  have n2 := getV_nonneg (pos_of_stamp hb) s
  rw [src_pos ha, src_pos hb]
  constructor
  · intro h
    have := getV_pos h1 h2 h
    rw [joinL_get ha hb] at this
    split at this <;> omega
  · intro h
    refine getV_in ?_
    rw [joinL_get ha hb]
    split <;> omega
/-- stamps of one length whose versions are the same -/
theorem join_eq {x y : List MarkV} (hx : AscM x ∧ PosM x) (hy : AscM y ∧ PosM y) (h : ∀ s, getV x s = getV y s) : x = y := marks_ext _ _ hx.1 hy.1 hx.2 hy.2 h
theorem joinL_comm {xa xb : List MarkV} (ha : mstampB xa = true) (hb : mstampB xb = true) : joinL xa xb = joinL xb xa :=
  join_eq (joinL_asc ha hb) (joinL_asc hb ha) fun s => by
    rw [joinL_get ha hb, joinL_get hb ha]
    split <;> split <;> omega
theorem joinOk_comm (xa xb : List MarkV) : joinOkB xa xb = joinOkB xb xa ∧ joinV xa xb = joinV xb xa := by
  have h : joinOkB xa xb = joinOkB xb xa := by
    unfold joinOkB
    cases ha : mstampB xa
    · simp
    · cases hb : mstampB xb
      · simp
      · rw [joinL_comm ha hb]
  refine ⟨h, ?_⟩
  unfold joinV
  rw [h]
  cases hh : joinOkB xb xa
  · simp
  · simp only [if_true]
    have h2 := hh
    simp only [joinOkB, Bool.and_eq_true] at h2
    exact joinL_comm h2.1.2 h2.1.1
/-- at most -/
def Le01 (o : Int) : Prop := o = 0 ∨ o = 1
theorem le_iff {xa xb : List MarkV} : Le01 (orderOut xa xb) ↔ mstampB xa = true ∧ mstampB xb = true ∧ ∀ s, getV xa s ≤ getV xb s := by
  unfold Le01 orderOut
  cases h1 : mstampB xa
  · simp
  · cases h2 : mstampB xb
    · simp
    · simp only [Bool.and_self, if_true, true_and]
      have hm := more_iff h1 h2
      unfold orderS
      constructor
      · intro h s
        have : moreP (sideL xa xb) = false := by
          cases hmm : moreP (sideL xa xb)
          · rfl
          · rw [hmm] at h
            cases hl : lessP (sideL xa xb) <;> rw [hl] at h <;> simp [orderB] at h
        rw [this] at hm
        have hn : ¬ LtM xb xa := fun q => by cases hm.2 q
        have : ¬ getV xb s < getV xa s := fun q => hn ⟨s, q⟩
        omega
      · intro h
        have : moreP (sideL xa xb) = false := by
          cases hmm : moreP (sideL xa xb)
          · rfl
          · obtain ⟨s, q⟩ := hm.1 hmm
            have := h s
            omega
        rw [this]
        cases lessP (sideL xa xb) <;> simp [orderB]
theorem join_parts {xa xb : List MarkV} (h : joinOkB xa xb = true) : mstampB xa = true ∧ mstampB xb = true ∧ (joinL xa xb).length ≤ 12 ∧ joinV xa xb = joinL xa xb := by
  have h2 := h
  simp only [joinOkB, Bool.and_eq_true, decide_eq_true_eq] at h2
  exact ⟨h2.1.1, h2.1.2, h2.2, by simp [joinV, h]⟩
theorem join_above {xa xb : List MarkV} (h : joinOkB xa xb = true) : Le01 (orderOut xa (joinV xa xb)) ∧ Le01 (orderOut xb (joinV xa xb)) := by
  obtain ⟨ha, hb, _, e⟩ := join_parts h
  rw [e, le_iff, le_iff]
  have hj := joinL_stamp h
  refine ⟨⟨ha, hj, fun s => ?_⟩, hb, hj, fun s => ?_⟩
  · rw [joinL_get ha hb]; split <;> omega
  · rw [joinL_get ha hb]; split <;> omega
theorem join_self {xa xb : List MarkV} (h : joinOkB xa xb = true) : joinOkB (joinV xa xb) (joinV xa xb) = true ∧ joinV (joinV xa xb) (joinV xa xb) = joinV xa xb := by
  obtain ⟨ha, hb, hl, e⟩ := join_parts h
  have hj := joinL_stamp h
  have es : joinL (joinL xa xb) (joinL xa xb) = joinL xa xb := join_eq (joinL_asc hj hj) (joinL_asc ha hb) fun s => by
    rw [joinL_get hj hj]
    split <;> rfl
  rw [e]
  have hk : joinOkB (joinL xa xb) (joinL xa xb) = true := by
    simp only [joinOkB, Bool.and_eq_true, decide_eq_true_eq]
    exact ⟨⟨hj, hj⟩, by rw [es]; exact hl⟩
  refine ⟨hk, ?_⟩
  rw [(join_parts hk).2.2.2, es]
theorem join_least {xa xb xc : List MarkV} (h : joinOkB xa xb = true) (h1 : Le01 (orderOut xa xc)) (h2 : Le01 (orderOut xb xc)) : Le01 (orderOut (joinV xa xb) xc) := by
  obtain ⟨ha, hb, _, e⟩ := join_parts h
  rw [le_iff] at h1 h2 ⊢
  rw [e]
  refine ⟨joinL_stamp h, h1.2.1, fun s => ?_⟩
  rw [joinL_get ha hb]
  have := h1.2.2 s
  have := h2.2.2 s
  split <;> omega
theorem join_no {xa xb xc : List MarkV} (h : joinOkB xa xb = true) (hn : joinOkB xb xc = false) : joinOkB (joinV xa xb) xc = false := by
  obtain ⟨ha, hb, _, e⟩ := join_parts h
  rw [e]
  have hj := joinL_stamp h
  cases hc : mstampB xc
  · simp [joinOkB, hc]
  · simp only [joinOkB, hb, hc, hj, Bool.and_self, Bool.true_and, decide_eq_false_iff_not] at hn ⊢
    intro hl
    apply hn
    refine Nat.le_trans (asc_len _ _ (joinL_asc hb hc).1 (joinL_asc hj hc).1 fun x hx => ?_) hl
    rw [joinL_src2 hj hc, joinL_src2 ha hb]
    rcases (joinL_src2 hb hc x.a0).1 ⟨x, hx, rfl⟩ with q | q
    · exact .inl (.inr q)
    · exact .inr q
theorem join_assoc {xa xb xc : List MarkV} (h : joinOkB xa xb = true) (hm : joinOkB xb xc = true) : joinOkB (joinV xa xb) xc = joinOkB xa (joinV xb xc) ∧ joinV (joinV xa xb) xc = joinV xa (joinV xb xc) := by
  obtain ⟨ha, hb, _, e⟩ := join_parts h
  obtain ⟨_, hc, _, e2⟩ := join_parts hm
  have hj := joinL_stamp h
  have hk := joinL_stamp hm
  rw [e, e2]
  have es : joinL (joinL xa xb) xc = joinL xa (joinL xb xc) := join_eq (joinL_asc hj hc) (joinL_asc ha hk) fun s => by
    rw [joinL_get hj hc, joinL_get ha hb, joinL_get ha hk, joinL_get hb hc]
    (repeat' split) <;> omega
  have ho : joinOkB (joinL xa xb) xc = joinOkB xa (joinL xb xc) := by
    unfold joinOkB
    rw [hj, hc, ha, hk, es]
  refine ⟨ho, ?_⟩
  unfold joinV
  rw [ho, es]
end Go.Proofs.Ytmgjohipblocmaa
