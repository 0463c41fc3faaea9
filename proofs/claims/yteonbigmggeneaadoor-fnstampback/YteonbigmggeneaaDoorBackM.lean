/-
  A stamp's text and its reading: mathematics.
-/
import Derived.Test.YteonbigmggeneaaDoorStRdP
set_option linter.unusedVariables false
namespace Go.Proofs.YteonbigmggeneaaDoor
open Go.RowKit Go.Maps Go.Deep

theorem small_rdT (t : ByteArray) : SmallMarkS (rdOut t) := by
  unfold rdOut
  split
  · rename_i h
    refine readM_small _ ?_
    have := h.1
    unfold rdOkB at this
    simp only [Bool.and_eq_true, decide_eq_true_eq] at this
    simpa using this.1
  · exact ⟨⟨by simp, by simp⟩, fun x hx => by cases hx⟩
theorem textOut_size (ns : List MarkV) : (textOut ns).size ≤ 400 := by
  unfold textOut
  split
  · rename_i h
    split
    · exact (by decide : ByteArray.size ⟨#[45]⟩ ≤ 400)
    · have := textTo_size h ns.length
      rw [textTo_all] at this
      omega
  · exact (by decide : ByteArray.size ⟨#[]⟩ ≤ 400)
theorem mstamp_nil : mstampB [] = true := by
  unfold mstampB
  simp [MStampTo]
theorem empty_bad : rdOkB ⟨#[]⟩ = false := by
  have h : mstampB (readM (⟨#[]⟩ : ByteArray).data.toList) = false := by
    refine mstamp_bad (k := 0) (by simp [readM, endSt]) ?_
    show markB ⟨⟨#[]⟩, looseV []⟩ = false
    unfold markB
    rw [plain_short _ (by decide)]
    rfl
  refine (rd_no (fun e => ?_) (.inl h)).1
  have := congrArg ByteArray.size e
  revert this
  decide
theorem markT_long (x : MarkV) (h : plainB x.a0 = true ∧ 1 ≤ x.a1 ∧ x.a1 ≤ 1099511627776) : 2 ≤ (markT x).size := by
  have h1 := markT_list x
  have hs : (markT x).size = (markT x).data.toList.length := by simp
  have h2 : 1 ≤ x.a0.size := by
    have := h.1
    unfold plainB at this
    simp only [Bool.and_eq_true, decide_eq_true_eq] at this
    exact this.1.1
  rw [hs, h1]
  simp
  omega
theorem back_out (ns : List MarkV) : rdOkB (textOut ns) = mstampB ns ∧ (mstampB ns = true → rdOut (textOut ns) = ns) := by
  cases hm : mstampB ns
  · refine ⟨?_, fun h => by cases h⟩
    unfold textOut
    rw [hm]
    exact empty_bad
  · by_cases h0 : ns.length = 0
    · have : ns = [] := List.eq_nil_of_length_eq_zero h0
      subst this
      have e : textOut [] = dashT := by
        unfold textOut
        rw [hm]; rfl
      rw [e]
      exact ⟨rd_dash.1, fun _ => rd_dash.2⟩
    · have e : textOut ns = stampT ns := by
        unfold textOut
        rw [hm, if_pos rfl, if_neg h0]
      have hne : ns ≠ [] := fun e => h0 (by rw [e]; rfl)
      have hr := read_back hm hne
      have hs : (stampT ns).size ≤ 400 := by rw [← e]; exact textOut_size ns
      have hd : stampT ns ≠ dashT := by
        intro ed
        have := cut_join 32 (stampT ns).data.toList
        cases ns with
        | nil => exact hne rfl
        | cons x r =>
          have hx := good_marks hm x (by simp)
          have h1 := stampT_list (x :: r)
          rw [List.map_cons, Lib.join_cons] at h1
          have h2 := congrArg List.length h1
          rw [ed] at h2
          have h3 := markT_long x hx
          have h4 : (markT x).size = (markT x).data.toList.length := by simp
          simp only [List.length_append] at h2
          have h5 : dashT.data.toList.length = 1 := rfl
          omega
      obtain ⟨k1, k2⟩ := rd_yes hs hd (by rw [hr]; exact hm) (by rw [hr])
      rw [e, k1, k2, hr]
      exact ⟨rfl, fun _ => rfl⟩
theorem out_back (t : ByteArray) (h : rdOkB t = true) : textOut (rdOut t) = t := by
  by_cases hd : t = dashT
  · subst hd
    rw [rd_dash.2]
    unfold textOut
    rw [mstamp_nil]
    rfl
  · have h2 := h
    unfold rdOkB at h2
    simp only [Bool.and_eq_true, Bool.or_eq_true, decide_eq_true_eq, hd, false_or] at h2
    have e : rdOut t = readM t.data.toList := by
      unfold rdOut
      rw [if_pos ⟨h, hd⟩]
    rw [e]
    unfold textOut
    rw [h2.2.1, if_pos rfl, if_neg (fun e => readM_ne _ (List.eq_nil_of_length_eq_zero e))]
    exact h2.2.2
end Go.Proofs.YteonbigmggeneaaDoor
