/-
  FrameRead of the specification.
-/
import Derived.Test.YtlgmmibncoedgaaMerged4
import Derived.BigQuiet
import Derived.Deep.QuietTactic
import Derived.Handy
set_option linter.unusedVariables false
namespace Go.Proofs.Ytlgmmibncoedgaa
open Go.RowKit Go.Maps Go.Deep

theorem frameOut_len (bs : List UInt8) : (frameOut bs).length ≤ bs.length := by
  unfold frameOut frameBody
  split
  · simp; omega
  · simp
theorem sz_cases (bs : List UInt8) : frameSz bs = -1 ∨ frameSz bs = 0 ∨ (6 ≤ frameSz bs ∧ frameSz bs ≤ 265) := by
  unfold frameSz
  split
  · exact .inl rfl
  · split
    · exact .inr (.inl rfl)
    · split
      · right; right; omega
      · exact .inl rfl
theorem ok_no {bs : List UInt8} (h : frameSz bs < 1 ∨ frameSz bs ≠ bs.length) : frameOk bs = false := by
  unfold frameOk
  rcases sz_cases bs with e | e | e
  · simp; omega
  · simp; omega
  · simp; omega
set_option maxHeartbeats 3200000 in
theorem specFRead_row (bs : List UInt8) (v : Value) (w : World) (hl : bs.length ≤ 1048576) (h : ByRd w v bs) :
    Calls Try.prog 84 #[v] w fun e w' => ∃ v, e = .returned (.tuple #[v, .bool (frameOk bs)]) ∧ Hid (ByRow w.heap.size w' v (frameOut bs)) ∧ Below w.heap.size w w' := by
  have HR := hide h
  obtain ⟨a, c, rfl, hin, hcap⟩ := h
  have HS := hide (specSz_any _ bs w hl (unhide HR))
  by_cases g0 : frameSz bs < 1 ∨ frameSz bs ≠ bs.length
  · have HB := hide (ok_no g0)
    have HV := hide (show frameOut bs = [] by simp [frameOut, unhide HB])
    by_cases g1 : frameSz bs < 1
    · go_enter Try.func84, Try.ntmps84
      go_wp2_with fail
      refine (unhide HS).mono ?_
      rintro e w1 ⟨rfl, hw⟩
      rw [hw]
      clear hw w1 g0 HS
      generalize frameSz bs = q at *
      go_wp2_with fail
      have d1 : decide (q < 1) = true := by simpa using g1
      go_quiet (fail)
      go_wp2_with fail
      go_ret2
      exact ⟨_, by rw [unhide HB]; rfl, by rw [unhide HV]; exact ByRow.nil _ _, belowN _ _⟩
    · have g2 : frameSz bs ≠ bs.length := by omega
      have g3 : (frameSz bs == (bs.length : Int)) = false := by simp [g2]
      have g4 : (frameSz bs != (bs.length : Int)) = true := by simp [g2]
      go_enter Try.func84, Try.ntmps84
      go_wp2_with fail
      refine (unhide HS).mono ?_
      rintro e w1 ⟨rfl, hw⟩
      rw [hw]
      clear hw w1 g0 HS g2 hin
      generalize frameSz bs = q at *
      go_wp2_with fail
      have d1 : decide (q < 1) = false := by simpa using g1
      go_quiet (fail)
      go_wp2_with fail
      go_ret2
      exact ⟨_, by rw [unhide HB]; rfl, by rw [unhide HV]; exact ByRow.nil _ _, belowN _ _⟩
  · have g1 : ¬ frameSz bs < 1 := by omega
    have g2 : frameSz bs = bs.length := by omega
    have h6 : 6 ≤ bs.length := by rcases sz_cases bs with e | e | e <;> omega
    rw [g2] at HS
    obtain ⟨b, off, rfl, hb, hc⟩ : ∃ b off, a = some ⟨b, off, none⟩ ∧ b < w.heap.size ∧ ByAt w b off bs := by
      rcases hin with h0 | h0
      · rw [h0] at h6; simp at h6
      · exact h0
    obtain ⟨m, hm⟩ : ∃ m, bs.length = m + 2 := ⟨bs.length - 2, by omega⟩
    have HT := hide (cut_take (.inr ⟨b, off, rfl, hb, hc⟩) hcap m (by omega))
    have HD := hide (show ByRd w (.slice (some ⟨b, off + m, none⟩) (bs.length - m) (c - m)) (bs.drop m) by
      have hm0 : m ≠ 0 := by omega
      have := cut_drop (.inr ⟨b, off, rfl, hb, hc⟩) hcap m (bs.length - m) rfl (by omega)
      simpa [Addr.add, hm0] using this)
    have d7 : ¬ c = m := by omega
    have HX := hide (show ByRd w (.slice (some ⟨b, off + 3, none⟩) (m - 3) (c - 3)) ((bs.drop 3).take (m - 3)) by
      have h1 := cut_drop (.inr ⟨b, off, rfl, hb, hc⟩) hcap 3 (bs.length - 3) rfl (by omega)
      obtain ⟨a', c', e', hin', hc'⟩ := h1
      simp only [Value.slice.injEq] at e'
      obtain ⟨ea, _, ec⟩ := e'
      rw [← ea] at hin'
      rw [← ec] at hc'
      have h2 := cut_take hin' hc' (m - 3) (by simp; omega)
      simpa [Addr.add] using h2)
    have HM := hide ((cut_take (.inr ⟨b, off, rfl, hb, hc⟩) hcap m (by omega)))
    have HSUM := hide (fun v W h => specSSum_any W v (bs.take m) (by simp; unfold maxLen; omega) h)
    have HGET := hide (fun v W h => l9Get_any v (bs.drop m) 2 W (by simp; omega) (by simp; omega) h)
    have HE2 := hide (show (bs.drop m).take 2 = bs.drop m from List.take_of_length_le (by simp; omega))
    rw [unhide HE2] at HGET
    have HOK := hide (show decide (saySum (bs.take m) = numL (bs.drop m)) = frameOk bs by
      have e1 : bs.length - 2 = m := by omega
      unfold frameOk
      rw [e1, show decide (6 ≤ bs.length) = true by simpa using h6, show decide (frameSz bs = bs.length) = true by simpa using g2]
      simp)
    have HOUT := hide (show frameBody bs = (bs.drop 3).take (m - 3) by unfold frameBody; congr 1; omega)
    have hm4 : 4 ≤ m := by omega
    have hml : m ≤ 1048576 := by omega
    have hsub : (bs.length : Int) - 2 = (m : Int) := by omega
    have d1 : decide ((bs.length : Int) < 1) = false := by simp; omega
    have d3 : (m : Int) ≤ (c : Int) := by omega
    have d4 : (m : Int) ≤ (bs.length : Int) := by omega
    have d5 : (bs.length : Int) ≤ (c : Int) := by omega
    have d6 : m < c := by omega
    clear hm hcap hl h6 g0 g1 g2 HR hin hc HM
    generalize bs.length = n at *
    go_enter Try.func84, Try.ntmps84
    go_wp2_with fail
    refine (unhide HS).mono ?_
    rintro e w1 ⟨rfl, hw⟩
    rw [hw]
    clear hw w1 HS
    have d2 : ((n : Int) != (n : Int)) = false := by simp
    have hwr : IntKind.i64.wrap (m : Int) = (m : Int) := wrap_small _ (by omega) (by omega)
    go_wp2_with fail
    go_quiet (first
      | (go_at_call 37; refine Calls.quiet_of_same (unhide HSUM _ _ ?_); exact ByRd.up (unhide HT) (belowN _ _))
      | (go_at_call 95; refine Calls.quiet_of_same (unhide HGET _ _ ?_); exact ByRd.up (unhide HD) (belowN _ _)))
    by_cases he : saySum (bs.take m) = numL (bs.drop m)
    · have hne : (saySum (bs.take m) != numL (bs.drop m)) = false := by simp [he]
      have HB := hide ((unhide HOK).symm.trans (decide_eq_true he))
      have HV := hide (show frameOut bs = (bs.drop 3).take (m - 3) by simp only [frameOut, unhide HB, if_true]; exact unhide HOUT)
      have R0 := hide (byLit (w.drewN nq) w.heap.size (Nat.le_refl _))
      have B0 := hide (show Below w.heap.size w ((w.drewN nq).alloc (.cells #[] 5)) from (belowN w nq).alloc (Nat.le_refl _) _)
      have hn3 : (3 : Int) ≤ (m : Int) := by omega
      have d8 : ¬ c = 3 := by omega
      have HLL := hide (show ([] : List UInt8).length + ((bs.drop 3).take (m - 3)).length ≤ 140737488355328 by simp; omega)
      clear he HOK HOUT HSUM HGET HT HD HE2
      go_wp2_with (first
        | (at_builtin; refine wpList_byAppend rfl _ _ rfl w.heap.size _ _ [] ((bs.drop 3).take (m - 3)) rfl rfl (unhide R0) ((unhide HX).up (unhide B0)) (unhide HLL) (unhide B0).size ?_; intro a2 c2 w2 r2 g2 _; generalize (([] : List UInt8).length + ((bs.drop 3).take (m - 3)).length) = n2 at *; have R2 := hide r2; have B2 := hide ((unhide B0).grown g2 (unhide B0).size (fun y hy => (unhide R0).ge y hy)); clear r2 g2)
        | fail)
      go_ret2
      exact ⟨_, by rw [unhide HB]; rfl, by rw [unhide HV]; exact unhide R2, unhide B2⟩
    · have hne : (saySum (bs.take m) != numL (bs.drop m)) = true := by simpa using he
      have HB := hide ((unhide HOK).symm.trans (decide_eq_false he))
      have HV := hide (show frameOut bs = [] by simp [frameOut, unhide HB])
      clear he HOK HOUT HSUM HGET HT HD HE2
      go_wp2_with fail
      go_ret2
      exact ⟨_, by rw [unhide HB]; rfl, by rw [unhide HV]; exact ByRow.nil _ _, belowN _ _⟩
theorem specFRead_any (bs : List UInt8) (v : Value) (w : World) (hl : bs.length ≤ 1048576) (h : ByRd w v bs) :
    Calls Try.prog 84 #[v] w fun e w' => ∃ v, e = .returned (.tuple #[v, .bool (frameOk bs)]) ∧ Hid (ByRd w' v (frameOut bs)) ∧ Below w.heap.size w w' := by
  refine (specFRead_row bs v w hl h).mono ?_
  rintro e w' ⟨v', h1, h2, h3⟩
  exact ⟨v', h1, hide (unhide h2).rd, h3⟩
end Go.Proofs.Ytlgmmibncoedgaa
