/-
  FrameSize of both sides.
-/
import Derived.Test.YtnildacialaagaaMerged8
set_option linter.unusedVariables false
namespace Go.Proofs.Ytnildacialaagaa
open Go.RowKit Go.Maps Go.Deep

theorem sz_none : frameSz [] = 0 := rfl
theorem sz_mark {bs : List UInt8} (h : 1 ≤ bs.length) (h2 : byN bs 0 ≠ 245) : frameSz bs = -1 := by simp [frameSz, h, h2]
theorem sz_few {bs : List UInt8} (h2 : byN bs 0 = 245) (h3 : bs.length < 3) : frameSz bs = 0 := by simp [frameSz, h2, h3]
theorem sz_else {bs : List UInt8} (h2 : byN bs 0 = 245) (h3 : ¬ bs.length < 3) : frameSz bs = if 1 ≤ headN bs ∧ headN bs ≤ 260 then headN bs + 5 else -1 := by simp [frameSz, h2, h3]
theorem headN_range (bs : List UInt8) : 0 ≤ headN bs ∧ headN bs ≤ 65535 := by
  have := byN_lt bs 1
  have := byN_lt bs 2
  unfold headN
  omega
set_option maxHeartbeats 3200000 in
theorem specSz_any (v : Value) (bs : List UInt8) (w : World) (hl : bs.length ≤ 1048576) (h : ByRd w v bs) : Calls Try.prog 36 #[v] w fun e w' => e = .returned (.int .i64 (frameSz bs)) ∧ w' = w := by
  obtain ⟨a, c, rfl, hin, hcap⟩ := h
  rcases hin with rfl | ⟨b, off, rfl, hb, hc⟩
  · go_enter Try.func36, Try.ntmps36
    go_wp2_with fail
    go_ret
    exact ⟨rfl, rfl⟩
  · by_cases h0 : bs.length = 0
    · obtain rfl := List.eq_nil_of_length_eq_zero h0
      go_enter Try.func36, Try.ntmps36
      go_wp2_with fail
      go_ret
      exact ⟨rfl, rfl⟩
    · have c0 : w.cell? ⟨b, off, none⟩ = some (.int .u8 (byN bs 0 : Int)) := byAt_byN hc 0 (by omega)
      have hn0 : (0 : Int) < (bs.length : Int) := by omega
      have i0 : 0 < bs.length := by omega
      have HG := hide (fun (v : Value) (W : World) (h3 : ¬ bs.length < 3) (h : ByRd W v (bs.drop 1)) => l9Get_any v (bs.drop 1) 2 W (by simp; omega) (by simp; omega) h)
      have HD := hide (cut_drop (.inr ⟨b, off, rfl, hb, hc⟩) hcap 1 (bs.length - 1) rfl (by omega))
      clear hc
      by_cases hm : byN bs 0 = 245
      · by_cases h3 : bs.length < 3
        · rw [sz_few hm h3]
          have h3' : (bs.length : Int) < 3 := by omega
          rw [hm] at c0
          clear hm h0 h3
          generalize bs.length = n at *
          go_enter Try.func36, Try.ntmps36
          go_wp2_with fail
          go_ret
          exact ⟨rfl, rfl⟩
        · rw [sz_else hm h3]
          have h3' : ¬ (bs.length : Int) < 3 := by omega
          have h1c : 1 ≤ c := by omega
          have h1n : 1 ≤ bs.length := by omega
          have hc1 : c ≠ 1 := by omega
          rw [hm] at c0
          have HN := hide (headN_num bs (by omega))
          obtain ⟨n0, n1⟩ := headN_range bs
          clear hm h0
          obtain ⟨R, HR⟩ : ∃ R, Hid ((if 1 ≤ headN bs ∧ headN bs ≤ 260 then headN bs + 5 else -1) = R) := ⟨_, rfl⟩
          rw [unhide HR]
          go_enter Try.func36, Try.ntmps36
          go_wp2_with fail
          refine (unhide HG _ _ h3 (unhide HD)).mono ?_
          rintro e w1 ⟨rfl, hw⟩
          rw [hw, unhide HN]
          generalize headN bs = q at *
          clear HN HG HD hw
          by_cases q1 : q < 1
          · have HR := hide ((if_neg (by omega)).symm.trans (unhide HR))
            go_wp2_with fail
            go_ret
            exact ⟨ret_int (unhide HR), rfl⟩
          · by_cases q2 : q ≤ 260
            · have HR := hide ((if_pos (by omega)).symm.trans (unhide HR))
              have q3 : ¬ 260 < q := by omega
              go_wp2_with fail
              go_ret
              exact ⟨ret_int (unhide HR), rfl⟩
            · have HR := hide ((if_neg (by omega)).symm.trans (unhide HR))
              have q3 : 260 < q := by omega
              go_wp2_with fail
              go_ret
              exact ⟨ret_int (unhide HR), rfl⟩
      · rw [sz_mark (by omega) hm]
        have hm' : ((byN bs 0 : Int) == 245) = false := by simp; omega
        clear h0
        generalize byN bs 0 = x at *
        generalize bs.length = n at *
        go_enter Try.func36, Try.ntmps36
        go_wp2_with fail
        go_ret
        exact ⟨rfl, rfl⟩
end Go.Proofs.Ytnildacialaagaa
