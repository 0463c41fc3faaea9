/-
  SaySum of both sides: the sum over bytes, from 7 on.
-/
/-
  Frames: how long one is by its head, what it is, and what it holds.
-/
/-
  FrameSize of both sides.
-/
/-
  FrameRead of the specification.
-/
import Derived.Test.YtlgmmibncoedgaaMerged1
import Derived.Test.YtlgmmibncoedgaaMerged5
import Derived.BigQuiet
import Derived.Deep.QuietTactic
import Derived.Handy
set_option linter.unusedVariables false
namespace Go.Proofs.Ytlgmmibncoedgaa
open Go.RowKit Go.Maps Go.Deep

def sumStep7 (s : Int) (c : UInt8) : Int := (s * 263 + (c.toNat : Int)) % 65521
def saySum (bs : List UInt8) : Int := bs.foldl sumStep7 7
theorem saySum_go (bs : List UInt8) (s : Int) (h : 0 ≤ s ∧ s < 65521) : 0 ≤ bs.foldl sumStep7 s ∧ bs.foldl sumStep7 s < 65521 := by
  induction bs generalizing s with
  | nil => exact h
  | cons c cs ih => exact ih _ (by unfold sumStep7; omega)
theorem saySum_range (bs : List UInt8) : 0 ≤ saySum bs ∧ saySum bs < 65521 := saySum_go bs 7 (by omega)
theorem saySum_take (bs : List UInt8) (k : Nat) (h : k < bs.length) : saySum (bs.take (k + 1)) = (saySum (bs.take k) * 263 + (bs[k].toNat : Int)) % 65521 := by
  rw [List.take_succ_eq_append_getElem h]
  unfold saySum
  rw [List.foldl_append]
  rfl

set_option maxHeartbeats 1600000 in
theorem specSSum_row (w : World) (b off cap : Nat) (bs : List UInt8) (hl : bs.length ≤ maxLen) (hc : ByAt w b off bs) :
    Calls Try.prog 37 #[.slice (some ⟨b, off, none⟩) bs.length cap] w fun e w' => e = .returned (.int .i64 (saySum bs)) ∧ w' = w := by
  unfold maxLen at hl
  have HC := hide hc
  clear hc
  go_enter Try.func37, Try.ntmps37
  go_wp2_with fail
  go_loop [3, 4] (fun s i => ∃ k : Nat, k ≤ bs.length ∧ i = .int .i64 k ∧ s = .int .i64 (saySum (bs.take k))) (fun _ i => bs.length - (intOf i).toNat)
  case atStart => exact ⟨0, Nat.zero_le _, rfl, rfl⟩
  case round =>
    obtain ⟨k, hk, rfl, rfl⟩ := hrel
    by_cases hlt : k < bs.length
    · have c0 := unhide HC k hlt
      obtain ⟨r0, r1⟩ := saySum_range (bs.take k)
      have HN := hide (saySum_take bs k hlt)
      have hx0 := UInt8.toNat_lt bs[k]
      generalize saySum (bs.take k) = s at *
      generalize bs[k].toNat = x at *
      go_wp2_with fail
      go_round
      case rel => exact ⟨k + 1, by omega, by go_num, by rw [unhide HN]⟩
      case measure => simp [intOf]; omega
    · go_wp2_with fail
      go_ret
      exact ⟨ret_int (by rw [List.take_of_length_le (by omega)]), rfl⟩
theorem specSSum_none (w : World) (a : Option Addr) (cap : Nat) : Calls Try.prog 37 #[.slice a 0 cap] w fun e w' => e = .returned (.int .i64 7) ∧ w' = w := by
  go_enter Try.func37, Try.ntmps37
  go_wp2
  refine wp_loop_rounds 1 ?_
  rw [rounds_succ]
  go_wp2
  go_ret
  exact ⟨rfl, rfl⟩
theorem specSSum_any (w : World) (v : Value) (bs : List UInt8) (hl : bs.length ≤ maxLen) (h : ByRd w v bs) : Calls Try.prog 37 #[v] w fun e w' => e = .returned (.int .i64 (saySum bs)) ∧ w' = w := by
  obtain ⟨a, cap, rfl, h, _⟩ := h
  rcases h with rfl | ⟨b, off, rfl, hb, hc⟩
  · exact specSSum_none w a cap
  · exact specSSum_row w b off cap bs hl hc

set_option maxHeartbeats 1600000 in
theorem overSSum_row (w : World) (b off cap : Nat) (bs : List UInt8) (hl : bs.length ≤ maxLen) (hc : ByAt w b off bs) :
    Calls Try.prog 64 #[.slice (some ⟨b, off, none⟩) bs.length cap, .int .i64 7, .int .i64 263] w fun e w' => e = .returned (.int .i64 (saySum bs)) ∧ w' = w := by
  unfold maxLen at hl
  have HC := hide hc
  clear hc
  go_enter Try.func64, Try.ntmps64
  go_wp2_with fail
  go_loop [7, 13] (fun s i => ∃ k : Nat, k ≤ bs.length ∧ i = .int .i64 k ∧ s = .int .i64 (saySum (bs.take k))) (fun _ i => bs.length - (intOf i).toNat)
  case atStart => exact ⟨0, Nat.zero_le _, rfl, rfl⟩
  case round =>
    obtain ⟨k, hk, rfl, rfl⟩ := hrel
    by_cases hlt : k < bs.length
    · have c0 := unhide HC k hlt
      obtain ⟨r0, r1⟩ := saySum_range (bs.take k)
      have HN := hide (saySum_take bs k hlt)
      have hx0 := UInt8.toNat_lt bs[k]
      generalize saySum (bs.take k) = s at *
      generalize bs[k].toNat = x at *
      go_wp2_with fail
      go_round
      case rel => exact ⟨k + 1, by omega, by go_num, by rw [unhide HN]⟩
      case measure => simp [intOf]; omega
    · go_wp2_with fail
      go_ret
      exact ⟨ret_int (by rw [List.take_of_length_le (by omega)]), rfl⟩
theorem overSSum_none (w : World) (a : Option Addr) (cap : Nat) : Calls Try.prog 64 #[.slice a 0 cap, .int .i64 7, .int .i64 263] w fun e w' => e = .returned (.int .i64 7) ∧ w' = w := by
  go_enter Try.func64, Try.ntmps64
  go_wp2
  refine wp_loop_rounds 1 ?_
  rw [rounds_succ]
  go_wp2
  go_ret
  exact ⟨rfl, rfl⟩
theorem overSSum_any (w : World) (v : Value) (bs : List UInt8) (hl : bs.length ≤ maxLen) (h : ByRd w v bs) : Calls Try.prog 64 #[v, .int .i64 7, .int .i64 263] w fun e w' => e = .returned (.int .i64 (saySum bs)) ∧ w' = w := by
  obtain ⟨a, cap, rfl, h, _⟩ := h
  rcases h with rfl | ⟨b, off, rfl, hb, hc⟩
  · exact overSSum_none w a cap
  · exact overSSum_row w b off cap bs hl hc

theorem implSSum_any (w : World) (v : Value) (bs : List UInt8) (hl : bs.length ≤ maxLen) (h : ByRd w v bs) : Calls Try.prog 33 #[v] w fun e w' => e = .returned (.int .i64 (saySum bs)) ∧ w' = w := by
  have HO := hide (fun W (h : ByRd W v bs) => overSSum_any W v bs hl h)
  have HH := hide h
  clear h hl
  go_enter Try.func33, Try.ntmps33
  go_wp2_with fail
  refine (unhide HO _ (unhide HH)).mono ?_
  rintro e w1 ⟨rfl, hw⟩
  rw [hw]
  go_wp2_with fail
  go_ret
  exact ⟨rfl, rfl⟩
end Go.Proofs.Ytlgmmibncoedgaa

set_option linter.unusedVariables false
namespace Go.Proofs.Ytlgmmibncoedgaa
open Go.RowKit Go.Maps Go.Deep

def byN (bs : List UInt8) (i : Nat) : Nat := (bs.getD i 0).toNat
theorem byN_lt (bs : List UInt8) (i : Nat) : byN bs i < 256 := UInt8.toNat_lt _
theorem byAt_byN {w : World} {b off : Nat} {bs : List UInt8} (h : ByAt w b off bs) (i : Nat) (hi : i < bs.length) : w.cell? ⟨b, off + i, none⟩ = some (.int .u8 (byN bs i : Int)) := by
  have := h i hi
  unfold byN
  rw [List.getD_eq_getElem?_getD, List.getElem?_eq_getElem hi]
  exact this
/-- how long the body is, by the second and third byte -/
def headN (bs : List UInt8) : Int := (byN bs 1 : Int) * 256 + (byN bs 2 : Int)
def frameSz (bs : List UInt8) : Int := if 1 ≤ bs.length ∧ byN bs 0 ≠ 245 then -1 else if bs.length < 3 then 0 else if 1 ≤ headN bs ∧ headN bs ≤ 260 then headN bs + 5 else -1
theorem headN_num (bs : List UInt8) (h : 3 ≤ bs.length) : numL ((bs.drop 1).take 2) = headN bs := by
  match bs, h with
  | a :: b :: c :: t, _ =>
    have := UInt8.toNat_lt b
    have := UInt8.toNat_lt c
    rw [numL_val]
    simp only [List.drop, List.take, valN, List.foldl, headN, byN, List.getD_cons_succ, List.getD_cons_zero]
    unfold wrap64
    omega
/-- what one has behind the head and ahead of the sum -/
def frameBody (bs : List UInt8) : List UInt8 := (bs.drop 3).take (bs.length - 5)
def frameOk (bs : List UInt8) : Bool := decide (6 ≤ bs.length) && decide (frameSz bs = bs.length) && decide (saySum (bs.take (bs.length - 2)) = numL (bs.drop (bs.length - 2)))
def frameOut (bs : List UInt8) : List UInt8 := if frameOk bs then frameBody bs else []
def frameHd (body : List UInt8) : List UInt8 := (245 : UInt8) :: beL (body.length : Int) 2
def frameFitB (body : List UInt8) : Bool := decide (1 ≤ body.length) && decide (body.length ≤ 260)
def frameL (body : List UInt8) : List UInt8 := if frameFitB body then (frameHd body ++ body) ++ beL (saySum (frameHd body ++ body)) 2 else []
end Go.Proofs.Ytlgmmibncoedgaa

set_option linter.unusedVariables false
namespace Go.Proofs.Ytlgmmibncoedgaa
open Go.RowKit Go.Maps Go.Deep

theorem sz_none : frameSz [] = 0 := rfl
theorem sz_mark {bs : List UInt8} (h : 1 ≤ bs.length) (h2 : byN bs 0 ≠ 245) : frameSz bs = -1 := by simp [frameSz, h, h2]
theorem sz_few {bs : List UInt8} (h2 : byN bs 0 = 245) (h3 : bs.length < 3) : frameSz bs = 0 := by simp [frameSz, h2, h3]
theorem sz_else {bs : List UInt8} (h2 : byN bs 0 = 245) (h3 : ¬ bs.length < 3) : frameSz bs = if 1 ≤ headN bs ∧ headN bs ≤ 260 then headN bs + 5 else -1 := by simp [frameSz, h2, h3]
theorem headN_range (bs : List UInt8) : 0 ≤ headN bs ∧ headN bs ≤ 65535 := by
  have := byN_lt bs 1
  have := byN_lt bs 2
  unfold headN
  omega
set_option maxHeartbeats 3200000 in
theorem specSz_any (v : Value) (bs : List UInt8) (w : World) (hl : bs.length ≤ 1048576) (h : ByRd w v bs) : Calls Try.prog 83 #[v] w fun e w' => e = .returned (.int .i64 (frameSz bs)) ∧ w' = w := by
  obtain ⟨a, c, rfl, hin, hcap⟩ := h
  rcases hin with rfl | ⟨b, off, rfl, hb, hc⟩
  · go_enter Try.func83, Try.ntmps83
    go_wp2_with fail
    go_ret
    exact ⟨rfl, rfl⟩
  · by_cases h0 : bs.length = 0
    · obtain rfl := List.eq_nil_of_length_eq_zero h0
      go_enter Try.func83, Try.ntmps83
      go_wp2_with fail
      go_ret
      exact ⟨rfl, rfl⟩
    · have c0 : w.cell? ⟨b, off, none⟩ = some (.int .u8 (byN bs 0 : Int)) := byAt_byN hc 0 (by omega)
      have hn0 : (0 : Int) < (bs.length : Int) := by omega
      have i0 : 0 < bs.length := by omega
      have HG := hide (fun (v : Value) (W : World) (h3 : ¬ bs.length < 3) (h : ByRd W v (bs.drop 1)) => l9Get_any v (bs.drop 1) 2 W (by simp; omega) (by simp; omega) h)
      have HD := hide (cut_drop (.inr ⟨b, off, rfl, hb, hc⟩) hcap 1 (bs.length - 1) rfl (by omega))
      clear hc
      by_cases hm : byN bs 0 = 245
      · by_cases h3 : bs.length < 3
        · rw [sz_few hm h3]
          have h3' : (bs.length : Int) < 3 := by omega
          rw [hm] at c0
          clear hm h0 h3
          generalize bs.length = n at *
          go_enter Try.func83, Try.ntmps83
          go_wp2_with fail
          go_ret
          exact ⟨rfl, rfl⟩
        · rw [sz_else hm h3]
          have h3' : ¬ (bs.length : Int) < 3 := by omega
          have h1c : 1 ≤ c := by omega
          have h1n : 1 ≤ bs.length := by omega
          have hc1 : c ≠ 1 := by omega
          rw [hm] at c0
          have HN := hide (headN_num bs (by omega))
          obtain ⟨n0, n1⟩ := headN_range bs
          clear hm h0
          obtain ⟨R, HR⟩ : ∃ R, Hid ((if 1 ≤ headN bs ∧ headN bs ≤ 260 then headN bs + 5 else -1) = R) := ⟨_, rfl⟩
          rw [unhide HR]
          go_enter Try.func83, Try.ntmps83
          go_wp2_with fail
          refine (unhide HG _ _ h3 (unhide HD)).mono ?_
          rintro e w1 ⟨rfl, hw⟩
          rw [hw, unhide HN]
          generalize headN bs = q at *
          clear HN HG HD hw
          by_cases q1 : q < 1
          · have HR := hide ((if_neg (by omega)).symm.trans (unhide HR))
            go_wp2_with fail
            go_ret
            exact ⟨ret_int (unhide HR), rfl⟩
          · by_cases q2 : q ≤ 260
            · have HR := hide ((if_pos (by omega)).symm.trans (unhide HR))
              have q3 : ¬ 260 < q := by omega
              go_wp2_with fail
              go_ret
              exact ⟨ret_int (unhide HR), rfl⟩
            · have HR := hide ((if_neg (by omega)).symm.trans (unhide HR))
              have q3 : 260 < q := by omega
              go_wp2_with fail
              go_ret
              exact ⟨ret_int (unhide HR), rfl⟩
      · rw [sz_mark (by omega) hm]
        have hm' : ((byN bs 0 : Int) == 245) = false := by simp; omega
        clear h0
        generalize byN bs 0 = x at *
        generalize bs.length = n at *
        go_enter Try.func83, Try.ntmps83
        go_wp2_with fail
        go_ret
        exact ⟨rfl, rfl⟩
end Go.Proofs.Ytlgmmibncoedgaa

set_option linter.unusedVariables false
namespace Go.Proofs.Ytlgmmibncoedgaa
open Go.RowKit Go.Maps Go.Deep

theorem frameOut_len (bs : List UInt8) : (frameOut bs).length ≤ bs.length := by
  unfold frameOut frameBody
  split
  · simp; omega
  · simp
theorem sz_cases (bs : List UInt8) : frameSz bs = -1 ∨ frameSz bs = 0 ∨ (6 ≤ frameSz bs ∧ frameSz bs ≤ 265) := by
  unfold frameSz
  split
  · exact .inl rfl
  · split
    · exact .inr (.inl rfl)
    · split
      · right; right; omega
      · exact .inl rfl
theorem ok_no {bs : List UInt8} (h : frameSz bs < 1 ∨ frameSz bs ≠ bs.length) : frameOk bs = false := by
  unfold frameOk
  rcases sz_cases bs with e | e | e
  · simp; omega
  · simp; omega
  · simp; omega
set_option maxHeartbeats 3200000 in
theorem specFRead_row (bs : List UInt8) (v : Value) (w : World) (hl : bs.length ≤ 1048576) (h : ByRd w v bs) :
    Calls Try.prog 84 #[v] w fun e w' => ∃ v, e = .returned (.tuple #[v, .bool (frameOk bs)]) ∧ Hid (ByRow w.heap.size w' v (frameOut bs)) ∧ Below w.heap.size w w' := by
  have HR := hide h
  obtain ⟨a, c, rfl, hin, hcap⟩ := h
  have HS := hide (specSz_any _ bs w hl (unhide HR))
  by_cases g0 : frameSz bs < 1 ∨ frameSz bs ≠ bs.length
  · have HB := hide (ok_no g0)
    have HV := hide (show frameOut bs = [] by simp [frameOut, unhide HB])
    by_cases g1 : frameSz bs < 1
    · go_enter Try.func84, Try.ntmps84
      go_wp2_with fail
      refine (unhide HS).mono ?_
      rintro e w1 ⟨rfl, hw⟩
      rw [hw]
      clear hw w1 g0 HS
      generalize frameSz bs = q at *
      go_wp2_with fail
      have d1 : decide (q < 1) = true := by simpa using g1
      go_quiet (fail)
      go_wp2_with fail
      go_ret2
      exact ⟨_, by rw [unhide HB]; rfl, by rw [unhide HV]; exact ByRow.nil _ _, belowN _ _⟩
    · have g2 : frameSz bs ≠ bs.length := by omega
      have g3 : (frameSz bs == (bs.length : Int)) = false := by simp [g2]
      have g4 : (frameSz bs != (bs.length : Int)) = true := by simp [g2]
      go_enter Try.func84, Try.ntmps84
      go_wp2_with fail
      refine (unhide HS).mono ?_
      rintro e w1 ⟨rfl, hw⟩
      rw [hw]
      clear hw w1 g0 HS g2 hin
      generalize frameSz bs = q at *
      go_wp2_with fail
      have d1 : decide (q < 1) = false := by simpa using g1
      go_quiet (fail)
      go_wp2_with fail
      go_ret2
      exact ⟨_, by rw [unhide HB]; rfl, by rw [unhide HV]; exact ByRow.nil _ _, belowN _ _⟩
  · have g1 : ¬ frameSz bs < 1 := by omega
    have g2 : frameSz bs = bs.length := by omega
    have h6 : 6 ≤ bs.length := by rcases sz_cases bs with e | e | e <;> omega
    rw [g2] at HS
    obtain ⟨b, off, rfl, hb, hc⟩ : ∃ b off, a = some ⟨b, off, none⟩ ∧ b < w.heap.size ∧ ByAt w b off bs := by
      rcases hin with h0 | h0
      · rw [h0] at h6; simp at h6
      · exact h0
    obtain ⟨m, hm⟩ : ∃ m, bs.length = m + 2 := ⟨bs.length - 2, by omega⟩
    have HT := hide (cut_take (.inr ⟨b, off, rfl, hb, hc⟩) hcap m (by omega))
    have HD := hide (show ByRd w (.slice (some ⟨b, off + m, none⟩) (bs.length - m) (c - m)) (bs.drop m) by
      have hm0 : m ≠ 0 := by omega
      have := cut_drop (.inr ⟨b, off, rfl, hb, hc⟩) hcap m (bs.length - m) rfl (by omega)
      simpa [Addr.add, hm0] using this)
    have d7 : ¬ c = m := by omega
    have HX := hide (show ByRd w (.slice (some ⟨b, off + 3, none⟩) (m - 3) (c - 3)) ((bs.drop 3).take (m - 3)) by
      have h1 := cut_drop (.inr ⟨b, off, rfl, hb, hc⟩) hcap 3 (bs.length - 3) rfl (by omega)
      obtain ⟨a', c', e', hin', hc'⟩ := h1
      simp only [Value.slice.injEq] at e'
      obtain ⟨ea, _, ec⟩ := e'
      rw [← ea] at hin'
      rw [← ec] at hc'
      have h2 := cut_take hin' hc' (m - 3) (by simp; omega)
      simpa [Addr.add] using h2)
    have HM := hide ((cut_take (.inr ⟨b, off, rfl, hb, hc⟩) hcap m (by omega)))
    have HSUM := hide (fun v W h => specSSum_any W v (bs.take m) (by simp; unfold maxLen; omega) h)
    have HGET := hide (fun v W h => l9Get_any v (bs.drop m) 2 W (by simp; omega) (by simp; omega) h)
    have HE2 := hide (show (bs.drop m).take 2 = bs.drop m from List.take_of_length_le (by simp; omega))
    rw [unhide HE2] at HGET
    have HOK := hide (show decide (saySum (bs.take m) = numL (bs.drop m)) = frameOk bs by
      have e1 : bs.length - 2 = m := by omega
      unfold frameOk
      rw [e1, show decide (6 ≤ bs.length) = true by simpa using h6, show decide (frameSz bs = bs.length) = true by simpa using g2]
      simp)
    have HOUT := hide (show frameBody bs = (bs.drop 3).take (m - 3) by unfold frameBody; congr 1; omega)
    have hm4 : 4 ≤ m := by omega
    have hml : m ≤ 1048576 := by omega
    have hsub : (bs.length : Int) - 2 = (m : Int) := by omega
    have d1 : decide ((bs.length : Int) < 1) = false := by simp; omega
    have d3 : (m : Int) ≤ (c : Int) := by omega
    have d4 : (m : Int) ≤ (bs.length : Int) := by omega
    have d5 : (bs.length : Int) ≤ (c : Int) := by omega
    have d6 : m < c := by omega
    clear hm hcap hl h6 g0 g1 g2 HR hin hc HM
    generalize bs.length = n at *
    go_enter Try.func84, Try.ntmps84
    go_wp2_with fail
    refine (unhide HS).mono ?_
    rintro e w1 ⟨rfl, hw⟩
    rw [hw]
    clear hw w1 HS
    have d2 : ((n : Int) != (n : Int)) = false := by simp
    have hwr : IntKind.i64.wrap (m : Int) = (m : Int) := wrap_small _ (by omega) (by omega)
    go_wp2_with fail
    go_quiet (first
      | (go_at_call 37; refine Calls.quiet_of_same (unhide HSUM _ _ ?_); exact ByRd.up (unhide HT) (belowN _ _))
      | (go_at_call 95; refine Calls.quiet_of_same (unhide HGET _ _ ?_); exact ByRd.up (unhide HD) (belowN _ _)))
    by_cases he : saySum (bs.take m) = numL (bs.drop m)
    · have hne : (saySum (bs.take m) != numL (bs.drop m)) = false := by simp [he]
      have HB := hide ((unhide HOK).symm.trans (decide_eq_true he))
      have HV := hide (show frameOut bs = (bs.drop 3).take (m - 3) by simp only [frameOut, unhide HB, if_true]; exact unhide HOUT)
      have R0 := hide (byLit (w.drewN nq) w.heap.size (Nat.le_refl _))
      have B0 := hide (show Below w.heap.size w ((w.drewN nq).alloc (.cells #[] 5)) from (belowN w nq).alloc (Nat.le_refl _) _)
      have hn3 : (3 : Int) ≤ (m : Int) := by omega
      have d8 : ¬ c = 3 := by omega
      have HLL := hide (show ([] : List UInt8).length + ((bs.drop 3).take (m - 3)).length ≤ 140737488355328 by simp; omega)
      clear he HOK HOUT HSUM HGET HT HD HE2
      go_wp2_with (first
        | (at_builtin; refine wpList_byAppend rfl _ _ rfl w.heap.size _ _ [] ((bs.drop 3).take (m - 3)) rfl rfl (unhide R0) ((unhide HX).up (unhide B0)) (unhide HLL) (unhide B0).size ?_; intro a2 c2 w2 r2 g2 _; generalize (([] : List UInt8).length + ((bs.drop 3).take (m - 3)).length) = n2 at *; have R2 := hide r2; have B2 := hide ((unhide B0).grown g2 (unhide B0).size (fun y hy => (unhide R0).ge y hy)); clear r2 g2)
        | fail)
      go_ret2
      exact ⟨_, by rw [unhide HB]; rfl, by rw [unhide HV]; exact unhide R2, unhide B2⟩
    · have hne : (saySum (bs.take m) != numL (bs.drop m)) = true := by simpa using he
      have HB := hide ((unhide HOK).symm.trans (decide_eq_false he))
      have HV := hide (show frameOut bs = [] by simp [frameOut, unhide HB])
      clear he HOK HOUT HSUM HGET HT HD HE2
      go_wp2_with fail
      go_ret2
      exact ⟨_, by rw [unhide HB]; rfl, by rw [unhide HV]; exact ByRow.nil _ _, belowN _ _⟩
theorem specFRead_any (bs : List UInt8) (v : Value) (w : World) (hl : bs.length ≤ 1048576) (h : ByRd w v bs) :
    Calls Try.prog 84 #[v] w fun e w' => ∃ v, e = .returned (.tuple #[v, .bool (frameOk bs)]) ∧ Hid (ByRd w' v (frameOut bs)) ∧ Below w.heap.size w w' := by
  refine (specFRead_row bs v w hl h).mono ?_
  rintro e w' ⟨v', h1, h2, h3⟩
  exact ⟨v', h1, hide (unhide h2).rd, h3⟩
end Go.Proofs.Ytlgmmibncoedgaa
