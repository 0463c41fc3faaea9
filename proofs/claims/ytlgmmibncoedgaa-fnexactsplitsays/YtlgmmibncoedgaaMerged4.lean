/-
  SaySum of both sides: the sum over bytes, from 7 on.
-/
/-
  Frames: how long one is by its head, what it is, and what it holds.
-/
/-
  FrameSize of both sides.
-/
import Derived.Test.YtlgmmibncoedgaaBytes
import Derived.Test.YtlgmmibncoedgaaMerged8
set_option linter.unusedVariables false
namespace Go.Proofs.Ytlgmmibncoedgaa
open Go.RowKit Go.Maps Go.Deep

def sumStep7 (s : Int) (c : UInt8) : Int := (s * 263 + (c.toNat : Int)) % 65521
def saySum (bs : List UInt8) : Int := bs.foldl sumStep7 7
theorem saySum_go (bs : List UInt8) (s : Int) (h : 0 ≤ s ∧ s < 65521) : 0 ≤ bs.foldl sumStep7 s ∧ bs.foldl sumStep7 s < 65521 := by
  induction bs generalizing s with
  | nil => exact h
  | cons c cs ih => exact ih _ (by unfold sumStep7; omega)
theorem saySum_range (bs : List UInt8) : 0 ≤ saySum bs ∧ saySum bs < 65521 := saySum_go bs 7 (by omega)
theorem saySum_take (bs : List UInt8) (k : Nat) (h : k < bs.length) : saySum (bs.take (k + 1)) = (saySum (bs.take k) * 263 + (bs[k].toNat : Int)) % 65521 := by
  rw [List.take_succ_eq_append_getElem h]
  unfold saySum
  rw [List.foldl_append]
  rfl

set_option maxHeartbeats 1600000 in
theorem specSSum_row (w : World) (b off cap : Nat) (bs : List UInt8) (hl : bs.length ≤ maxLen) (hc : ByAt w b off bs) :
    Calls Try.prog 37 #[.slice (some ⟨b, off, none⟩) bs.length cap] w fun e w' => e = .returned (.int .i64 (saySum bs)) ∧ w' = w := by
  unfold maxLen at hl
  have HC := hide hc
  clear hc
  go_enter Try.func37, Try.ntmps37
  go_wp2_with fail
  go_loop [3, 4] (fun s i => ∃ k : Nat, k ≤ bs.length ∧ i = .int .i64 k ∧ s = .int .i64 (saySum (bs.take k))) (fun _ i => bs.length - (intOf i).toNat)
  case atStart => exact ⟨0, Nat.zero_le _, rfl, rfl⟩
  case round =>
    obtain ⟨k, hk, rfl, rfl⟩ := hrel
    by_cases hlt : k < bs.length
    · have c0 := unhide HC k hlt
      obtain ⟨r0, r1⟩ := saySum_range (bs.take k)
      have HN := hide (saySum_take bs k hlt)
      have hx0 := UInt8.toNat_lt bs[k]
      generalize saySum (bs.take k) = s at *
      generalize bs[k].toNat = x at *
      go_wp2_with fail
      go_round
      case rel => exact ⟨k + 1, by omega, by go_num, by rw [unhide HN]⟩
      case measure => simp [intOf]; omega
    · go_wp2_with fail
      go_ret
      exact ⟨ret_int (by rw [List.take_of_length_le (by omega)]), rfl⟩
theorem specSSum_none (w : World) (a : Option Addr) (cap : Nat) : Calls Try.prog 37 #[.slice a 0 cap] w fun e w' => e = .returned (.int .i64 7) ∧ w' = w := by
  go_enter Try.func37, Try.ntmps37
  go_wp2
  refine wp_loop_rounds 1 ?_
  rw [rounds_succ]
  go_wp2
  go_ret
  exact ⟨rfl, rfl⟩
theorem specSSum_any (w : World) (v : Value) (bs : List UInt8) (hl : bs.length ≤ maxLen) (h : ByRd w v bs) : Calls Try.prog 37 #[v] w fun e w' => e = .returned (.int .i64 (saySum bs)) ∧ w' = w := by
  obtain ⟨a, cap, rfl, h, _⟩ := h
  rcases h with rfl | ⟨b, off, rfl, hb, hc⟩
  · exact specSSum_none w a cap
  · exact specSSum_row w b off cap bs hl hc

set_option maxHeartbeats 1600000 in
theorem overSSum_row (w : World) (b off cap : Nat) (bs : List UInt8) (hl : bs.length ≤ maxLen) (hc : ByAt w b off bs) :
    Calls Try.prog 64 #[.slice (some ⟨b, off, none⟩) bs.length cap, .int .i64 7, .int .i64 263] w fun e w' => e = .returned (.int .i64 (saySum bs)) ∧ w' = w := by
  unfold maxLen at hl
  have HC := hide hc
  clear hc
  go_enter Try.func64, Try.ntmps64
  go_wp2_with fail
  go_loop [7, 13] (fun s i => ∃ k : Nat, k ≤ bs.length ∧ i = .int .i64 k ∧ s = .int .i64 (saySum (bs.take k))) (fun _ i => bs.length - (intOf i).toNat)
  case atStart => exact ⟨0, Nat.zero_le _, rfl, rfl⟩
  case round =>
    obtain ⟨k, hk, rfl, rfl⟩ := hrel
    by_cases hlt : k < bs.length
    · have c0 := unhide HC k hlt
      obtain ⟨r0, r1⟩ := saySum_range (bs.take k)
      have HN := hide (saySum_take bs k hlt)
      have hx0 := UInt8.toNat_lt bs[k]
      generalize saySum (bs.take k) = s at *
      generalize bs[k].toNat = x at *
      go_wp2_with fail
      go_round
      case rel => exact ⟨k + 1, by omega, by go_num, by rw [unhide HN]⟩
      case measure => simp [intOf]; omega
    · go_wp2_with fail
      go_ret
      exact ⟨ret_int (by rw [List.take_of_length_le (by omega)]), rfl⟩
theorem overSSum_none (w : World) (a : Option Addr) (cap : Nat) : Calls Try.prog 64 #[.slice a 0 cap, .int .i64 7, .int .i64 263] w fun e w' => e = .returned (.int .i64 7) ∧ w' = w := by
  go_enter Try.func64, Try.ntmps64
  go_wp2
  refine wp_loop_rounds 1 ?_
  rw [rounds_succ]
  go_wp2
  go_ret
  exact ⟨rfl, rfl⟩
theorem overSSum_any (w : World) (v : Value) (bs : List UInt8) (hl : bs.length ≤ maxLen) (h : ByRd w v bs) : Calls Try.prog 64 #[v, .int .i64 7, .int .i64 263] w fun e w' => e = .returned (.int .i64 (saySum bs)) ∧ w' = w := by
  obtain ⟨a, cap, rfl, h, _⟩ := h
  rcases h with rfl | ⟨b, off, rfl, hb, hc⟩
  · exact overSSum_none w a cap
  · exact overSSum_row w b off cap bs hl hc

theorem implSSum_any (w : World) (v : Value) (bs : List UInt8) (hl : bs.length ≤ maxLen) (h : ByRd w v bs) : Calls Try.prog 33 #[v] w fun e w' => e = .returned (.int .i64 (saySum bs)) ∧ w' = w := by
  have HO := hide (fun W (h : ByRd W v bs) => overSSum_any W v bs hl h)
  have HH := hide h
  clear h hl
  go_enter Try.func33, Try.ntmps33
  go_wp2_with fail
  refine (unhide HO _ (unhide HH)).mono ?_
  rintro e w1 ⟨rfl, hw⟩
  rw [hw]
  go_wp2_with fail
  go_ret
  exact ⟨rfl, rfl⟩
end Go.Proofs.Ytlgmmibncoedgaa

set_option linter.unusedVariables false
namespace Go.Proofs.Ytlgmmibncoedgaa
open Go.RowKit Go.Maps Go.Deep

def byN (bs : List UInt8) (i : Nat) : Nat := (bs.getD i 0).toNat
theorem byN_lt (bs : List UInt8) (i : Nat) : byN bs i < 256 := UInt8.toNat_lt _
theorem byAt_byN {w : World} {b off : Nat} {bs : List UInt8} (h : ByAt w b off bs) (i : Nat) (hi : i < bs.length) : w.cell? ⟨b, off + i, none⟩ = some (.int .u8 (byN bs i : Int)) := by
  have := h i hi
  unfold byN
  rw [List.getD_eq_getElem?_getD, List.getElem?_eq_getElem hi]
  exact this
/-- how long the body is, by the second and third byte -/
def headN (bs : List UInt8) : Int := (byN bs 1 : Int) * 256 + (byN bs 2 : Int)
def frameSz (bs : List UInt8) : Int := if 1 ≤ bs.length ∧ byN bs 0 ≠ 245 then -1 else if bs.length < 3 then 0 else if 1 ≤ headN bs ∧ headN bs ≤ 260 then headN bs + 5 else -1
theorem headN_num (bs : List UInt8) (h : 3 ≤ bs.length) : numL ((bs.drop 1).take 2) = headN bs := by
  match bs, h with
  | a :: b :: c :: t, _ =>
    have := UInt8.toNat_lt b
    have := UInt8.toNat_lt c
    rw [numL_val]
    simp only [List.drop, List.take, valN, List.foldl, headN, byN, List.getD_cons_succ, List.getD_cons_zero]
    unfold wrap64
    omega
/-- what one has behind the head and ahead of the sum -/
def frameBody (bs : List UInt8) : List UInt8 := (bs.drop 3).take (bs.length - 5)
def frameOk (bs : List UInt8) : Bool := decide (6 ≤ bs.length) && decide (frameSz bs = bs.length) && decide (saySum (bs.take (bs.length - 2)) = numL (bs.drop (bs.length - 2)))
def frameOut (bs : List UInt8) : List UInt8 := if frameOk bs then frameBody bs else []
def frameHd (body : List UInt8) : List UInt8 := (245 : UInt8) :: beL (body.length : Int) 2
def frameFitB (body : List UInt8) : Bool := decide (1 ≤ body.length) && decide (body.length ≤ 260)
def frameL (body : List UInt8) : List UInt8 := if frameFitB body then (frameHd body ++ body) ++ beL (saySum (frameHd body ++ body)) 2 else []
end Go.Proofs.Ytlgmmibncoedgaa

set_option linter.unusedVariables false
namespace Go.Proofs.Ytlgmmibncoedgaa
open Go.RowKit Go.Maps Go.Deep

theorem sz_none : frameSz [] = 0 := rfl
theorem sz_mark {bs : List UInt8} (h : 1 ≤ bs.length) (h2 : byN bs 0 ≠ 245) : frameSz bs = -1 := by simp [frameSz, h, h2]
theorem sz_few {bs : List UInt8} (h2 : byN bs 0 = 245) (h3 : bs.length < 3) : frameSz bs = 0 := by simp [frameSz, h2, h3]
theorem sz_else {bs : List UInt8} (h2 : byN bs 0 = 245) (h3 : ¬ bs.length < 3) : frameSz bs = if 1 ≤ headN bs ∧ headN bs ≤ 260 then headN bs + 5 else -1 := by simp [frameSz, h2, h3]
theorem headN_range (bs : List UInt8) : 0 ≤ headN bs ∧ headN bs ≤ 65535 := by
  have := byN_lt bs 1
  have := byN_lt bs 2
  unfold headN
  omega
set_option maxHeartbeats 3200000 in
theorem specSz_any (v : Value) (bs : List UInt8) (w : World) (hl : bs.length ≤ 1048576) (h : ByRd w v bs) : Calls Try.prog 83 #[v] w fun e w' => e = .returned (.int .i64 (frameSz bs)) ∧ w' = w := by
  obtain ⟨a, c, rfl, hin, hcap⟩ := h
  rcases hin with rfl | ⟨b, off, rfl, hb, hc⟩
  · go_enter Try.func83, Try.ntmps83
    go_wp2_with fail
    go_ret
    exact ⟨rfl, rfl⟩
  · by_cases h0 : bs.length = 0
    · obtain rfl := List.eq_nil_of_length_eq_zero h0
      go_enter Try.func83, Try.ntmps83
      go_wp2_with fail
      go_ret
      exact ⟨rfl, rfl⟩
    · have c0 : w.cell? ⟨b, off, none⟩ = some (.int .u8 (byN bs 0 : Int)) := byAt_byN hc 0 (by omega)
      have hn0 : (0 : Int) < (bs.length : Int) := by omega
      have i0 : 0 < bs.length := by omega
      have HG := hide (fun (v : Value) (W : World) (h3 : ¬ bs.length < 3) (h : ByRd W v (bs.drop 1)) => l9Get_any v (bs.drop 1) 2 W (by simp; omega) (by simp; omega) h)
      have HD := hide (cut_drop (.inr ⟨b, off, rfl, hb, hc⟩) hcap 1 (bs.length - 1) rfl (by omega))
      clear hc
      by_cases hm : byN bs 0 = 245
      · by_cases h3 : bs.length < 3
        · rw [sz_few hm h3]
          have h3' : (bs.length : Int) < 3 := by omega
          rw [hm] at c0
          clear hm h0 h3
          generalize bs.length = n at *
          go_enter Try.func83, Try.ntmps83
          go_wp2_with fail
          go_ret
          exact ⟨rfl, rfl⟩
        · rw [sz_else hm h3]
          have h3' : ¬ (bs.length : Int) < 3 := by omega
          have h1c : 1 ≤ c := by omega
          have h1n : 1 ≤ bs.length := by omega
          have hc1 : c ≠ 1 := by omega
          rw [hm] at c0
          have HN := hide (headN_num bs (by omega))
          obtain ⟨n0, n1⟩ := headN_range bs
          clear hm h0
          obtain ⟨R, HR⟩ : ∃ R, Hid ((if 1 ≤ headN bs ∧ headN bs ≤ 260 then headN bs + 5 else -1) = R) := ⟨_, rfl⟩
          rw [unhide HR]
          go_enter Try.func83, Try.ntmps83
          go_wp2_with fail
          refine (unhide HG _ _ h3 (unhide HD)).mono ?_
          rintro e w1 ⟨rfl, hw⟩
          rw [hw, unhide HN]
          generalize headN bs = q at *
          clear HN HG HD hw
          by_cases q1 : q < 1
          · have HR := hide ((if_neg (by omega)).symm.trans (unhide HR))
            go_wp2_with fail
            go_ret
            exact ⟨ret_int (unhide HR), rfl⟩
          · by_cases q2 : q ≤ 260
            · have HR := hide ((if_pos (by omega)).symm.trans (unhide HR))
              have q3 : ¬ 260 < q := by omega
              go_wp2_with fail
              go_ret
              exact ⟨ret_int (unhide HR), rfl⟩
            · have HR := hide ((if_neg (by omega)).symm.trans (unhide HR))
              have q3 : 260 < q := by omega
              go_wp2_with fail
              go_ret
              exact ⟨ret_int (unhide HR), rfl⟩
      · rw [sz_mark (by omega) hm]
        have hm' : ((byN bs 0 : Int) == 245) = false := by simp; omega
        clear h0
        generalize byN bs 0 = x at *
        generalize bs.length = n at *
        go_enter Try.func83, Try.ntmps83
        go_wp2_with fail
        go_ret
        exact ⟨rfl, rfl⟩
end Go.Proofs.Ytlgmmibncoedgaa
