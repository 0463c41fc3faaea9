/-
  RecSum of both sides: the sum over bytes, from 1 on.
-/
import Derived.Test.YtcpjcdbhcllbiaaBytes
set_option linter.unusedVariables false
namespace Go.Proofs.Ytcpjcdbhcllbiaa
open Go.RowKit Go.Maps Go.Deep

def sumStep (s : Int) (c : UInt8) : Int := (s * 257 + (c.toNat : Int)) % 65521
def recSum (bs : List UInt8) : Int := bs.foldl sumStep 1
theorem recSum_go (bs : List UInt8) (s : Int) (h : 0 ≤ s ∧ s < 65521) : 0 ≤ bs.foldl sumStep s ∧ bs.foldl sumStep s < 65521 := by
  induction bs generalizing s with
  | nil => exact h
  | cons c cs ih => exact ih _ (by unfold sumStep; omega)
theorem recSum_range (bs : List UInt8) : 0 ≤ recSum bs ∧ recSum bs < 65521 := recSum_go bs 1 (by omega)
theorem recSum_take (bs : List UInt8) (k : Nat) (h : k < bs.length) : recSum (bs.take (k + 1)) = (recSum (bs.take k) * 257 + (bs[k].toNat : Int)) % 65521 := by
  rw [List.take_succ_eq_append_getElem h]
  unfold recSum
  rw [List.foldl_append]
  rfl

set_option maxHeartbeats 1600000 in
theorem specSum_row (w : World) (b off cap : Nat) (bs : List UInt8) (hl : bs.length ≤ maxLen) (hc : ByAt w b off bs) :
    Calls Try.prog 26 #[.slice (some ⟨b, off, none⟩) bs.length cap] w fun e w' => e = .returned (.int .i64 (recSum bs)) ∧ w' = w := by
  unfold maxLen at hl
  have HC := hide hc
  clear hc
  go_enter Try.func26, Try.ntmps26
  go_wp2_with fail
  go_loop [3, 4] (fun s i => ∃ k : Nat, k ≤ bs.length ∧ i = .int .i64 k ∧ s = .int .i64 (recSum (bs.take k))) (fun _ i => bs.length - (intOf i).toNat)
  case atStart => exact ⟨0, Nat.zero_le _, rfl, rfl⟩
  case round =>
    obtain ⟨k, hk, rfl, rfl⟩ := hrel
    by_cases hlt : k < bs.length
    · have c0 := unhide HC k hlt
      obtain ⟨r0, r1⟩ := recSum_range (bs.take k)
      have HN := hide (recSum_take bs k hlt)
      have hx0 := UInt8.toNat_lt bs[k]
      generalize recSum (bs.take k) = s at *
      generalize bs[k].toNat = x at *
      go_wp2_with fail
      go_round
      case rel => exact ⟨k + 1, by omega, by go_num, by rw [unhide HN]⟩
      case measure => simp [intOf]; omega
    · go_wp2_with fail
      go_ret
      exact ⟨ret_int (by rw [List.take_of_length_le (by omega)]), rfl⟩
theorem specSum_none (w : World) (a : Option Addr) (cap : Nat) : Calls Try.prog 26 #[.slice a 0 cap] w fun e w' => e = .returned (.int .i64 1) ∧ w' = w := by
  go_enter Try.func26, Try.ntmps26
  go_wp2
  refine wp_loop_rounds 1 ?_
  rw [rounds_succ]
  go_wp2
  go_ret
  exact ⟨rfl, rfl⟩
theorem specSum_any (w : World) (v : Value) (bs : List UInt8) (hl : bs.length ≤ maxLen) (h : ByRd w v bs) : Calls Try.prog 26 #[v] w fun e w' => e = .returned (.int .i64 (recSum bs)) ∧ w' = w := by
  obtain ⟨a, cap, rfl, h, _⟩ := h
  rcases h with rfl | ⟨b, off, rfl, hb, hc⟩
  · exact specSum_none w a cap
  · exact specSum_row w b off cap bs hl hc

set_option maxHeartbeats 1600000 in
theorem overSum_row (w : World) (b off cap : Nat) (bs : List UInt8) (hl : bs.length ≤ maxLen) (hc : ByAt w b off bs) :
    Calls Try.prog 31 #[.slice (some ⟨b, off, none⟩) bs.length cap, .int .i64 1, .int .i64 257] w fun e w' => e = .returned (.int .i64 (recSum bs)) ∧ w' = w := by
  unfold maxLen at hl
  have HC := hide hc
  clear hc
  go_enter Try.func31, Try.ntmps31
  go_wp2_with fail
  go_loop [7, 13] (fun s i => ∃ k : Nat, k ≤ bs.length ∧ i = .int .i64 k ∧ s = .int .i64 (recSum (bs.take k))) (fun _ i => bs.length - (intOf i).toNat)
  case atStart => exact ⟨0, Nat.zero_le _, rfl, rfl⟩
  case round =>
    obtain ⟨k, hk, rfl, rfl⟩ := hrel
    by_cases hlt : k < bs.length
    · have c0 := unhide HC k hlt
      obtain ⟨r0, r1⟩ := recSum_range (bs.take k)
      have HN := hide (recSum_take bs k hlt)
      have hx0 := UInt8.toNat_lt bs[k]
      generalize recSum (bs.take k) = s at *
      generalize bs[k].toNat = x at *
      go_wp2_with fail
      go_round
      case rel => exact ⟨k + 1, by omega, by go_num, by rw [unhide HN]⟩
      case measure => simp [intOf]; omega
    · go_wp2_with fail
      go_ret
      exact ⟨ret_int (by rw [List.take_of_length_le (by omega)]), rfl⟩
theorem overSum_none (w : World) (a : Option Addr) (cap : Nat) : Calls Try.prog 31 #[.slice a 0 cap, .int .i64 1, .int .i64 257] w fun e w' => e = .returned (.int .i64 1) ∧ w' = w := by
  go_enter Try.func31, Try.ntmps31
  go_wp2
  refine wp_loop_rounds 1 ?_
  rw [rounds_succ]
  go_wp2
  go_ret
  exact ⟨rfl, rfl⟩
theorem overSum_any (w : World) (v : Value) (bs : List UInt8) (hl : bs.length ≤ maxLen) (h : ByRd w v bs) : Calls Try.prog 31 #[v, .int .i64 1, .int .i64 257] w fun e w' => e = .returned (.int .i64 (recSum bs)) ∧ w' = w := by
  obtain ⟨a, cap, rfl, h, _⟩ := h
  rcases h with rfl | ⟨b, off, rfl, hb, hc⟩
  · exact overSum_none w a cap
  · exact overSum_row w b off cap bs hl hc

theorem implSum_any (w : World) (v : Value) (bs : List UInt8) (hl : bs.length ≤ maxLen) (h : ByRd w v bs) : Calls Try.prog 24 #[v] w fun e w' => e = .returned (.int .i64 (recSum bs)) ∧ w' = w := by
  have HO := hide (fun W (h : ByRd W v bs) => overSum_any W v bs hl h)
  have HH := hide h
  clear h hl
  go_enter Try.func24, Try.ntmps24
  go_wp2_with fail
  refine (unhide HO _ (unhide HH)).mono ?_
  rintro e w1 ⟨rfl, hw⟩
  rw [hw]
  go_wp2_with fail
  go_ret
  exact ⟨rfl, rfl⟩
end Go.Proofs.Ytcpjcdbhcllbiaa
