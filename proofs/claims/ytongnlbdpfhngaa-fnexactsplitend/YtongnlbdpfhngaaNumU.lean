/-
  Numbers that are read as unsigned ones, the highest byte first; the specification's way to read and to write numbers in so many bytes.
-/
import Derived.Test.YtongnlbdpfhngaaNumMath
import Derived.Test.YtongnlbdpfhngaaByKit
set_option linter.unusedVariables false
namespace Go.Proofs.Ytongnlbdpfhngaa
open Go.RowKit Go.Maps Go.Deep

def numU (x : Int) (c : UInt8) : Int := bits .or .u64 (IntKind.u64.wrap (x * 256)) (c.toNat : Int)
theorem u64_wrap (y : Int) : IntKind.u64.wrap y = y % 18446744073709551616 := rfl
theorem or_byteU (x : Int) (c : UInt8) : numU x c = (x * 256 + (c.toNat : Int)) % 18446744073709551616 := by
  have hc := UInt8.toNat_lt c
  unfold numU
  rw [u64_wrap]
  generalize c.toNat = c at *
  obtain ⟨a, ha⟩ : ∃ a, a = x * 256 % 18446744073709551616 := ⟨_, rfl⟩
  rw [← ha]
  have hA : (BitVec.ofInt 64 a).toNat = a.toNat := by rw [BitVec.toNat_ofInt]; show (a % 18446744073709551616).toNat = _; congr 1; omega
  have hB : (BitVec.ofInt 64 (c : Int)).toNat = c := by
    rw [BitVec.ofInt_natCast, BitVec.toNat_ofNat]; exact Nat.mod_eq_of_lt (by omega)
  obtain ⟨k, hk⟩ : ∃ k : Nat, a.toNat = 2 ^ 8 * k := ⟨a.toNat / 256, by omega⟩
  show IntKind.u64.wrap ((BitVec.ofInt 64 a ||| BitVec.ofInt 64 (c : Int)).toNat : Int) = _
  rw [BitVec.toNat_or, hA, hB, hk, ← Nat.two_pow_add_eq_or_of_lt (by omega : c < 2 ^ 8) k, ← hk, u64_wrap]
  omega
def numUL (bs : List UInt8) : Int := bs.foldl numU 0
theorem numUL_take (bs : List UInt8) (k : Nat) (h : k < bs.length) : numUL (bs.take (k + 1)) = numU (numUL (bs.take k)) bs[k] := by
  rw [List.take_succ_eq_append_getElem h]
  unfold numUL
  rw [List.foldl_append]
  rfl
theorem numUL_val (bs : List UInt8) : numUL bs = valN bs % 18446744073709551616 := by
  induction bs using snoc_cases with
  | h0 => simp [numUL, valN]
  | h1 bs c ih =>
    have e : numUL (bs ++ [c]) = numU (numUL bs) c := by simp [numUL]
    rw [e, or_byteU, ih, valN_snoc]
    omega
theorem numUL_num (bs : List UInt8) : wrap64 (numUL bs) = numL bs := by
  rw [numUL_val, numL_val]
  unfold wrap64
  omega
set_option maxHeartbeats 3200000 in
theorem l9Get_any (v : Value) (bs : List UInt8) (size : Nat) (w : World) (hl : bs.length ≤ 1048576) (h8 : size ≤ bs.length) (h : ByRd w v bs) : Calls Try.prog 32 #[v, .int .i64 (size : Int)] w fun e w' => e = .returned (.int .i64 (numL (bs.take size))) ∧ w' = w := by
  obtain ⟨a, c, rfl, hin, hcap⟩ := h
  by_cases hz : size = 0
  · subst hz
    generalize bs.length = n at *
    go_enter Try.func32, Try.ntmps32
    go_wp2_with fail
    refine wp_loop_rounds 1 ?_
    rw [rounds_succ]
    go_wp2_with fail
    go_ret
    exact ⟨rfl, rfl⟩
  obtain ⟨b, off, rfl, hb, hc⟩ : ∃ b off, a = some ⟨b, off, none⟩ ∧ b < w.heap.size ∧ ByAt w b off bs := by
    rcases hin with h0 | h0
    · rw [h0] at h8; simp at h8; omega
    · exact h0
  have HC := hide hc
  clear hc hin hz
  go_enter Try.func32, Try.ntmps32
  go_wp2_with fail
  go_loop [5, 6] (fun u i => ∃ k : Nat, k ≤ size ∧ i = .int .i64 k ∧ u = .int .u64 (numUL (bs.take k))) (fun _ i => size - (intOf i).toNat)
  case atStart => exact ⟨0, Nat.zero_le _, rfl, rfl⟩
  case round =>
    obtain ⟨k, hk, rfl, rfl⟩ := hrel
    by_cases hlt : k < size
    · have hkl : k < bs.length := by omega
      have c0 := unhide HC k hkl
      have HN := hide (numUL_take bs k hkl)
      unfold numU at HN
      have hy0 : (0 : Int) ≤ (bs[k].toNat : Int) := Int.natCast_nonneg _
      have hy1 : (bs[k].toNat : Int) ≤ 255 := by have := UInt8.toNat_lt bs[k]; omega
      have hki : (k : Int) < (size : Int) := by omega
      generalize numUL (bs.take k) = x at *
      generalize (bs[k].toNat : Int) = y at *
      go_wp2_with fail
      go_round
      case rel => exact ⟨k + 1, by omega, by go_num, by rw [unhide HN]⟩
      case measure => simp [intOf]; omega
    · obtain rfl : k = size := by omega
      have HE := hide (numUL_num (bs.take k))
      go_wp2_with fail
      go_ret
      exact ⟨ret_int (unhide HE), rfl⟩
end Go.Proofs.Ytongnlbdpfhngaa
