/-
  The specification's RecRead: how many bytes a record has by its beginning, what it is then, and that it is held against the bytes.
-/
import Derived.Test.YthlcgghilmpboaaRecRead
import Derived.BigQuiet
import Derived.Deep.QuietTactic
set_option linter.unusedVariables false
namespace Go.Proofs.Ythlcgghilmpboaa
open Go.RowKit Go.Maps Go.Deep

def byteN (bs : List UInt8) (i : Nat) : Nat := (bs.getD i 0).toNat
/-- how many bytes a record has, by its beginning; below 0: they do not tell -/
def sizeK (len k n1 m : Nat) : Int := if k = 1 then (if len ≤ 2 + n1 then -1 else 2 + (n1 : Int) + 1 + (m : Int) + 2) else if k = 2 then 2 + (n1 : Int) + 2 else if k = 3 ∨ k = 4 then 2 + (n1 : Int) + 8 + 2 else -1
def sizeS (bs : List UInt8) : Int := if bs.length < 2 then -1 else sizeK bs.length (byteN bs 0) (byteN bs 1) (byteN bs (2 + byteN bs 1))
theorem byteN_lt (bs : List UInt8) (i : Nat) : byteN bs i < 256 := UInt8.toNat_lt _
theorem byAt_N {w : World} {b off : Nat} {bs : List UInt8} (h : ByAt w b off bs) (i : Nat) (hi : i < bs.length) : w.cell? ⟨b, off + i, none⟩ = some (.int .u8 (byteN bs i : Int)) := by
  have := h i hi
  unfold byteN
  rw [List.getD_eq_getElem?_getD, List.getElem?_eq_getElem hi]
  exact this

set_option maxHeartbeats 3200000 in
theorem l7Size_any (v : Value) (bs : List UInt8) (w : World) (hl : bs.length ≤ 1048576) (h : ByRd w v bs) : Calls Try.prog 38 #[v] w fun e w' => e = .returned (.int .i64 (sizeS bs)) ∧ w' = w := by
  obtain ⟨a, c, rfl, hin, hcap⟩ := h
  by_cases h2 : bs.length < 2
  · have h2' : (bs.length : Int) < 2 := by omega
    rw [show sizeS bs = -1 by simp [sizeS, h2]]
    clear h2
    generalize bs.length = n at *
    go_enter Try.func38, Try.ntmps38
    go_wp2
    go_ret
    exact ⟨rfl, rfl⟩
  · obtain ⟨b, off, rfl, hb, hc⟩ : ∃ b off, a = some ⟨b, off, none⟩ ∧ b < w.heap.size ∧ ByAt w b off bs := by
      rcases hin with h0 | h0
      · rw [h0] at h2; simp at h2
      · exact h0
    have c0 : w.cell? ⟨b, off, none⟩ = some (.int .u8 (byteN bs 0 : Int)) := byAt_N hc 0 (by omega)
    have i0 : 0 < bs.length := by omega
    have i1 : 1 < bs.length := by omega
    have c1 := byAt_N hc 1 (by omega)
    have b0 := byteN_lt bs 0
    have b1 := byteN_lt bs 1
    have b2 := byteN_lt bs (2 + byteN bs 1)
    have g2 : ¬ (bs.length : Int) < 2 := by omega
    have HX := hide (fun (i : Nat) (hi : i < bs.length) => byAt_N hc i hi)
    rw [show sizeS bs = sizeK bs.length (byteN bs 0) (byteN bs 1) (byteN bs (2 + byteN bs 1)) by simp [sizeS, h2]]
    unfold sizeK
    clear hc hin
    generalize byteN bs 0 = k at *
    by_cases k1 : k = 1
    · subst k1
      by_cases hn : bs.length ≤ 2 + byteN bs 1
      · rw [if_pos rfl, if_pos hn]
        have hn' : (bs.length : Int) ≤ 2 + (byteN bs 1 : Int) := by omega
        generalize byteN bs 1 = n1 at *
        generalize bs.length = n at *
        go_enter Try.func38, Try.ntmps38
        go_wp2_with fail
        go_ret
        exact ⟨rfl, rfl⟩
      · rw [if_pos rfl, if_neg hn]
        have cx := unhide HX (2 + byteN bs 1) (by omega)
        have hn' : ¬ (bs.length : Int) ≤ 2 + (byteN bs 1 : Int) := by omega
        have hidx : (2 + (byteN bs 1 : Int)).toNat = 2 + byteN bs 1 := by omega
        generalize byteN bs (2 + byteN bs 1) = m at *
        generalize byteN bs 1 = n1 at *
        generalize bs.length = n at *
        go_enter Try.func38, Try.ntmps38
        go_wp2_with fail
        go_ret
        exact ⟨rfl, rfl⟩
    · have q1 : ((k : Int) == 1) = false := by simp; omega
      by_cases k2 : k = 2
      · subst k2
        rw [if_neg k1, if_pos rfl]
        generalize byteN bs 1 = n1 at *
        generalize bs.length = n at *
        go_enter Try.func38, Try.ntmps38
        go_wp2_with fail
        go_ret
        exact ⟨rfl, rfl⟩
      · have q2 : ((k : Int) == 2) = false := by simp; omega
        by_cases k3 : k = 3
        · subst k3
          rw [if_neg k1, if_neg k2, if_pos (.inl rfl)]
          generalize byteN bs 1 = n1 at *
          generalize bs.length = n at *
          go_enter Try.func38, Try.ntmps38
          go_wp2_with fail
          go_ret
          exact ⟨rfl, rfl⟩
        · have q3 : ((k : Int) == 3) = false := by simp; omega
          by_cases k4 : k = 4
          · subst k4
            rw [if_neg k1, if_neg k2, if_pos (.inr rfl)]
            generalize byteN bs 1 = n1 at *
            generalize bs.length = n at *
            go_enter Try.func38, Try.ntmps38
            go_wp2_with fail
            go_ret
            exact ⟨rfl, rfl⟩
          · have q4 : ((k : Int) == 4) = false := by simp; omega
            rw [if_neg k1, if_neg k2, if_neg (by omega)]
            generalize byteN bs 1 = n1 at *
            generalize bs.length = n at *
            go_enter Try.func38, Try.ntmps38
            go_wp2_with fail
            go_ret
            exact ⟨rfl, rfl⟩

def numU (x : Int) (c : UInt8) : Int := bits .or .u64 (IntKind.u64.wrap (x * 256)) (c.toNat : Int)
theorem u64_wrap (y : Int) : IntKind.u64.wrap y = y % 18446744073709551616 := rfl
theorem or_byteU (x : Int) (c : UInt8) : numU x c = (x * 256 + (c.toNat : Int)) % 18446744073709551616 := by
  have hc := UInt8.toNat_lt c
  unfold numU
  rw [u64_wrap]
  generalize c.toNat = c at *
  obtain ⟨a, ha⟩ : ∃ a, a = x * 256 % 18446744073709551616 := ⟨_, rfl⟩
  rw [← ha]
  have hA : (BitVec.ofInt 64 a).toNat = a.toNat := by rw [BitVec.toNat_ofInt]; show (a % 18446744073709551616).toNat = _; congr 1; omega
  have hB : (BitVec.ofInt 64 (c : Int)).toNat = c := by
    rw [BitVec.ofInt_natCast, BitVec.toNat_ofNat]; exact Nat.mod_eq_of_lt (by omega)
  obtain ⟨k, hk⟩ : ∃ k : Nat, a.toNat = 2 ^ 8 * k := ⟨a.toNat / 256, by omega⟩
  show IntKind.u64.wrap ((BitVec.ofInt 64 a ||| BitVec.ofInt 64 (c : Int)).toNat : Int) = _
  rw [BitVec.toNat_or, hA, hB, hk, ← Nat.two_pow_add_eq_or_of_lt (by omega : c < 2 ^ 8) k, ← hk, u64_wrap]
  omega
def numUL (bs : List UInt8) : Int := bs.foldl numU 0
theorem numUL_take (bs : List UInt8) (k : Nat) (h : k < bs.length) : numUL (bs.take (k + 1)) = numU (numUL (bs.take k)) bs[k] := by
  rw [List.take_succ_eq_append_getElem h]
  unfold numUL
  rw [List.foldl_append]
  rfl
theorem numUL_val (bs : List UInt8) : numUL bs = valN bs % 18446744073709551616 := by
  induction bs using snoc_cases with
  | h0 => simp [numUL, valN]
  | h1 bs c ih =>
    have e : numUL (bs ++ [c]) = numU (numUL bs) c := by simp [numUL]
    rw [e, or_byteU, ih, valN_snoc]
    omega
theorem numUL_num (bs : List UInt8) : wrap64 (numUL bs) = numL bs := by
  rw [numUL_val, numL_val]
  unfold wrap64
  omega
set_option maxHeartbeats 3200000 in
theorem l7Number_any (v : Value) (bs : List UInt8) (w : World) (hl : bs.length ≤ 1048576) (h8 : 8 ≤ bs.length) (h : ByRd w v bs) : Calls Try.prog 39 #[v] w fun e w' => e = .returned (.int .i64 (numL (bs.take 8))) ∧ w' = w := by
  obtain ⟨a, c, rfl, hin, hcap⟩ := h
  obtain ⟨b, off, rfl, hb, hc⟩ : ∃ b off, a = some ⟨b, off, none⟩ ∧ b < w.heap.size ∧ ByAt w b off bs := by
    rcases hin with h0 | h0
    · rw [h0] at h8; simp at h8
    · exact h0
  have HC := hide hc
  clear hc hin
  go_enter Try.func39, Try.ntmps39
  go_wp2_with fail
  go_loop [3, 4] (fun u i => ∃ k : Nat, k ≤ 8 ∧ i = .int .i64 k ∧ u = .int .u64 (numUL (bs.take k))) (fun _ i => 8 - (intOf i).toNat)
  case atStart => exact ⟨0, Nat.zero_le _, rfl, rfl⟩
  case round =>
    obtain ⟨k, hk, rfl, rfl⟩ := hrel
    by_cases hlt : k < 8
    · have hkl : k < bs.length := by omega
      have c0 := unhide HC k hkl
      have HN := hide (numUL_take bs k hkl)
      unfold numU at HN
      have hy0 : (0 : Int) ≤ (bs[k].toNat : Int) := Int.natCast_nonneg _
      have hy1 : (bs[k].toNat : Int) ≤ 255 := by have := UInt8.toNat_lt bs[k]; omega
      have hki : (k : Int) < 8 := by omega
      generalize numUL (bs.take k) = x at *
      generalize (bs[k].toNat : Int) = y at *
      go_wp2_with fail
      go_round
      case rel => exact ⟨k + 1, by omega, by go_num, by rw [unhide HN]⟩
      case measure => simp [intOf]; omega
    · obtain rfl : k = 8 := by omega
      have HE := hide (numUL_num (bs.take 8))
      go_wp2_with fail
      go_ret
      exact ⟨ret_int (unhide HE), rfl⟩
end Go.Proofs.Ythlcgghilmpboaa
