/-
  Numbers that are read as unsigned ones, the highest byte first; the specification's way to read and to write numbers in so many bytes.
-/
import Derived.Test.YtjflakafphbkmaaNumMath
import Derived.Test.YtjflakafphbkmaaByKit
set_option linter.unusedVariables false
namespace Go.Proofs.Ytjflakafphbkmaa
open Go.RowKit Go.Maps Go.Deep

def numU (x : Int) (c : UInt8) : Int := bits .or .u64 (IntKind.u64.wrap (x * 256)) (c.toNat : Int)
theorem u64_wrap (y : Int) : IntKind.u64.wrap y = y % 18446744073709551616 := rfl
theorem or_byteU (x : Int) (c : UInt8) : numU x c = (x * 256 + (c.toNat : Int)) % 18446744073709551616 := by
  have hc := UInt8.toNat_lt c
  unfold numU
  rw [u64_wrap]
  generalize c.toNat = c at *
  obtain ⟨a, ha⟩ : ∃ a, a = x * 256 % 18446744073709551616 := ⟨_, rfl⟩
  rw [← ha]
  have hA : (BitVec.ofInt 64 a).toNat = a.toNat := by rw [BitVec.toNat_ofInt]; show (a % 18446744073709551616).toNat = _; congr 1; omega
  have hB : (BitVec.ofInt 64 (c : Int)).toNat = c := by
    rw [BitVec.ofInt_natCast, BitVec.toNat_ofNat]; exact Nat.mod_eq_of_lt (by omega)
  obtain ⟨k, hk⟩ : ∃ k : Nat, a.toNat = 2 ^ 8 * k := ⟨a.toNat / 256, by omega⟩
  show IntKind.u64.wrap ((BitVec.ofInt 64 a ||| BitVec.ofInt 64 (c : Int)).toNat : Int) = _
  rw [BitVec.toNat_or, hA, hB, hk, ← Nat.two_pow_add_eq_or_of_lt (by omega : c < 2 ^ 8) k, ← hk, u64_wrap]
  omega
def numUL (bs : List UInt8) : Int := bs.foldl numU 0
theorem numUL_take (bs : List UInt8) (k : Nat) (h : k < bs.length) : numUL (bs.take (k + 1)) = numU (numUL (bs.take k)) bs[k] := by
  rw [List.take_succ_eq_append_getElem h]
  unfold numUL
  rw [List.foldl_append]
  rfl
theorem numUL_val (bs : List UInt8) : numUL bs = valN bs % 18446744073709551616 := by
  induction bs using snoc_cases with
  | h0 => simp [numUL, valN]
  | h1 bs c ih =>
    have e : numUL (bs ++ [c]) = numU (numUL bs) c := by simp [numUL]
    rw [e, or_byteU, ih, valN_snoc]
    omega
theorem numUL_num (bs : List UInt8) : wrap64 (numUL bs) = numL bs := by
  rw [numUL_val, numL_val]
  unfold wrap64
  omega
set_option maxHeartbeats 3200000 in
theorem l9Put_any (B : Nat) (w : World) (a0 : Option Addr) (n0 c0 : Nat) (xs : List UInt8) (x : Int) (size : Nat) (hsz : size ≤ 8) (hxl : xs.length ≤ 1000000) (hB : B ≤ w.heap.size) (hv : ByRow B w (.slice a0 n0 c0) xs) :
    Calls Try.prog 12 #[.slice a0 n0 c0, .int .i64 x, .int .i64 (size : Int)] w fun e w' => RetPut (xs ++ beL x size) B (.slice a0 n0 c0) w e w' := by
  have HV := hide hv
  clear hv
  go_enter Try.func12, Try.ntmps12
  go_wp2_with fail
  go_loopw [0, 8] (fun v i wr => ∃ (j : Nat) (a : Option Addr) (n c : Nat) (ys : List UInt8), j ≤ size ∧ i = .int .i64 ((j : Int) - 1) ∧ v = .slice a n c ∧ Hid (ByRow B wr (.slice a n c) ys) ∧ Hid (ys ++ beL x j = xs ++ beL x size) ∧ Hid (Late (.slice a0 n0 c0) (.slice a n c) w) ∧ Hid (Turn (ownL (.slice a0 n0 c0)) w wr)) (fun _ i _ => (intOf i + 1).toNat)
  case atStart => exact ⟨size, _, _, _, xs, Nat.le_refl _, rfl, rfl, HV, rfl, hide (.inl rfl), Turn.refl _ _⟩
  case round =>
    obtain ⟨j, a2, n2, c2, ys, hj, rfl, rfl, HR2, HE2, HN2, HB2⟩ := hrel
    by_cases h0 : j = 0
    · subst h0
      have hz : ys = xs ++ beL x size := by have := unhide HE2; simpa [beL] using this
      rw [hz] at HR2
      clear HE2 hz
      go_wp2_with fail
      go_ret
      exact ⟨a2, n2, c2, rfl, hide ⟨unhide HR2, unhide HB2, unhide HN2⟩⟩
    · obtain ⟨q, rfl⟩ : ∃ q, j = q + 1 := ⟨j - 1, by omega⟩
      have hq8 : q < 8 := by omega
      have e1 : ((q + 1 : Nat) : Int) - 1 = (q : Int) := by omega
      rw [e1]
      have hl := hide (show ys.length + [beB x q].length ≤ 140737488355328 by
        have := congrArg List.length (unhide HE2)
        simp [beL_length] at this
        simp; omega)
      have HV2 := hide ((beB_val x q).trans (u64_byte x q hq8).symm)
      have h8 : (8 * (q : Int)).toNat = 8 * q := by omega
      have R1 := hide ((unhide HR2).up' (.cells #[.int .u8 (IntKind.u8.wrap (IntKind.u64.wrap x / 2 ^ (8 * q)))] 5))
      have U1 := hide (show ByRd (wr.alloc (.cells #[.int .u8 (IntKind.u8.wrap (IntKind.u64.wrap x / 2 ^ (8 * q)))] 5)) (.slice (some ⟨wr.heap.size, 0, none⟩) 1 1) [beB x q] by rw [← unhide HV2]; exact byCell1 wr (beB x q))
      have hBr : B ≤ wr.heap.size := Nat.le_trans hB (unhide HB2).size
      have B1 := hide ((unhide HB2).alloc (.cells #[.int .u8 (IntKind.u8.wrap (IntKind.u64.wrap x / 2 ^ (8 * q)))] 5))
      have hBr2 := hide (show B ≤ (wr.alloc (.cells #[.int .u8 (IntKind.u8.wrap (IntKind.u64.wrap x / 2 ^ (8 * q)))] 5)).heap.size by simp; omega)
      clear e1 hBr
      go_wp2_with (first
        | (at_builtin; refine wpList_byAppend rfl _ _ rfl B _ _ ys [beB x q] rfl rfl (unhide R1) (unhide U1) (unhide hl) (unhide hBr2) ?_; intro a3 c3 w3 r3 g3 o3; generalize ys.length + [beB x q].length = n3 at *; have HN3 := hide ((unhide HN2).trans (v2 := .slice a3 n3 c3) (w1 := wr.alloc (.cells #[.int .u8 (IntKind.u8.wrap (IntKind.u64.wrap x / 2 ^ (8 * q)))] 5)) o3 (unhide B1).size); clear o3; have R3 := hide r3; have B3 := hide ((unhide B1).grown' g3 (fun y hy => (unhide HN2).mem y hy)); clear r3 g3)
        | fail)
      go_roundw
      case rel => exact ⟨q, a3, n3, c3, ys ++ [beB x q], by omega, by go_num, rfl, R3, hide (by rw [List.append_assoc]; exact unhide HE2), HN3, B3⟩
      case measure => simp [intOf]
end Go.Proofs.Ytjflakafphbkmaa
