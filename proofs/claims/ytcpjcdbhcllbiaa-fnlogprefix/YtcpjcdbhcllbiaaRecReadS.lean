/-
  The specification's RecRead: how many bytes a record has by its beginning, what it is then, and that it is held against the bytes.
-/
import Derived.Test.YtcpjcdbhcllbiaaRecRead
import Derived.BigQuiet
import Derived.Deep.QuietTactic
set_option linter.unusedVariables false
namespace Go.Proofs.Ytcpjcdbhcllbiaa
open Go.RowKit Go.Maps Go.Deep

def byteN (bs : List UInt8) (i : Nat) : Nat := (bs.getD i 0).toNat
/-- how many bytes a record has, by its beginning; below 0: they do not tell -/
def sizeK (len k n1 m : Nat) : Int := if k = 1 then (if len ≤ 2 + n1 then -1 else 2 + (n1 : Int) + 1 + (m : Int) + 2) else if k = 2 then 2 + (n1 : Int) + 2 else if k = 3 ∨ k = 4 then 2 + (n1 : Int) + 8 + 2 else -1
def sizeS (bs : List UInt8) : Int := if bs.length < 2 then -1 else sizeK bs.length (byteN bs 0) (byteN bs 1) (byteN bs (2 + byteN bs 1))
theorem byteN_lt (bs : List UInt8) (i : Nat) : byteN bs i < 256 := UInt8.toNat_lt _
theorem byAt_N {w : World} {b off : Nat} {bs : List UInt8} (h : ByAt w b off bs) (i : Nat) (hi : i < bs.length) : w.cell? ⟨b, off + i, none⟩ = some (.int .u8 (byteN bs i : Int)) := by
  have := h i hi
  unfold byteN
  rw [List.getD_eq_getElem?_getD, List.getElem?_eq_getElem hi]
  exact this

def numU (x : Int) (c : UInt8) : Int := bits .or .u64 (IntKind.u64.wrap (x * 256)) (c.toNat : Int)
theorem u64_wrap (y : Int) : IntKind.u64.wrap y = y % 18446744073709551616 := rfl
theorem or_byteU (x : Int) (c : UInt8) : numU x c = (x * 256 + (c.toNat : Int)) % 18446744073709551616 := by
  have hc := UInt8.toNat_lt c
  unfold numU
  rw [u64_wrap]
  generalize c.toNat = c at *
  obtain ⟨a, ha⟩ : ∃ a, a = x * 256 % 18446744073709551616 := ⟨_, rfl⟩
  rw [← ha]
  have hA : (BitVec.ofInt 64 a).toNat = a.toNat := by rw [BitVec.toNat_ofInt]; show (a % 18446744073709551616).toNat = _; congr 1; omega
  have hB : (BitVec.ofInt 64 (c : Int)).toNat = c := by
    rw [BitVec.ofInt_natCast, BitVec.toNat_ofNat]; exact Nat.mod_eq_of_lt (by omega)
  obtain ⟨k, hk⟩ : ∃ k : Nat, a.toNat = 2 ^ 8 * k := ⟨a.toNat / 256, by omega⟩
  show IntKind.u64.wrap ((BitVec.ofInt 64 a ||| BitVec.ofInt 64 (c : Int)).toNat : Int) = _
  rw [BitVec.toNat_or, hA, hB, hk, ← Nat.two_pow_add_eq_or_of_lt (by omega : c < 2 ^ 8) k, ← hk, u64_wrap]
  omega
def numUL (bs : List UInt8) : Int := bs.foldl numU 0
theorem numUL_take (bs : List UInt8) (k : Nat) (h : k < bs.length) : numUL (bs.take (k + 1)) = numU (numUL (bs.take k)) bs[k] := by
  rw [List.take_succ_eq_append_getElem h]
  unfold numUL
  rw [List.foldl_append]
  rfl
theorem numUL_val (bs : List UInt8) : numUL bs = valN bs % 18446744073709551616 := by
  induction bs using snoc_cases with
  | h0 => simp [numUL, valN]
  | h1 bs c ih =>
    have e : numUL (bs ++ [c]) = numU (numUL bs) c := by simp [numUL]
    rw [e, or_byteU, ih, valN_snoc]
    omega
theorem numUL_num (bs : List UInt8) : wrap64 (numUL bs) = numL bs := by
  rw [numUL_val, numL_val]
  unfold wrap64
  omega
end Go.Proofs.Ytcpjcdbhcllbiaa
