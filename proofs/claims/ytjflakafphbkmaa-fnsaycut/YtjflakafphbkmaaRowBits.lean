/-
  Rows of bytes: their form, one byte of them turned.
-/
import Derived.Test.YtjflakafphbkmaaByAppend
import Derived.Handy
set_option linter.unusedVariables false
namespace Go.Proofs.Ytjflakafphbkmaa
open Go.RowKit Go.Maps Go.Deep

theorem rowB_len {B : Nat} {w : World} {a : Option Addr} {n c : Nat} {bs : List UInt8} (h : ByRow B w (.slice a n c) bs) : n = bs.length := by
  obtain ⟨a', c', e⟩ := h.slice
  simp only [Value.slice.injEq] at e
  exact e.2.1
theorem rowB_form {B : Nat} {w : World} {a : Option Addr} {n c : Nat} {bs : List UInt8} (h : ByRow B w (.slice a n c) bs) (h0 : 0 < n) : ∃ gb, a = some ⟨gb, 0, none⟩ ∧ n ≤ c ∧ B ≤ gb ∧ gb < w.heap.size := by
  have hl := h.lt
  have hg := h.ge
  rcases h with ⟨hx, ⟨e, h0'⟩ | ⟨g, cap, cur, e, hB, hg', hnc, hcm, hs, ht⟩⟩
  · simp only [Value.slice.injEq] at e
    omega
  · simp only [Value.slice.injEq] at e
    obtain ⟨rfl, rfl, rfl⟩ := e
    exact ⟨g, rfl, by omega, hB, hl g rfl⟩
theorem rowB_cell {B : Nat} {w : World} {gb c : Nat} {bs : List UInt8} (h : ByRow B w (.slice (some ⟨gb, 0, none⟩) bs.length c) bs) (j : Nat) (hj : j < bs.length) : ∃ x : UInt8, w.cell? ⟨gb, j, none⟩ = some (.int .u8 (x.toNat : Int)) ∧ w.frozen? ⟨gb, j, none⟩ = false := by
  have hh : w.ownsRow B 5 1 (.slice (some ⟨gb, 0, none⟩) bs.length c) bs.length (bs.map byV) := h
  refine ⟨bs[j], ?_, hh.frozenAt _⟩
  have := hh.cellAt j (by simp; omega)
  rw [this]
  simp [hj, byV]
theorem xorB (x y : UInt8) : bits .xor .u8 (x.toNat : Int) (y.toNat : Int) = ((x ^^^ y).toNat : Int) := by
  have h1 : (BitVec.ofInt 8 (x.toNat : Int)).toNat = x.toNat := by
    rw [BitVec.ofInt_natCast, BitVec.toNat_ofNat]; exact Nat.mod_eq_of_lt x.toNat_lt
  have h2 : (BitVec.ofInt 8 (y.toNat : Int)).toNat = y.toNat := by
    rw [BitVec.ofInt_natCast, BitVec.toNat_ofNat]; exact Nat.mod_eq_of_lt y.toNat_lt
  show IntKind.u8.wrap ((BitVec.ofInt 8 (x.toNat : Int) ^^^ BitVec.ofInt 8 (y.toNat : Int)).toNat : Int) = _
  rw [BitVec.toNat_xor, h1, h2, ← UInt8.toNat_xor]
  have := (x ^^^ y).toNat_lt
  show ((x ^^^ y).toNat : Int) % 256 = _
  omega
theorem powB (q : Nat) (hq : q < 8) : ∃ yb : UInt8, IntKind.u8.wrap ((2 : Int) ^ q) = (yb.toNat : Int) := by
  match q, hq with
  | 0, _ => exact ⟨1, by decide⟩
  | 1, _ => exact ⟨2, by decide⟩
  | 2, _ => exact ⟨4, by decide⟩
  | 3, _ => exact ⟨8, by decide⟩
  | 4, _ => exact ⟨16, by decide⟩
  | 5, _ => exact ⟨32, by decide⟩
  | 6, _ => exact ⟨64, by decide⟩
  | 7, _ => exact ⟨128, by decide⟩
theorem rowB_set {B : Nat} {w : World} {gb c : Nat} {bs : List UInt8} (h : ByRow B w (.slice (some ⟨gb, 0, none⟩) bs.length c) bs) (j : Nat) (hj : j < bs.length) (y : UInt8) : ByRow B (w.setCell ⟨gb, j, none⟩ (.int .u8 (y.toNat : Int))) (.slice (some ⟨gb, 0, none⟩) bs.length c) (bs.set j y) := by
  rcases h with ⟨hx, ⟨e, h0'⟩ | ⟨g, cap, cur, e, hB, hg, hnc, hcm, hs, ht⟩⟩
  · simp at e
  · simp only [Value.slice.injEq, Option.some.injEq, Addr.mk.injEq] at e
    obtain ⟨⟨rfl, _⟩, _, rfl⟩ := e
    refine ⟨by simp, .inr ⟨gb, c, cur.setIfInBounds j (.int .u8 (y.toNat : Int)), by simp, hB, ?_, by simpa using hnc, hcm, by simpa using hs, ?_⟩⟩
    · show (w.heap.modify gb _)[gb]? = _
      rw [Array.getElem?_modify]
      simp [hg]
    · simp only [Array.toList_setIfInBounds, List.length_set, Nat.mul_one] at ht ⊢
      rw [List.take_set, ht, List.map_set]
      rfl
theorem rowB_prefix {B : Nat} {w : World} {a : Option Addr} {n c : Nat} {bs : List UInt8} (h : ByRow B w (.slice a n c) bs) (k : Nat) (hk : k ≤ bs.length) : ByRow B w (.slice a k c) (bs.take k) := by
  rcases h with ⟨hx, ⟨e, h0⟩ | ⟨g, cap, cur, e, hB, hg, hnc, hcm, hs, ht⟩⟩
  · simp only [Value.slice.injEq] at e
    obtain ⟨rfl, rfl, rfl⟩ := e
    have : bs = [] := List.eq_nil_of_length_eq_zero h0
    subst this
    have : k = 0 := by simpa using hk
    subst this
    exact ByRow.nil _ _
  · simp only [Value.slice.injEq] at e
    obtain ⟨rfl, rfl, rfl⟩ := e
    have hl : (bs.take k).length = k := by simp [Nat.min_eq_left hk]
    refine ⟨by simp, .inr ⟨g, c, cur, by rw [hl], hB, hg, by omega, hcm, hs, ?_⟩⟩
    rw [hl, List.map_take, ← ht, List.take_take]
    congr 1
    omega
end Go.Proofs.Ytjflakafphbkmaa
