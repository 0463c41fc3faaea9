/-
  The specification's RecRead: the record with whose bytes they begin.
-/
import Derived.Test.YtcpjcdbhcllbiaaRecMathS
set_option linter.unusedVariables false
namespace Go.Proofs.Ytcpjcdbhcllbiaa
open Go.RowKit Go.Maps Go.Deep

theorem retRead_none {bs : List UInt8} {w w' : World} (h : IsRead bs none) (hb : Below w.heap.size w w') : RetRead bs w (.returned (readVal none)) w' := ⟨none, rfl, hide h, hb⟩
def box0 (w : World) : World := w.alloc (.cells #[.int .i64 0, .string ⟨#[]⟩, .int .i64 0, .string ⟨#[]⟩] 32)
theorem box0_is (w : World) : BoxF (box0 w) w.heap.size [.int .i64 0, .string ⟨#[]⟩, .int .i64 0, .string ⟨#[]⟩] := boxF_new w [.int .i64 0, .string ⟨#[]⟩, .int .i64 0, .string ⟨#[]⟩] _
theorem box0_below (w : World) : Below w.heap.size w (box0 w) := (Below.refl _ _).alloc (Nat.le_refl _) _
theorem fill_below (w w5 : World) (a b c d : Value) (h : Below w.heap.size w w5) : Below w.heap.size w ((((w5.setCell ⟨w.heap.size, 0, none⟩ a).setCell ⟨w.heap.size, 1, none⟩ b).setCell ⟨w.heap.size, 2, none⟩ c).setCell ⟨w.heap.size, 3, none⟩ d) :=
  h.trans (Turn.below (S := [w.heap.size]) (((((Turn.refl [w.heap.size] w5).setCell (g := w.heap.size) (by simp) _ _).setCell (g := w.heap.size) (by simp) _ _).setCell (g := w.heap.size) (by simp) _ _).setCell (g := w.heap.size) (by simp) _ _) h.size (by simp))

theorem sizeS_kinds {bs : List UInt8} {n : Nat} (h : sizeS bs = (n : Int)) : 2 ≤ bs.length ∧ ((byteN bs 0 = 1 ∧ 2 + byteN bs 1 + 1 ≤ bs.length ∧ n = 2 + byteN bs 1 + 1 + byteN bs (2 + byteN bs 1) + 2) ∨ (byteN bs 0 = 2 ∧ n = 2 + byteN bs 1 + 2) ∨ ((byteN bs 0 = 3 ∨ byteN bs 0 = 4) ∧ n = 2 + byteN bs 1 + 10)) := by
  unfold sizeS at h
  split at h
  · omega
  · refine ⟨by omega, ?_⟩
    unfold sizeK at h
    split at h
    · split at h <;> omega
    · split at h
      · omega
      · split at h <;> omega
theorem cut_drop_at {w w' : World} {B b off : Nat} {bs : List UInt8} (h : ByAt w b off bs) (hb : Below B w w') (hB : b < B) (i n : Nat) (hn : i + n ≤ bs.length) (c : Nat) (hc : n ≤ c) (hw : B ≤ w'.heap.size) : ByRd w' (.slice (some ⟨b, off + i, none⟩) n c) ((bs.drop i).take n) := by
  have e : ((bs.drop i).take n).length = n := by simp; omega
  refine ⟨_, c, by rw [e], .inr ⟨b, off + i, rfl, by omega, fun j hj => ?_⟩, by rw [e]; exact hc⟩
  have hj' : i + j < bs.length := by rw [e] at hj; omega
  have := (h.below hb hB) (i + j) hj'
  simp only [List.getElem_take, List.getElem_drop]
  rw [Nat.add_assoc]
  exact this

theorem specR_eq (bs : List UInt8) (n : Nat) : specR bs n = ⟨(byteN bs 0 : Int), baL ((bs.drop 2).take (byteN bs 1)), if byteN bs 0 = 3 ∨ byteN bs 0 = 4 then numL ((bs.drop (2 + byteN bs 1)).take 8) else 0, if byteN bs 0 = 1 then baL ((bs.drop (2 + byteN bs 1 + 1)).take (n - 2 - (2 + byteN bs 1 + 1))) else baL []⟩ := rfl
theorem below_drewN {B : Nat} {a w : World} (h : Below B a w) (n : Nat) : Below B a (w.drewN n) := ⟨h.os, h.tape, h.output, h.size, h.block⟩
structure Kept (P : Prop) : Prop where
  it : P
theorem key_of {P Q : Prop} (walk : Kept P → Q) (pf : P) : Q := walk ⟨pf⟩
theorem ba_ne {xs ys : List UInt8} (h : xs ≠ ys) : ((⟨xs.toArray⟩ : ByteArray).toList == (⟨ys.toArray⟩ : ByteArray).toList) = false := by
  rw [ByteArray.toList_eq, ByteArray.toList_eq]
  simpa using h
end Go.Proofs.Ytcpjcdbhcllbiaa
