/-
  Bytes that are cut, set, written out: tools of the laws on words.
-/
import Derived.Test.YtjflakafphbkmaaByAppend
import Derived.Test.YtjflakafphbkmaaByReader
import Derived.Handy
set_option linter.unusedVariables false
namespace Go.Proofs.Ytjflakafphbkmaa
open Go.RowKit Go.Maps Go.Deep

theorem by_cut7 {w : World} {b off n c : Nat} {bs : List UInt8} (h : ByRd w (.slice (some ⟨b, off, none⟩) n c) bs) {k : Nat} (hk : k ≤ bs.length) : ByRd w (.slice (some ⟨b, off, none⟩) k c) (bs.take k) := by
  obtain ⟨a, cap, e, hin, hc⟩ := h
  simp only [Value.slice.injEq] at e
  obtain ⟨rfl, rfl, rfl⟩ := e
  have hl : (bs.take k).length = k := by simp; omega
  refine ⟨some ⟨b, off, none⟩, c, by rw [hl], ?_, by omega⟩
  rcases hin with rfl | ⟨b', off', e, hb, hx⟩
  · exact .inl (by simp)
  · simp only [Option.some.injEq, Addr.mk.injEq, and_true] at e
    obtain ⟨rfl, rfl⟩ := e
    refine .inr ⟨b, off, rfl, hb, fun i hi => ?_⟩
    rw [List.getElem_take]
    exact hx i (by omega)
theorem by_set7 {w : World} {b off c : Nat} {bs : List UInt8} (h : ByAt w b off bs) (hb : b < w.heap.size) (hc : bs.length ≤ c) {k : Nat} (hk : k < bs.length) (x : UInt8) : ByRd (w.setCell ⟨b, off + k, none⟩ (.int .u8 (x.toNat : Int))) (.slice (some ⟨b, off, none⟩) bs.length c) (bs.set k x) := by
  refine ⟨some ⟨b, off, none⟩, c, by simp, .inr ⟨b, off, rfl, by simpa using hb, fun i hi => ?_⟩, by simpa using hc⟩
  have hi' : i < bs.length := by simpa using hi
  by_cases e : i = k
  · subst e
    rw [List.getElem_set_self]
    exact World.cell?_setCell_same _ _ _ (h i hi')
  · rw [List.getElem_set_ne (fun q => e q.symm), World.cell?_setCell_other _ _ _ _ (by intro q; have := congrArg Addr.off q; simp only at this; omega)]
    exact h i hi'
theorem row_at7 {B : Nat} {w : World} {a : Option Addr} {n c : Nat} {bs : List UInt8} (h : ByRow B w (.slice a n c) bs) (hl : 1 ≤ bs.length) : ∃ b off, a = some ⟨b, off, none⟩ ∧ n = bs.length ∧ B ≤ b ∧ b < w.heap.size ∧ bs.length ≤ c ∧ ByAt w b off bs ∧ ∀ i, i < bs.length → w.frozen? ⟨b, off + i, none⟩ = false := by
  obtain ⟨_, c', e, hin, hc⟩ := h.rd
  simp only [Value.slice.injEq] at e
  obtain ⟨rfl, rfl, rfl⟩ := e
  obtain ⟨S, ho, hS, hS2⟩ := h.own
  rcases ho with ⟨_, e, _⟩ | ⟨b, off, cap, hSb, e, hb, hx, hf, hcp⟩
  · subst e; simp at hl
  · simp only [Value.slice.injEq] at e
    obtain ⟨rfl, _, rfl⟩ := e
    exact ⟨b, off, rfl, rfl, hS b (by rw [hSb]; simp), hb, hcp, hx, hf⟩
theorem rd_some {w : World} {v : Value} {bs : List UInt8} (h : ByRd w v bs) (hl : 1 ≤ bs.length) : ∃ b off c, v = .slice (some ⟨b, off, none⟩) bs.length c ∧ bs.length ≤ c := by
  obtain ⟨a, c, rfl, hin, hc⟩ := h
  rcases hin with e | ⟨b, off, rfl, _⟩
  · subst e; simp at hl
  · exact ⟨b, off, c, rfl, hc⟩
theorem xor_ne7 (x y : UInt8) (h : y ≠ 0) : x ^^^ y ≠ x := by
  intro e
  apply h
  have : x ^^^ (x ^^^ y) = x ^^^ x := by rw [e]
  rwa [← UInt8.xor_assoc, UInt8.xor_self, UInt8.zero_xor] at this
theorem byLit7 (w : World) (B : Nat) (hB : B ≤ w.heap.size) : ByRow B (w.alloc (.cells #[] 5)) (.slice (some ⟨w.heap.size, 0, none⟩) 0 0) [] :=
  World.ownsRow_lit (size := 1) w #[] 0 hB (by unfold maxLen; omega) rfl
end Go.Proofs.Ytjflakafphbkmaa
