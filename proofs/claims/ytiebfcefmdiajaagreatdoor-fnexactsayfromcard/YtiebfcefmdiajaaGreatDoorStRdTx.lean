/-
  Rows of texts, opened.
-/
import Derived.Test.YtiebfcefmdiajaaGreatDoorStrApp
set_option linter.unusedVariables false
namespace Go.Proofs.YtiebfcefmdiajaaGreatDoor
open Go.RowKit Go.Maps Go.Deep

theorem TxRow.at {B : Nat} {w : World} {a : Option Addr} {n c : Nat} {ts : List ByteArray} (h : TxRow B w (.slice a n c) ts) (h0 : 0 < ts.length) : n = ts.length ∧ ∃ g, a = some ⟨g, 0, none⟩ ∧ g < w.heap.size ∧ ∀ i (hi : i < ts.length), w.cell? ⟨g, i, none⟩ = some (.string ts[i]) := by
  have hh : w.ownsRow B 9 1 (.slice a n c) ts.length (ts.map .string) := h
  rcases h with ⟨_, ⟨e, h00⟩ | ⟨g, cap, cur, e, hB, hg, hnc, _⟩⟩
  · omega
  · simp only [Value.slice.injEq] at e
    obtain ⟨rfl, rfl, rfl⟩ := e
    exact ⟨rfl, g, rfl, (Array.getElem?_eq_some_iff.1 hg).1, fun i hi => by rw [hh.cellAt _ (by omega)]; simp [hi]⟩
end Go.Proofs.YtiebfcefmdiajaaGreatDoor
