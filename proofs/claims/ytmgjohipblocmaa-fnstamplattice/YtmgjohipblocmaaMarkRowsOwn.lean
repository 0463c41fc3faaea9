/-
  Lists of Mark for reading and of one's own: copied, compared, marked, and found marked again. (Made by wip/mkrows.py.)
-/
import Derived.Test.YtmgjohipblocmaaMarkRows
import Derived.Deep.RegionHeld3
set_option linter.unusedVariables false
namespace Go.Proofs.Ytmgjohipblocmaa
open Go.RowKit Go.Maps Go.Deep

def MarkSRd (w : World) (v : Value) (ns : List MarkV) : Prop := ∃ a c, v = .slice a ns.length c ∧ MarkIn w a ns
def MarkSOwn (S : List Nat) (w : World) (v : Value) (ns : List MarkV) : Prop :=
  (S = [] ∧ ns = [] ∧ ∃ a c, v = .slice a 0 c) ∨ ∃ b off cap, S = [b] ∧ v = .slice (some ⟨b, off, none⟩) ns.length cap ∧ b < w.heap.size ∧ MarkAt w b off ns ∧ ∀ i, i < ns.length * 2 → w.frozen? ⟨b, off + i, none⟩ = false
theorem MarkAt.turn {w w' : World} {S : List Nat} {b off : Nat} {ns : List MarkV} (h : MarkAt w b off ns) (ht : Turn S w w') (hb : b < w.heap.size) (hS : b ∉ S) : MarkAt w' b off ns := by
  intro i hi
  obtain ⟨c0, c1⟩ := h i hi
  exact ⟨(ht.cell hb hS).trans c0, (ht.cell hb hS).trans c1⟩
theorem MarkSRd.up {w w' : World} {v : Value} {ns : List MarkV} (h : MarkSRd w v ns) (hb : Below w.heap.size w w') : MarkSRd w' v ns := by
  obtain ⟨a, c, e, h⟩ := h
  exact ⟨a, c, e, h.below hb⟩
theorem MarkSRd.len {w : World} {v : Value} {ns : List MarkV} (h : MarkSRd w v ns) : ∃ a c, v = .slice a ns.length c := by
  obtain ⟨a, c, e, _⟩ := h
  exact ⟨a, c, e⟩
theorem MarkSRd.form {w : World} {v : Value} {ns : List MarkV} (h : MarkSRd w v ns) : ∃ a n c, v = .slice a n c := by
  obtain ⟨a, c, e⟩ := h.len
  exact ⟨a, _, c, e⟩
theorem MarkSOwn.rd {S : List Nat} {w : World} {v : Value} {ns : List MarkV} (h : MarkSOwn S w v ns) : MarkSRd w v ns := by
  rcases h with ⟨_, rfl, a, c, rfl⟩ | ⟨b, off, cap, _, rfl, hb, hc, _⟩
  · exact ⟨a, c, rfl, .inl rfl⟩
  · exact ⟨_, cap, rfl, .inr ⟨b, off, rfl, hb, hc⟩⟩
theorem MarkSOwn.turn {S S' : List Nat} {w w' : World} {v : Value} {ns : List MarkV} (h : MarkSOwn S w v ns) (ht : Turn S' w w') (hS : ∀ k ∈ S, k ∉ S') : MarkSOwn S w' v ns := by
  rcases h with h | ⟨b, off, cap, rfl, rfl, hb, hc, hf⟩
  · exact .inl h
  · have hn := hS b (by simp)
    exact .inr ⟨b, off, cap, rfl, rfl, Nat.lt_of_lt_of_le hb ht.size, hc.turn ht hb hn, fun i hi => (ht.frozen hb hn).trans (hf i hi)⟩
theorem MarkSOwn.up {S : List Nat} {w w' : World} {v : Value} {ns : List MarkV} (h : MarkSOwn S w v ns) (hb : Below w.heap.size w w') : MarkSOwn S w' v ns := h.turn (Turn.of_below (S := []) hb) (by simp)
theorem MarkSOwn.lt {S : List Nat} {w : World} {v : Value} {ns : List MarkV} (h : MarkSOwn S w v ns) : ∀ k ∈ S, k < w.heap.size := by
  rcases h with ⟨rfl, _⟩ | ⟨b, off, cap, rfl, rfl, hb, _⟩
  · simp
  · simpa using hb
def SmallMarkS (ns : List MarkV) : Prop := MarkSmall ns ∧ MarkOk ns
def MarkSFit (ns : List MarkV) : Prop := ns.length ≤ maxLen ∧ MarkOk ns
def nMarkS (ns : List MarkV) : Nat := 2 * ns.length
theorem nMarkS_le {ns : List MarkV} (h : SmallMarkS ns) : nMarkS ns ≤ 100000000 := by have := h.1.1; unfold nMarkS; omega
end Go.Proofs.Ytmgjohipblocmaa
