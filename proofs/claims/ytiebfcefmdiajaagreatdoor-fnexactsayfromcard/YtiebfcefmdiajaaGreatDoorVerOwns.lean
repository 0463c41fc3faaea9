/-
  Lists of versions: for reading, and as rows of one's own.
-/
import Derived.Test.YtiebfcefmdiajaaGreatDoorVers
set_option linter.unusedVariables false
namespace Go.Proofs.YtiebfcefmdiajaaGreatDoor
open Go.RowKit Go.Maps Go.Deep

def VerRd (w : World) (v : Value) (ns : List VerV) : Prop := ∃ a c, v = .slice a ns.length c ∧ VerIn w a ns
def VerOwn (S : List Nat) (w : World) (v : Value) (ns : List VerV) : Prop :=
  (S = [] ∧ ns = [] ∧ ∃ a c, v = .slice a 0 c) ∨ ∃ b off cap, S = [b] ∧ v = .slice (some ⟨b, off, none⟩) ns.length cap ∧ b < w.heap.size ∧ VerAt w b off ns ∧ ∀ i, i < ns.length * 2 → w.frozen? ⟨b, off + i, none⟩ = false
theorem VerAt.turn {w w' : World} {S : List Nat} {b off : Nat} {ns : List VerV} (h : VerAt w b off ns) (ht : Turn S w w') (hb : b < w.heap.size) (hS : b ∉ S) : VerAt w' b off ns := by
  intro i hi
  obtain ⟨c0, c1⟩ := h i hi
  exact ⟨(ht.cell hb hS).trans c0, (ht.cell hb hS).trans c1⟩
theorem VerRd.up {w w' : World} {v : Value} {ns : List VerV} (h : VerRd w v ns) (hb : Below w.heap.size w w') : VerRd w' v ns := by
  obtain ⟨a, c, e, h⟩ := h
  exact ⟨a, c, e, h.below hb⟩
theorem VerRd.len {w : World} {v : Value} {ns : List VerV} (h : VerRd w v ns) : ∃ a c, v = .slice a ns.length c := by
  obtain ⟨a, c, e, _⟩ := h
  exact ⟨a, c, e⟩
theorem VerOwn.rd {S : List Nat} {w : World} {v : Value} {ns : List VerV} (h : VerOwn S w v ns) : VerRd w v ns := by
  rcases h with ⟨_, rfl, a, c, rfl⟩ | ⟨b, off, cap, _, rfl, hb, hc, _⟩
  · exact ⟨a, c, rfl, .inl rfl⟩
  · exact ⟨_, cap, rfl, .inr ⟨b, off, rfl, hb, hc⟩⟩
theorem VerOwn.turn {S S' : List Nat} {w w' : World} {v : Value} {ns : List VerV} (h : VerOwn S w v ns) (ht : Turn S' w w') (hS : ∀ k ∈ S, k ∉ S') : VerOwn S w' v ns := by
  rcases h with h | ⟨b, off, cap, rfl, rfl, hb, hc, hf⟩
  · exact .inl h
  · have hn := hS b (by simp)
    exact .inr ⟨b, off, cap, rfl, rfl, Nat.lt_of_lt_of_le hb ht.size, hc.turn ht hb hn, fun i hi => (ht.frozen hb hn).trans (hf i hi)⟩
theorem VerOwn.up {S : List Nat} {w w' : World} {v : Value} {ns : List VerV} (h : VerOwn S w v ns) (hb : Below w.heap.size w w') : VerOwn S w' v ns := h.turn (Turn.of_below (S := []) hb) (by simp)
theorem VerOwn.lt {S : List Nat} {w : World} {v : Value} {ns : List VerV} (h : VerOwn S w v ns) : ∀ k ∈ S, k < w.heap.size := by
  rcases h with ⟨rfl, _⟩ | ⟨b, off, cap, rfl, rfl, hb, _⟩
  · simp
  · simpa using hb
theorem eqVerS_rd (w : World) (v v' : Value) (ns : List VerV) (hl : ns.length ≤ 281474976710656) (h : VerRd w v ns) (h' : VerRd w v' ns) :
    Calls Tryz.prog 28 #[v, v'] w fun e w' => e = .returned (.bool true) ∧ Below w.heap.size w w' := by
  obtain ⟨a, c, rfl, h⟩ := h
  obtain ⟨a', c', rfl, h'⟩ := h'
  rcases h with rfl | ⟨b, off, rfl, hb, hc⟩
  · go_enter Tryz.func28, Tryz.ntmps28
    go_wp2
    refine wp_loop_rounds 1 ?_
    rw [rounds_succ]
    go_wp2
    go_ret
    exact ⟨rfl, Below.refl _ _⟩
  · rcases h' with rfl | ⟨b', off', rfl, hb', hc'⟩
    · go_enter Tryz.func28, Tryz.ntmps28
      go_wp2
      refine wp_loop_rounds 1 ?_
      rw [rounds_succ]
      go_wp2
      go_ret
      exact ⟨rfl, Below.refl _ _⟩
    · exact eqVerS_same w b off c b' off' c' ns hl hc hc' hb hb'
end Go.Proofs.YtiebfcefmdiajaaGreatDoor
