/-
  Lists of items copied and compared.
-/
/-
  Lists of items of one's own: the row's block, and a block for each one's marks; copied so.
-/
/-
  Marks over a list of marks, found again.
-/
/-
  One item's marks written, and found again.
-/
/-
  The marks of a list of items written, and found again; one item as an answer of one's own.
-/
/-
  One item for reading and of one's own, as an argument or an answer of a law.
-/
/-
  A list of items that comes in is opened.
-/
import Derived.Test.YtlbhandkpnjgmaaMerged13
import Derived.Test.YtlbhandkpnjgmaaMerged9
import Derived.Deep.RegionHeld3
import Derived.ProofKit
import Derived.OpenShut
set_option linter.unusedVariables false
namespace Go.Proofs.Ytlbhandkpnjgmaa
open Go.RowKit Go.Maps Go.Deep

theorem infoItem : (Try.prog.info? 30).map (fun i => (i.zero, i.size, i.bytes)) = some (some (.agg #[.int .i64 0, .slice none 0 0]), 2, 32) := by kernel_rfl
/-- the first k of a row's cells are these; each one's marks lie in a block of their own, which is not the row's -/
def ItemTo (B : Nat) (w : World) (xs : List Value) (ns : List ItemV) (k : Nat) : Prop :=
  ∀ i (h : i < ns.length), i < k → xs[i * 2]? = some (.int .i64 ns[i].a0) ∧ ∃ g v, xs[i * 2 + 1]? = some v ∧ B < g ∧ MarkSOwn [g] w v ns[i].a1
theorem ItemTo.turn {B : Nat} {w w' : World} {xs : List Value} {ns : List ItemV} {k : Nat} (h : ItemTo B w xs ns k) (ht : Turn [B] w w') : ItemTo B w' xs ns k := by
  intro i hi hk
  obtain ⟨c0, g, v, c1, hg, hv⟩ := h i hi hk
  exact ⟨c0, g, v, c1, hg, hv.turn ht (fun j hj hm => by simp at hj hm; omega)⟩
theorem itemTo_step {B : Nat} {w : World} {xs : List Value} {ns : List ItemV} {k g : Nat} {v : Value} (hk : k < ns.length) (hx : xs.length = ns.length * 2) (h : ItemTo B w xs ns k) (hg : B < g) (hv : MarkSOwn [g] w v ns[k].a1) :
    ItemTo B w ((xs.set (k * 2) (.int .i64 ns[k].a0)).set (k * 2 + 1) v) ns (k + 1) := by
  intro i hi hik
  by_cases e : i = k
  · subst e
    refine ⟨?_, g, v, ?_, hg, hv⟩
    · simp [List.getElem?_set, hx]; omega
    · simp [List.getElem?_set, hx]; omega
  · obtain ⟨c0, g', v', c1, hg', hv'⟩ := h i hi (by omega)
    refine ⟨?_, g', v', ?_, hg', hv'⟩ <;> (repeat rw [List.getElem?_set_ne (by omega)]) <;> assumption
theorem itemOfRow {w : World} {base : Nat} {e : TypeId} {g n cap B : Nat} {xs : List Value} {ns : List ItemV} (h : w.ownsRow base e 2 (.slice (some ⟨g, 0, none⟩) n cap) n xs) (hn : ns.length = n) (ht : ItemTo B w xs ns n) : ItemAt w g 0 ns := by
  intro i hi
  obtain ⟨c0, g', v, c1, _, hv⟩ := ht i hi (by omega)
  refine ⟨?_, v, ?_, hv.rd⟩
  all_goals
    rw [Nat.zero_add, h.cellAt _ (by omega)]
    assumption
/-- for laws that mark nothing: what was copied may be read -/
def ItemSOwn (S : List Nat) (w : World) (v : Value) (ns : List ItemV) : Prop := S = [] ∧ ItemSRd w v ns
theorem ItemSOwn.rd {S : List Nat} {w : World} {v : Value} {ns : List ItemV} (h : ItemSOwn S w v ns) : ItemSRd w v ns := h.2
theorem ItemSOwn.up {S : List Nat} {w w' : World} {v : Value} {ns : List ItemV} (h : ItemSOwn S w v ns) (hb : Below w.heap.size w w') : ItemSOwn S w' v ns := ⟨h.1, h.2.up hb⟩
theorem ItemSOwn.lt {S : List Nat} {w : World} {v : Value} {ns : List ItemV} (h : ItemSOwn S w v ns) : ∀ k ∈ S, k < w.heap.size := by rw [h.1]; simp
def nItemS (ns : List ItemV) : Nat := ns.length
theorem nItemS_le {ns : List ItemV} (h : SmallItemS ns) : nItemS ns ≤ 100000000 := by have := h.1; unfold nItemS; omega
end Go.Proofs.Ytlbhandkpnjgmaa

set_option linter.unusedVariables false
namespace Go.Proofs.Ytlbhandkpnjgmaa
open Go.RowKit Go.Maps Go.Deep

/-- they lie one behind the other; each one's marks lie in blocks of their own, which are not the row's -/
def ItemOwnAt (w : World) (b off : Nat) (ns : List ItemV) (G : Nat → List Nat) : Prop :=
  ∀ i (h : i < ns.length), w.cell? ⟨b, off + i * 2, none⟩ = some (.int .i64 ns[i].a0) ∧ b ∉ G i ∧ ∃ v, w.cell? ⟨b, off + i * 2 + 1, none⟩ = some v ∧ MarkSOwn (G i) w v ns[i].a1
def ApartG (G : Nat → List Nat) (n : Nat) : Prop := ∀ i j, i < n → j < n → i ≠ j → ∀ k ∈ G i, k ∉ G j
/-- a row of items in the blocks S -/
structure ItemRowOwn (S : List Nat) (w : World) (b off : Nat) (ns : List ItemV) (G : Nat → List Nat) : Prop where
  mem : b ∈ S
  sub : ∀ i, i < ns.length → ∀ k ∈ G i, k ∈ S
  fz : ∀ i, i < ns.length * 2 → w.frozen? ⟨b, off + i, none⟩ = false
  apart : ApartG G ns.length
  at' : ItemOwnAt w b off ns G
def ItemSFull (S : List Nat) (w : World) (v : Value) (ns : List ItemV) : Prop :=
  ∃ a c, v = .slice a ns.length c ∧ ns.length ≤ c ∧ (∀ k ∈ S, k < w.heap.size) ∧ (ns = [] ∨ ∃ b off G, a = some ⟨b, off, none⟩ ∧ ItemRowOwn S w b off ns G)
theorem ItemOwnAt.rd {w : World} {b off : Nat} {ns : List ItemV} {G : Nat → List Nat} (h : ItemOwnAt w b off ns G) : ItemAt w b off ns := by
  intro i hi
  obtain ⟨c0, _, v, c1, hv⟩ := h i hi
  exact ⟨c0, v, c1, hv.rd⟩
theorem ItemSFull.rd {S : List Nat} {w : World} {v : Value} {ns : List ItemV} (h : ItemSFull S w v ns) : ItemSRd w v ns := by
  obtain ⟨a, c, rfl, _, hl, h⟩ := h
  rcases h with h | ⟨b, off, G, rfl, h⟩
  · exact ⟨a, c, rfl, .inl h⟩
  · exact ⟨_, c, rfl, .inr ⟨b, off, rfl, hl b h.mem, h.at'.rd⟩⟩
theorem ItemSFull.lt {S : List Nat} {w : World} {v : Value} {ns : List ItemV} (h : ItemSFull S w v ns) : ∀ k ∈ S, k < w.heap.size := by
  obtain ⟨a, c, rfl, _, hl, h⟩ := h
  exact hl
theorem ItemSFull.turn {S S' : List Nat} {w w' : World} {v : Value} {ns : List ItemV} (h : ItemSFull S w v ns) (ht : Turn S' w w') (hS : ∀ k ∈ S, k ∉ S') : ItemSFull S w' v ns := by
  obtain ⟨a, c, rfl, hc, hl, h⟩ := h
  refine ⟨a, c, rfl, hc, fun k hk => Nat.lt_of_lt_of_le (hl k hk) ht.size, ?_⟩
  rcases h with h | ⟨b, off, G, rfl, h⟩
  · exact .inl h
  · have hb := hl b h.mem
    have hn := hS b h.mem
    refine .inr ⟨b, off, G, rfl, h.mem, h.sub, fun i hi => (ht.frozen hb hn).trans (h.fz i hi), h.apart, ?_⟩
    intro i hi
    obtain ⟨c0, hg, v, c1, hv⟩ := h.at' i hi
    exact ⟨(ht.cell hb hn).trans c0, hg, v, (ht.cell hb hn).trans c1, hv.turn ht (fun k hk => hS k (h.sub i hi k hk))⟩
theorem ItemSFull.up {S : List Nat} {w w' : World} {v : Value} {ns : List ItemV} (h : ItemSFull S w v ns) (hb : Below w.heap.size w w') : ItemSFull S w' v ns := h.turn (Turn.of_below (S := []) hb) (by simp)
/-- the first k of a row's cells are these; each one's marks lie in a block of their own, one behind the other, behind the row's and ahead of N -/
def ItemToF (B N : Nat) (w : World) (xs : List Value) (ns : List ItemV) (k : Nat) : Prop :=
  ∃ G : Nat → Nat, (∀ i (h : i < ns.length), i < k → xs[i * 2]? = some (.int .i64 ns[i].a0) ∧ B < G i ∧ ∃ v, xs[i * 2 + 1]? = some v ∧ MarkSOwn [G i] w v ns[i].a1) ∧ (∀ i j, i < j → j < k → G i < G j) ∧ ∀ i, i < k → G i < N
theorem ItemToF.turn {B N : Nat} {w w' : World} {xs : List Value} {ns : List ItemV} {k : Nat} (h : ItemToF B N w xs ns k) (ht : Turn [B] w w') : ItemToF B N w' xs ns k := by
  obtain ⟨G, h, hm⟩ := h
  refine ⟨G, fun i hi hk => ?_, hm⟩
  obtain ⟨c0, hg, v, c1, hv⟩ := h i hi hk
  exact ⟨c0, hg, v, c1, hv.turn ht (fun j hj hm => by simp at hj hm; omega)⟩
theorem itemToF_step {B N N' : Nat} {w : World} {xs : List Value} {ns : List ItemV} {k g : Nat} {v : Value} (hk : k < ns.length) (hx : xs.length = ns.length * 2) (h : ItemToF B N w xs ns k) (hg : B < g) (hN : N ≤ g) (hN' : g < N') (hv : MarkSOwn [g] w v ns[k].a1) :
    ItemToF B N' w ((xs.set (k * 2) (.int .i64 ns[k].a0)).set (k * 2 + 1) v) ns (k + 1) := by
  obtain ⟨G, h, hm, hn⟩ := h
  refine ⟨fun i => if i = k then g else G i, fun i hi hik => ?_, fun i j hij hj => ?_, fun i hi => ?_⟩
  · by_cases e : i = k
    · subst e
      simp only [if_true]
      refine ⟨?_, hg, v, ?_, hv⟩
      · simp [List.getElem?_set, hx]; omega
      · simp [List.getElem?_set, hx]; omega
    · obtain ⟨c0, hg', v', c1, hv'⟩ := h i hi (by omega)
      simp only [if_neg e]
      refine ⟨?_, hg', v', ?_, hv'⟩ <;> (repeat rw [List.getElem?_set_ne (by omega)]) <;> assumption
  · have e1 : ¬ i = k := by omega
    simp only [if_neg e1]
    by_cases e2 : j = k
    · rw [if_pos e2]; have := hn i (by omega); omega
    · rw [if_neg e2]; exact hm i j hij (by omega)
  · by_cases e : i = k
    · simp only [if_pos e]; exact hN'
    · simp only [if_neg e]; have := hn i (by omega); omega
theorem itemFullOfRow {w : World} {base : Nat} {e : TypeId} {g n : Nat} {xs : List Value} {ns : List ItemV} (h : w.ownsRow base e 2 (.slice (some ⟨g, 0, none⟩) n n) n xs) (hn : ns.length = n) (hg : g < w.heap.size) (hfz : ∀ i, i < n * 2 → w.frozen? ⟨g, i, none⟩ = false) {N : Nat} (ht : ItemToF g N w xs ns n) : ∃ S, ItemSFull S w (.slice (some ⟨g, 0, none⟩) n n) ns ∧ ∀ k ∈ S, g ≤ k := by
  subst hn
  obtain ⟨G, ht, hm, _⟩ := ht
  refine ⟨g :: (List.range ns.length).map G, ⟨_, _, rfl, Nat.le_refl _, ?_, ?_⟩, ?_⟩
  · intro k hk
    simp at hk
    rcases hk with rfl | ⟨i, hi, rfl⟩
    · exact hg
    · obtain ⟨_, _, v, _, hv⟩ := ht i hi hi
      exact hv.lt _ (by simp)
  · refine .inr ⟨g, 0, fun i => [G i], rfl, by simp, ?_, ?_, ?_, ?_⟩
    · intro i hi k hk
      simp at hk ⊢
      exact .inr ⟨i, hi, hk.symm⟩
    · intro i hi
      rw [Nat.zero_add]
      exact hfz i hi
    · intro i j hi hj hij k hk hk'
      simp at hk hk'
      rcases Nat.lt_or_gt_of_ne hij with hl | hl
      · have := hm i j hl hj; omega
      · have := hm j i hl hi; omega
    · intro i hi
      obtain ⟨c0, hB, v, c1, hv⟩ := ht i hi hi
      refine ⟨?_, by simp; omega, v, ?_, hv⟩
      all_goals
        rw [Nat.zero_add, h.cellAt _ (by omega)]
        assumption
  · intro k hk
    simp at hk
    rcases hk with rfl | ⟨i, hi, rfl⟩
    · exact Nat.le_refl _
    · exact Nat.le_of_lt (ht i hi hi).2.1
theorem rowFrozen {w : World} {base : Nat} {e : TypeId} {g n cap : Nat} {xs : List Value} (h : w.ownsRow base e 2 (.slice (some ⟨g, 0, none⟩) n cap) n xs) : ∀ i, i < n * 2 → w.frozen? ⟨g, i, none⟩ = false := by
  intro i hi
  obtain ⟨v0, v1, d0, d1, f0, f1⟩ := markCells h (i / 2) (by omega)
  rcases Nat.mod_two_eq_zero_or_one i with e | e
  · have : i / 2 * 2 = i := by omega
    rw [this] at f0
    exact f0
  · have : i / 2 * 2 + 1 = i := by omega
    rw [this] at f1
    exact f1
end Go.Proofs.Ytlbhandkpnjgmaa

set_option linter.unusedVariables false
namespace Go.Proofs.Ytlbhandkpnjgmaa
open Go.RowKit Go.Maps Go.Deep

end Go.Proofs.Ytlbhandkpnjgmaa

set_option linter.unusedVariables false
namespace Go.Proofs.Ytlbhandkpnjgmaa
open Go.RowKit Go.Maps Go.Deep

end Go.Proofs.Ytlbhandkpnjgmaa

set_option linter.unusedVariables false
namespace Go.Proofs.Ytlbhandkpnjgmaa
open Go.RowKit Go.Maps Go.Deep

end Go.Proofs.Ytlbhandkpnjgmaa

set_option linter.unusedVariables false
namespace Go.Proofs.Ytlbhandkpnjgmaa
open Go.RowKit Go.Maps Go.Deep

def ItemRd (w : World) (v : Value) (x : ItemV) : Prop := ∃ u, v = .agg #[.int .i64 x.a0, u] ∧ MarkSRd w u x.a1
def ItemOwn (S : List Nat) (w : World) (v : Value) (x : ItemV) : Prop := ∃ u, v = .agg #[.int .i64 x.a0, u] ∧ MarkSOwn S w u x.a1
theorem ItemRd.form {w : World} {v : Value} {x : ItemV} (h : ItemRd w v x) : ∃ z a n c, v = .agg #[.int .i64 z, .slice a n c] := by
  obtain ⟨u, rfl, h⟩ := h
  obtain ⟨a, n, c, rfl⟩ := h.form
  exact ⟨_, a, n, c, rfl⟩
theorem ItemRd.up {w w' : World} {v : Value} {x : ItemV} (h : ItemRd w v x) (hb : Below w.heap.size w w') : ItemRd w' v x := by
  obtain ⟨u, rfl, h⟩ := h
  exact ⟨u, rfl, h.up hb⟩
theorem ItemOwn.rd {S : List Nat} {w : World} {v : Value} {x : ItemV} (h : ItemOwn S w v x) : ItemRd w v x := by
  obtain ⟨u, rfl, h⟩ := h
  exact ⟨u, rfl, h.rd⟩
theorem ItemOwn.turn {S S' : List Nat} {w w' : World} {v : Value} {x : ItemV} (h : ItemOwn S w v x) (ht : Turn S' w w') (hS : ∀ k ∈ S, k ∉ S') : ItemOwn S w' v x := by
  obtain ⟨u, rfl, h⟩ := h
  exact ⟨u, rfl, h.turn ht hS⟩
theorem ItemOwn.up {S : List Nat} {w w' : World} {v : Value} {x : ItemV} (h : ItemOwn S w v x) (hb : Below w.heap.size w w') : ItemOwn S w' v x := by
  obtain ⟨u, rfl, h⟩ := h
  exact ⟨u, rfl, h.up hb⟩
theorem ItemOwn.lt {S : List Nat} {w : World} {v : Value} {x : ItemV} (h : ItemOwn S w v x) : ∀ k ∈ S, k < w.heap.size := by
  obtain ⟨u, rfl, h⟩ := h
  exact h.lt
end Go.Proofs.Ytlbhandkpnjgmaa

set_option linter.unusedVariables false
namespace Go.Proofs.Ytlbhandkpnjgmaa
open Go.RowKit Go.Maps Go.Deep

end Go.Proofs.Ytlbhandkpnjgmaa
