/-
  Lists of items copied and compared.
-/
import Derived.Test.YtcfnmhcdggnkaaaMerged28
set_option linter.unusedVariables false
namespace Go.Proofs.Ytcfnmhcdggnkaaa
open Go.RowKit Go.Maps Go.Deep

theorem infoItem : (Try.prog.info? 30).map (fun i => (i.zero, i.size, i.bytes)) = some (some (.agg #[.int .i64 0, .slice none 0 0]), 2, 32) := by kernel_rfl
/-- the first k of a row's cells are these; each one's marks lie in a block of their own, which is not the row's -/
def ItemTo (B : Nat) (w : World) (xs : List Value) (ns : List ItemV) (k : Nat) : Prop :=
  ∀ i (h : i < ns.length), i < k → xs[i * 2]? = some (.int .i64 ns[i].a0) ∧ ∃ g v, xs[i * 2 + 1]? = some v ∧ B < g ∧ MarkSOwn [g] w v ns[i].a1
theorem ItemTo.turn {B : Nat} {w w' : World} {xs : List Value} {ns : List ItemV} {k : Nat} (h : ItemTo B w xs ns k) (ht : Turn [B] w w') : ItemTo B w' xs ns k := by
  intro i hi hk
  obtain ⟨c0, g, v, c1, hg, hv⟩ := h i hi hk
  exact ⟨c0, g, v, c1, hg, hv.turn ht (fun j hj hm => by simp at hj hm; omega)⟩
theorem itemTo_step {B : Nat} {w : World} {xs : List Value} {ns : List ItemV} {k g : Nat} {v : Value} (hk : k < ns.length) (hx : xs.length = ns.length * 2) (h : ItemTo B w xs ns k) (hg : B < g) (hv : MarkSOwn [g] w v ns[k].a1) :
    ItemTo B w ((xs.set (k * 2) (.int .i64 ns[k].a0)).set (k * 2 + 1) v) ns (k + 1) := by
  intro i hi hik
  by_cases e : i = k
  · subst e
    refine ⟨?_, g, v, ?_, hg, hv⟩
    · simp [List.getElem?_set, hx]; omega
    · simp [List.getElem?_set, hx]; omega
  · obtain ⟨c0, g', v', c1, hg', hv'⟩ := h i hi (by omega)
    refine ⟨?_, g', v', ?_, hg', hv'⟩ <;> (repeat rw [List.getElem?_set_ne (by omega)]) <;> assumption
theorem itemOfRow {w : World} {base : Nat} {e : TypeId} {g n cap B : Nat} {xs : List Value} {ns : List ItemV} (h : w.ownsRow base e 2 (.slice (some ⟨g, 0, none⟩) n cap) n xs) (hn : ns.length = n) (ht : ItemTo B w xs ns n) : ItemAt w g 0 ns := by
  intro i hi
  obtain ⟨c0, g', v, c1, _, hv⟩ := ht i hi (by omega)
  refine ⟨?_, v, ?_, hv.rd⟩
  all_goals
    rw [Nat.zero_add, h.cellAt _ (by omega)]
    assumption
/-- for laws that mark nothing: what was copied may be read -/
def ItemSOwn (S : List Nat) (w : World) (v : Value) (ns : List ItemV) : Prop := S = [] ∧ ItemSRd w v ns
theorem ItemSOwn.rd {S : List Nat} {w : World} {v : Value} {ns : List ItemV} (h : ItemSOwn S w v ns) : ItemSRd w v ns := h.2
theorem ItemSOwn.up {S : List Nat} {w w' : World} {v : Value} {ns : List ItemV} (h : ItemSOwn S w v ns) (hb : Below w.heap.size w w') : ItemSOwn S w' v ns := ⟨h.1, h.2.up hb⟩
theorem ItemSOwn.lt {S : List Nat} {w : World} {v : Value} {ns : List ItemV} (h : ItemSOwn S w v ns) : ∀ k ∈ S, k < w.heap.size := by rw [h.1]; simp
def nItemS (ns : List ItemV) : Nat := ns.length
theorem nItemS_le {ns : List ItemV} (h : SmallItemS ns) : nItemS ns ≤ 100000000 := by have := h.1; unfold nItemS; omega
end Go.Proofs.Ytcfnmhcdggnkaaa
