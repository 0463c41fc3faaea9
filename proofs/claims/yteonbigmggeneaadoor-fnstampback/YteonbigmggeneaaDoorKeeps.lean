/-
  What the rounds of a range over a function keep: all blocks below a number but the listed ones.
-/
import Derived.Test.YteonbigmggeneaaDoorTurns
import Derived.RangeFuncNested
import Derived.RangeFuncBound
import Derived.RangeFuncCalls
import Derived.RangeFuncLeaves
import Derived.Shelf.Abstract
import Derived.Shelf.RegionOpen
import Derived.OwnWalkIn
import Derived.TacticsInMore
import Derived.LoopNIn
import Derived.LoopIn
set_option linter.unusedVariables false
namespace Go.Proofs.YteonbigmggeneaaDoor
open Go.RowKit Go.Maps Go.Shelf

structure Keep (n₀ : Nat) (S : List Nat) (w w' : World) : Prop where
  size : w.heap.size ≤ w'.heap.size
  block : ∀ k, k < n₀ → k ∉ S → w'.heap[k]? = w.heap[k]?
theorem Keep.refl (n₀ : Nat) (S : List Nat) (w : World) : Keep n₀ S w w := ⟨Nat.le_refl _, fun _ _ _ => rfl⟩
theorem Keep.trans {n₀ : Nat} {S : List Nat} {a b c : World} (h : Keep n₀ S a b) (k : Keep n₀ S b c) : Keep n₀ S a c := ⟨Nat.le_trans h.size k.size, fun i hi hS => (k.block i hi hS).trans (h.block i hi hS)⟩
theorem Keep.of_below {n₀ : Nat} {S : List Nat} {a b : World} (h : Below n₀ a b) : Keep n₀ S a b := ⟨h.size, fun k hk _ => h.block k hk⟩
theorem Keep.of_turn {n₀ : Nat} {S S' : List Nat} {a b : World} (h : Turn S a b) (hn : n₀ ≤ a.heap.size) (hS : ∀ k ∈ S, k ∈ S' ∨ n₀ ≤ k) : Keep n₀ S' a b :=
  ⟨h.size, fun k hk hn' => h.block k (Nat.lt_of_lt_of_le hk hn) (fun hm => (hS k hm).elim hn' (fun e => by omega))⟩
theorem Keep.cell {n₀ : Nat} {S : List Nat} {a b : World} (h : Keep n₀ S a b) {g i : Nat} (hg : g < n₀) (hS : g ∉ S) : b.cell? ⟨g, i, none⟩ = a.cell? ⟨g, i, none⟩ := World.cell?_of_block (w := a) (a := ⟨g, i, none⟩) (h.block g hg hS)
theorem Keep.alloc {n₀ : Nat} {S : List Nat} {a b : World} (h : Keep n₀ S a b) (hn : n₀ ≤ b.heap.size) (o : Obj) : Keep n₀ S a (b.alloc o) := h.trans (Keep.of_below ((Below.refl _ _).alloc hn o))
theorem Keep.setCell {n₀ : Nat} {S : List Nat} {a b : World} (h : Keep n₀ S a b) {g : Nat} (hg : g ∈ S ∨ n₀ ≤ g) (i : Nat) (v : Value) : Keep n₀ S a (b.setCell ⟨g, i, none⟩ v) :=
  h.trans ⟨by simp, fun k hk hS => Below.heap_setCell b ⟨g, i, none⟩ v k (fun e => by subst e; exact hg.elim hS (fun e => by omega))⟩
theorem keepK_t {n₀ : Nat} {S : List Nat} {A B C : World} (h : Keep n₀ S A B) (k : Keep n₀ S B C) : Keep n₀ S A C := h.trans k
theorem keepK_b {w : World} {n₀ : Nat} {S : List Nat} (hn : n₀ ≤ w.heap.size) (W : World) (l : Nat) (o o' : Obj) (hl : w.heap.size ≤ l) (h : W.heap[l]? = some o) (hc : o.isCells = false) (hw : o.isWalk = false) : Keep n₀ S W (W.putObj l o') :=
  ⟨by simp, fun k hk _ => World.putObj_heap_other (fun e => by omega)⟩
end Go.Proofs.YteonbigmggeneaaDoor
