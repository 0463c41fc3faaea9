/-
  A region that draws its order and whose calls may make new blocks (and write into none that was there): walked once, in the order of the text, over the class of all later worlds.
-/
/-
  What the rounds of a range over a function keep: all blocks below a number but the listed ones.
-/
import Derived.Test.YtnijccmhajjdoaaMerged1
import Derived.BigQuiet
import Derived.Deep.QuietTactic
import Derived.RangeFuncNested
import Derived.RangeFuncBound
import Derived.RangeFuncCalls
import Derived.RangeFuncLeaves
import Derived.Shelf.Abstract
import Derived.Shelf.RegionOpen
import Derived.OwnWalkIn
import Derived.TacticsInMore
import Derived.LoopNIn
import Derived.LoopIn
set_option linter.unusedVariables false
namespace Go.Proofs.Ytnijccmhajjdoaa
open Go.RowKit Go.Maps

/-- a world in which all blocks of W are as they were -/
structure LaterW (W : World) where
  to : World
  bel : Below W.heap.size W to
instance (W : World) : Nonempty (LaterW W) := ⟨⟨W, Below.refl _ _⟩⟩
theorem LaterW.cell {W : World} (x : LaterW W) {g i : Nat} {v : Value} (h : W.cell? ⟨g, i, none⟩ = some v) : x.to.cell? ⟨g, i, none⟩ = some v := (x.bel.cell (lt_of_cell0 h)).trans h
theorem LaterW.frozen {W : World} (x : LaterW W) {g i : Nat} (hg : g < W.heap.size) (h : W.frozen? ⟨g, i, none⟩ = false) : x.to.frozen? ⟨g, i, none⟩ = false := (x.bel.frozen (by exact hg)).trans h
theorem LaterW.on {W w' : World} (x : LaterW W) (h : Below x.to.heap.size x.to w') : ∃ y : LaterW W, w' = y.to := ⟨⟨w', x.bel.trans (h.mono x.bel.size)⟩, rfl⟩
theorem wp_region_later {P : Program} {id : Nat} {Q : Exit → Act → World → Prop} {a : Act} {w : World} {l : List Oper} (hm : P.follows .mixedOrders = true) (hB : Region.lexB .any l.toArray = true)
    (h : wpQuiet P l.toArray (fun w' => ∃ x : LaterW w, w' = x.to) (fun a' => ∀ w', (∃ x : LaterW w, w' = x.to) → Q .normal a' w') l a) : (Code.region id l.toArray true).wp P Q a w :=
  wp_region_quiet (C := fun w' => ∃ x : LaterW w, w' = x.to) hm hB ⟨⟨{ w with drawn := w.drawn + 1 }, ⟨rfl, rfl, rfl, Nat.le_refl _, fun _ _ => rfl⟩⟩, rfl⟩ h
theorem quiet_ret {P : Program} {W : World} {f : FuncId} {args : Array Value} {x : LaterW W} {v : Value} (h : Calls P f args x.to fun e w' => e = .returned v ∧ Below x.to.heap.size x.to w') : Calls P f args x.to fun e w' => e = .returned v ∧ ∃ y : LaterW W, w' = y.to :=
  h.mono fun _ _ ⟨he, hb⟩ => ⟨he, x.on hb⟩
end Go.Proofs.Ytnijccmhajjdoaa

set_option linter.unusedVariables false
namespace Go.Proofs.Ytnijccmhajjdoaa
open Go.RowKit Go.Maps Go.Shelf

structure Keep (n₀ : Nat) (S : List Nat) (w w' : World) : Prop where
  size : w.heap.size ≤ w'.heap.size
  block : ∀ k, k < n₀ → k ∉ S → w'.heap[k]? = w.heap[k]?
theorem Keep.refl (n₀ : Nat) (S : List Nat) (w : World) : Keep n₀ S w w := ⟨Nat.le_refl _, fun _ _ _ => rfl⟩
theorem Keep.trans {n₀ : Nat} {S : List Nat} {a b c : World} (h : Keep n₀ S a b) (k : Keep n₀ S b c) : Keep n₀ S a c := ⟨Nat.le_trans h.size k.size, fun i hi hS => (k.block i hi hS).trans (h.block i hi hS)⟩
theorem Keep.of_below {n₀ : Nat} {S : List Nat} {a b : World} (h : Below n₀ a b) : Keep n₀ S a b := ⟨h.size, fun k hk _ => h.block k hk⟩
theorem Keep.of_turn {n₀ : Nat} {S S' : List Nat} {a b : World} (h : Turn S a b) (hn : n₀ ≤ a.heap.size) (hS : ∀ k ∈ S, k ∈ S' ∨ n₀ ≤ k) : Keep n₀ S' a b :=
  ⟨h.size, fun k hk hn' => h.block k (Nat.lt_of_lt_of_le hk hn) (fun hm => (hS k hm).elim hn' (fun e => by omega))⟩
theorem Keep.cell {n₀ : Nat} {S : List Nat} {a b : World} (h : Keep n₀ S a b) {g i : Nat} (hg : g < n₀) (hS : g ∉ S) : b.cell? ⟨g, i, none⟩ = a.cell? ⟨g, i, none⟩ := World.cell?_of_block (w := a) (a := ⟨g, i, none⟩) (h.block g hg hS)
theorem Keep.alloc {n₀ : Nat} {S : List Nat} {a b : World} (h : Keep n₀ S a b) (hn : n₀ ≤ b.heap.size) (o : Obj) : Keep n₀ S a (b.alloc o) := h.trans (Keep.of_below ((Below.refl _ _).alloc hn o))
theorem Keep.setCell {n₀ : Nat} {S : List Nat} {a b : World} (h : Keep n₀ S a b) {g : Nat} (hg : g ∈ S ∨ n₀ ≤ g) (i : Nat) (v : Value) : Keep n₀ S a (b.setCell ⟨g, i, none⟩ v) :=
  h.trans ⟨by simp, fun k hk hS => Below.heap_setCell b ⟨g, i, none⟩ v k (fun e => by subst e; exact hg.elim hS (fun e => by omega))⟩
theorem keepK_t {n₀ : Nat} {S : List Nat} {A B C : World} (h : Keep n₀ S A B) (k : Keep n₀ S B C) : Keep n₀ S A C := h.trans k
theorem keepK_b {w : World} {n₀ : Nat} {S : List Nat} (hn : n₀ ≤ w.heap.size) (W : World) (l : Nat) (o o' : Obj) (hl : w.heap.size ≤ l) (h : W.heap[l]? = some o) (hc : o.isCells = false) (hw : o.isWalk = false) : Keep n₀ S W (W.putObj l o') :=
  ⟨by simp, fun k hk _ => World.putObj_heap_other (fun e => by omega)⟩
end Go.Proofs.Ytnijccmhajjdoaa
