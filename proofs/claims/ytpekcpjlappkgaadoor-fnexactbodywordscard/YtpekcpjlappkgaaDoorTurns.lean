/-
  What may turn from one world to another: new blocks, and the listed ones.
-/
import Derived.Test.YtpekcpjlappkgaaDoorBase
import Derived.Deep.Draws
namespace Go.Proofs.YtpekcpjlappkgaaDoor
open Go.RowKit Go.Maps

/-- new blocks, and writes into the listed blocks alone -/
structure Turn (S : List Nat) (w w' : World) : Prop where
  os : w'.os = w.os
  tape : w'.tape = w.tape
  output : w'.output = w.output
  size : w.heap.size ≤ w'.heap.size
  block : ∀ k, k < w.heap.size → k ∉ S → w'.heap[k]? = w.heap[k]?
theorem Turn.refl (S : List Nat) (w : World) : Turn S w w := ⟨rfl, rfl, rfl, Nat.le_refl _, fun _ _ _ => rfl⟩
theorem Turn.trans {S : List Nat} {a b c : World} (h : Turn S a b) (k : Turn S b c) : Turn S a c :=
  ⟨k.os.trans h.os, k.tape.trans h.tape, k.output.trans h.output, Nat.le_trans h.size k.size, fun i hi hS => (k.block i (Nat.lt_of_lt_of_le hi h.size) hS).trans (h.block i hi hS)⟩
theorem Turn.mono {S S' : List Nat} {a b : World} (h : Turn S a b) (hs : ∀ k ∈ S, k ∈ S' ∨ a.heap.size ≤ k) : Turn S' a b :=
  ⟨h.os, h.tape, h.output, h.size, fun k hk hS => h.block k hk (fun hm => (hs k hm).elim hS (fun e => by omega))⟩
theorem Turn.of_below {S : List Nat} {a b : World} (h : Below a.heap.size a b) : Turn S a b := ⟨h.os, h.tape, h.output, h.size, fun k hk _ => h.block k hk⟩
theorem Turn.below {S : List Nat} {a b : World} (h : Turn S a b) {B : Nat} (hB : B ≤ a.heap.size) (hS : ∀ k ∈ S, B ≤ k) : Below B a b :=
  ⟨h.os, h.tape, h.output, h.size, fun k hk => h.block k (by omega) (fun hm => by have := hS k hm; omega)⟩
theorem Turn.of_grown {S : List Nat} {a b : World} {row : Option Nat} (h : a.grownBy b row) (hr : ∀ k, row = some k → k ∈ S ∨ a.heap.size ≤ k) : Turn S a b :=
  ⟨h.os, h.tape, h.output, h.size, fun k hk hS => h.block k hk (fun e => (hr k e.symm).elim hS (fun e => by omega))⟩
theorem Turn.alloc {S : List Nat} {a b : World} (h : Turn S a b) (o : Obj) : Turn S a (b.alloc o) := h.trans (Turn.of_below ((Below.refl _ _).alloc (Nat.le_refl _) o))
theorem Turn.of_alloc (S : List Nat) (w : World) (o : Obj) : Turn S w (w.alloc o) := (Turn.refl S w).alloc o

theorem Turn.setCell {S : List Nat} {a b : World} (h : Turn S a b) {g : Nat} (hg : g ∈ S) (i : Nat) (v : Value) : Turn S a (b.setCell ⟨g, i, none⟩ v) :=
  h.trans ⟨rfl, rfl, rfl, by simp, fun k _ hS => Below.heap_setCell b ⟨g, i, none⟩ v k (fun e => hS (by rw [e]; exact hg))⟩
theorem Turn.dn {S : List Nat} {a b : World} (h : Turn S a b) (n : Nat) : Turn S a (b.drewN n) := h.trans ⟨rfl, rfl, rfl, Nat.le_refl _, fun _ _ _ => rfl⟩
theorem Turn.cell {S : List Nat} {a b : World} (h : Turn S a b) {g i : Nat} (hg : g < a.heap.size) (hS : g ∉ S) : b.cell? ⟨g, i, none⟩ = a.cell? ⟨g, i, none⟩ := World.cell?_of_block (w := a) (a := ⟨g, i, none⟩) (h.block g hg hS)
theorem Turn.frozen {S : List Nat} {a b : World} (h : Turn S a b) {g i : Nat} (hg : g < a.heap.size) (hS : g ∉ S) : b.frozen? ⟨g, i, none⟩ = a.frozen? ⟨g, i, none⟩ := World.frozen?_of_block (w := a) (a := ⟨g, i, none⟩) (h.block g hg hS)
theorem belowN (w : World) (n : Nat) : Below w.heap.size w (w.drewN n) := ⟨rfl, rfl, rfl, Nat.le_refl _, fun _ _ => rfl⟩
theorem vbox {w w2 : World} {x0 x1 : Value} {T : TypeId} (hb : Below (w.alloc (.cells #[x0, x1] T)).heap.size (w.alloc (.cells #[x0, x1] T)) w2) :
    w2.cell? ⟨w.heap.size, 0, none⟩ = some x0 ∧ w2.cell? ⟨w.heap.size, 1, none⟩ = some x1 := by
  refine ⟨?_, ?_⟩
  all_goals
    rw [hb.cell (by simp), World.cell?_alloc_at _ _ _ _ rfl]
    rfl

end Go.Proofs.YtpekcpjlappkgaaDoor
