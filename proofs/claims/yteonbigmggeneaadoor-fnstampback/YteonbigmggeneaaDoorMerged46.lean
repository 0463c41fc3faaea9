/-
  sideBySide as a whole: what its value hands to a loop's body.
-/
/-
  What the callers of the iterator over two stamps share: boxes, and what rows they read.
-/
import Derived.Test.YteonbigmggeneaaDoorSideIter
import Derived.Test.YteonbigmggeneaaDoorStampI
import Derived.RangeFuncBox
set_option linter.unusedVariables false
namespace Go.Proofs.YteonbigmggeneaaDoor
open Go.RowKit Go.Maps Go.Deep Go.Shelf

attribute [local go_sem] Oper.semAt_some

theorem abides_below {α : Type} {B : Nat} {J : List α → World → Prop} (h : AbidesFrom B J) : ∀ pre X Y, J pre X → Below X.heap.size X Y → J pre Y :=
  fun pre X Y hJ hb => h pre X Y none hJ ⟨hb.os, hb.tape, hb.output, hb.size, fun k hk _ => hb.block k hk⟩ (fun r e => by cases e)
/-- a pair whose texts are not too long -/
def MPair : Type := { p : MarkV × MarkV // p.1.a0.size ≤ 1048576 ∧ p.2.a0.size ≤ 1048576 }
end Go.Proofs.YteonbigmggeneaaDoor

set_option linter.unusedVariables false
namespace Go.Proofs.YteonbigmggeneaaDoor
open Go.RowKit Go.Maps Go.Deep Go.Shelf

theorem mstamp_len {ns : List MarkV} (h : mstampB ns = true) : ns.length ≤ 12 := by
  simp [mstampB] at h
  exact h.1
theorem boxed_up {W W' : World} {B : Nat} {t : TypeId} {v : Value} (h : Boxed W B t v) (hb : Below W.heap.size W W') : Boxed W' B t v := (hb.block B h.lt).trans h
/-- a mark in a box of its own -/
def BoxM (W : World) (B : Nat) (x : MarkV) : Prop := W.heap[B]? = some (.cells #[.string x.a0, .int .i64 x.a1] 39 (0, 0))
theorem boxM_cells {W : World} {B : Nat} {x : MarkV} (h : BoxM W B x) : W.cell? ⟨B, 0, none⟩ = some (.string x.a0) ∧ W.cell? ⟨B, 1, none⟩ = some (.int .i64 x.a1) := by
  constructor <;> simp [World.cell?, show W.heap[B]? = _ from h]
theorem boxM_frozen {W : World} {B : Nat} {x : MarkV} (h : BoxM W B x) (i : Nat) : W.frozen? ⟨B, i, none⟩ = false := by simp [World.frozen?, show W.heap[B]? = _ from h]
theorem ownFrom_size {α : Type} (B n : Nat) : OwnFrom B (fun (_ : α) W => n ≤ W.heap.size) := fun s W W' row hs hg hr => Nat.le_trans hs hg.size
theorem boxM_own (B : Nat) (x : MarkV) : Own (fun (_ : Unit) W => BoxM W B x) := fun s X Y row hs hg hrow =>
  (hg.block B (Array.getElem?_eq_some_iff.1 hs).1 (fun e' => by obtain ⟨o, ho, hc⟩ := hrow B e'.symm; rw [show X.heap[B]? = _ from hs] at ho; cases ho; cases hc)).trans hs
theorem markIn_low {w : World} {a : Option Addr} {ns : List MarkV} (h : MarkIn w a ns) {n₀ : Nat} {S : List Nat} (hn : w.heap.size ≤ n₀) (hS : ∀ k ∈ S, w.heap.size ≤ k) {X : World} (hb : Below w.heap.size w X) : MarkLow n₀ S X a ns := by
  rcases h with h | ⟨b, off, e, hb', hc⟩
  · exact .inl h
  · exact .inr ⟨b, off, e, ⟨by omega, fun hm => by have := hS _ hm; omega⟩, hc.below hb hb'⟩

end Go.Proofs.YteonbigmggeneaaDoor
