/-
  sideBySide: the iterator over two stamps, and what it hands to a loop's body.
-/
import Derived.Test.YteonbigmggeneaaDoorSideMath
import Derived.Test.YteonbigmggeneaaDoorMarkRowsOwn
import Derived.Test.YteonbigmggeneaaDoorLater
import Derived.Test.YteonbigmggeneaaDoorKeeps
import Derived.Test.YteonbigmggeneaaDoorBoxes
import Derived.RangeFuncNested
import Derived.RangeFuncBound
import Derived.RangeFuncCalls
import Derived.RangeFuncLeaves
import Derived.Shelf.Abstract
import Derived.Shelf.RegionOpen
import Derived.WalkKit
import Derived.OwnWalkIn
import Derived.TacticsInMore
import Derived.LoopNIn
import Derived.LoopIn
import Derived.Deep.RegionHeld3
import Derived.Laws.Cover1
set_option linter.unusedVariables false
namespace Go.Proofs.YteonbigmggeneaaDoor
open Go.RowKit Go.Maps Go.Deep Go.Shelf

attribute [local go_sem] Oper.semAt_some

def encM (x : MarkV × MarkV) : Array Value := #[.agg #[.string x.1.a0, .int .i64 x.1.a1], .agg #[.string x.2.a0, .int .i64 x.2.a1]]
/-- a row below n₀, or nothing -/
def MarkLow (n₀ : Nat) (S : List Nat) (W : World) (a : Option Addr) (ns : List MarkV) : Prop := ns = [] ∨ ∃ b off, a = some ⟨b, off, none⟩ ∧ (b < n₀ ∧ b ∉ S) ∧ MarkAt W b off ns
theorem MarkLow.at {n₀ : Nat} {S : List Nat} {W : World} {a : Option Addr} {ns : List MarkV} (h : MarkLow n₀ S W a ns) {i : Nat} (hi : i < ns.length) : ∃ b off, a = some ⟨b, off, none⟩ ∧ (b < n₀ ∧ b ∉ S) ∧ MarkAt W b off ns := by
  rcases h with rfl | h
  · simp at hi
  · exact h

theorem twoBoxes (w : World) : BoxF ((w.alloc (.cells #[.string ⟨#[]⟩, .int .i64 0] 39)).alloc (.cells #[.string ⟨#[]⟩, .int .i64 0] 39)) w.heap.size [.string ⟨#[]⟩, .int .i64 0] ∧
    BoxF ((w.alloc (.cells #[.string ⟨#[]⟩, .int .i64 0] 39)).alloc (.cells #[.string ⟨#[]⟩, .int .i64 0] 39)) (w.heap.size + 1) [.string ⟨#[]⟩, .int .i64 0] ∧
    Below w.heap.size w ((w.alloc (.cells #[.string ⟨#[]⟩, .int .i64 0] 39)).alloc (.cells #[.string ⟨#[]⟩, .int .i64 0] 39)) := by
  refine ⟨(boxF_new w [.string ⟨#[]⟩, .int .i64 0] 39).up ((Below.refl _ _).alloc (Nat.le_refl _) _), ?_, ((Below.refl _ _).alloc (Nat.le_refl _) _).alloc (by simp) _⟩
  have := boxF_new (w.alloc (.cells #[.string ⟨#[]⟩, .int .i64 0] 39)) [.string ⟨#[]⟩, .int .i64 0] 39
  simpa using this
theorem BoxF.two {w : World} {g : Nat} {a b : Value} (h : BoxF w g [a, b]) : w.cell? ⟨g, 0, none⟩ = some a ∧ w.cell? ⟨g, 1, none⟩ = some b ∧ w.frozen? ⟨g, 0, none⟩ = false ∧ w.frozen? ⟨g, 1, none⟩ = false := ⟨h.1.2 0 _ rfl, h.1.2 1 _ rfl, h.2 0 (by simp), h.2 1 (by simp)⟩

theorem turn_drew (S : List Nat) (X : World) : Turn S X X.drew := ⟨rfl, rfl, rfl, Nat.le_refl _, fun _ _ _ => rfl⟩
theorem box_drew {X : World} {g : Nat} {xs : List Value} (h : BoxIs X g xs) : BoxIs X.drew g xs := h.up ⟨rfl, rfl, rfl, Nat.le_refl _, fun _ _ => rfl⟩
theorem filled {W : World} {g k : Nat} {a b c d : Value} (hg : BoxF W g [a, b]) (hk : BoxF W k [c, d]) (hne : g ≠ k) (v0 v1 v2 v3 : Value) :
    BoxIs ((((W.setCell ⟨g, 0, none⟩ v0).setCell ⟨g, 1, none⟩ v1).setCell ⟨k, 0, none⟩ v2).setCell ⟨k, 1, none⟩ v3).drew g [v0, v1] ∧
    BoxIs ((((W.setCell ⟨g, 0, none⟩ v0).setCell ⟨g, 1, none⟩ v1).setCell ⟨k, 0, none⟩ v2).setCell ⟨k, 1, none⟩ v3).drew k [v2, v3] ∧
    Turn [g, k] W ((((W.setCell ⟨g, 0, none⟩ v0).setCell ⟨g, 1, none⟩ v1).setCell ⟨k, 0, none⟩ v2).setCell ⟨k, 1, none⟩ v3).drew := by
  have h1 := (((hg.set 0 v0 (by simp)).set 1 v1 (by simp)).far 0 v2 hne).far 1 v3 hne
  have h2 := (((hk.far 0 v0 (Ne.symm hne)).far 1 v1 (Ne.symm hne)).set 0 v2 (by simp)).set 1 v3 (by simp)
  have h3 := ((((Turn.refl [g, k] W).setCell (g := g) (by simp) 0 v0).setCell (g := g) (by simp) 1 v1).setCell (g := k) (by simp) 0 v2).setCell (g := k) (by simp) 1 v3
  have h1' := h1.1
  have h2' := h2.1
  simp only [List.set_cons_zero, List.set_cons_succ] at h1' h2'
  exact ⟨box_drew h1', box_drew h2', h3.trans (turn_drew _ _)⟩
theorem stored_below {w W X : World} {S : List Nat} (hb : Below w.heap.size w W) (ht : Turn S W X) (hS : ∀ k ∈ S, w.heap.size ≤ k) : Below w.heap.size w X := hb.trans (ht.below hb.size hS)

end Go.Proofs.YteonbigmggeneaaDoor
