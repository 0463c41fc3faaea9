/-
  Boxed variables in memory: what a block of cells holds, kept from world to world.
-/
import Derived.Test.YtaonajalokhngaaGreatDoorMerged10
set_option linter.unusedVariables false
namespace Go.Proofs.YtaonajalokhngaaGreatDoor
open Go.RowKit Go.Maps

def BoxIs (w : World) (g : Nat) (xs : List Value) : Prop := g < w.heap.size ∧ ∀ i v, xs[i]? = some v → w.cell? ⟨g, i, none⟩ = some v
theorem BoxIs.up {w w' : World} {g : Nat} {xs : List Value} (h : BoxIs w g xs) (hb : Below w.heap.size w w') : BoxIs w' g xs :=
  ⟨Nat.lt_of_lt_of_le h.1 hb.size, fun i v hv => (hb.cell (by exact h.1)).trans (h.2 i v hv)⟩
theorem BoxIs.turn {S : List Nat} {w w' : World} {g : Nat} {xs : List Value} (h : BoxIs w g xs) (ht : Turn S w w') (hS : g ∉ S) : BoxIs w' g xs :=
  ⟨Nat.lt_of_lt_of_le h.1 ht.size, fun i v hv => (ht.cell h.1 hS).trans (h.2 i v hv)⟩
theorem BoxIs.at {w : World} {g : Nat} {xs : List Value} (h : BoxIs w g xs) (i : Nat) (v : Value) (hv : xs[i]? = some v) : w.cell? ⟨g, i, none⟩ = some v := h.2 i v hv
theorem BoxIs.four {w : World} {g : Nat} {a b c d : Value} (h : BoxIs w g [a, b, c, d]) : w.cell? ⟨g, 0, none⟩ = some a ∧ w.cell? ⟨g, 1, none⟩ = some b ∧ w.cell? ⟨g, 2, none⟩ = some c ∧ w.cell? ⟨g, 3, none⟩ = some d :=
  ⟨h.2 0 _ rfl, h.2 1 _ rfl, h.2 2 _ rfl, h.2 3 _ rfl⟩
theorem boxMade (w : World) (xs : List Value) (T : TypeId) : BoxIs (w.alloc (.cells xs.toArray T)) w.heap.size xs :=
  ⟨by simp, fun i v hv => by rw [World.cell?_alloc_at _ _ _ _ rfl]; simpa using hv⟩
theorem boxMade4 (w : World) (a b c d : Value) (T : TypeId) : BoxIs (w.alloc (.cells #[a, b, c, d] T)) w.heap.size [a, b, c, d] := boxMade w [a, b, c, d] T
/-- a new variable, filled cell by cell -/
theorem boxStored4 (w : World) (z0 z1 z2 z3 a b c d : Value) (T : TypeId) :
    BoxIs (((((w.alloc (.cells #[z0, z1, z2, z3] T)).setCell ⟨w.heap.size, 0, none⟩ a).setCell ⟨w.heap.size, 1, none⟩ b).setCell ⟨w.heap.size, 2, none⟩ c).setCell ⟨w.heap.size, 3, none⟩ d) w.heap.size [a, b, c, d] ∧
    Below w.heap.size w (((((w.alloc (.cells #[z0, z1, z2, z3] T)).setCell ⟨w.heap.size, 0, none⟩ a).setCell ⟨w.heap.size, 1, none⟩ b).setCell ⟨w.heap.size, 2, none⟩ c).setCell ⟨w.heap.size, 3, none⟩ d) := by
  obtain ⟨_, hc⟩ := boxMade4 w z0 z1 z2 z3 T
  have c0 := hc 0 _ rfl
  have c1 := hc 1 _ rfl
  have c2 := hc 2 _ rfl
  have c3 := hc 3 _ rfl
  refine ⟨⟨by simp, ?_⟩, (((((Below.refl _ _).alloc (Nat.le_refl _) _).setCell (Nat.le_refl _) _).setCell (Nat.le_refl _) _).setCell (Nat.le_refl _) _).setCell (Nat.le_refl _) _⟩
  generalize w.alloc (.cells #[z0, z1, z2, z3] T) = W at *
  generalize w.heap.size = g at *
  have ne : ∀ (X : World) (i j : Nat) (v : Value), i ≠ j → (X.setCell ⟨g, j, none⟩ v).cell? ⟨g, i, none⟩ = X.cell? ⟨g, i, none⟩ := fun X i j v h => World.cell?_setCell_other _ _ _ _ (by intro e; have := congrArg Addr.off e; simp only at this; omega)
  intro i v hv
  match i, hv with
  | 0, hv =>
    simp at hv; subst hv
    rw [ne _ 0 3 _ (by omega), ne _ 0 2 _ (by omega), ne _ 0 1 _ (by omega)]
    exact World.cell?_setCell_same _ _ _ c0
  | 1, hv =>
    simp at hv; subst hv
    rw [ne _ 1 3 _ (by omega), ne _ 1 2 _ (by omega)]
    exact World.cell?_setCell_same _ _ _ (by rw [ne _ 1 0 _ (by omega)]; exact c1)
  | 2, hv =>
    simp at hv; subst hv
    rw [ne _ 2 3 _ (by omega)]
    exact World.cell?_setCell_same _ _ _ (by rw [ne _ 2 1 _ (by omega), ne _ 2 0 _ (by omega)]; exact c2)
  | 3, hv =>
    simp at hv; subst hv
    exact World.cell?_setCell_same _ _ _ (by rw [ne _ 3 2 _ (by omega), ne _ 3 1 _ (by omega), ne _ 3 0 _ (by omega)]; exact c3)
  | i + 4, hv => simp at hv
theorem boxNew4 (w : World) (a b c d : Value) (T : TypeId) : BoxIs (w.alloc (.cells #[a, b, c, d] T)) w.heap.size [a, b, c, d] ∧ Below w.heap.size w (w.alloc (.cells #[a, b, c, d] T)) ∧ w.heap.size < (w.alloc (.cells #[a, b, c, d] T)).heap.size :=
  ⟨boxMade4 w a b c d T, (Below.refl _ _).alloc (Nat.le_refl _) _, by simp⟩
theorem boxFill4 (w : World) (z0 z1 z2 z3 a b c d : Value) (T : TypeId) :
    BoxIs (((((w.alloc (.cells #[z0, z1, z2, z3] T)).setCell ⟨w.heap.size, 0, none⟩ a).setCell ⟨w.heap.size, 1, none⟩ b).setCell ⟨w.heap.size, 2, none⟩ c).setCell ⟨w.heap.size, 3, none⟩ d) w.heap.size [a, b, c, d] ∧
    Below w.heap.size w (((((w.alloc (.cells #[z0, z1, z2, z3] T)).setCell ⟨w.heap.size, 0, none⟩ a).setCell ⟨w.heap.size, 1, none⟩ b).setCell ⟨w.heap.size, 2, none⟩ c).setCell ⟨w.heap.size, 3, none⟩ d) ∧
    w.heap.size < (((((w.alloc (.cells #[z0, z1, z2, z3] T)).setCell ⟨w.heap.size, 0, none⟩ a).setCell ⟨w.heap.size, 1, none⟩ b).setCell ⟨w.heap.size, 2, none⟩ c).setCell ⟨w.heap.size, 3, none⟩ d).heap.size := by
  obtain ⟨h1, h2⟩ := boxStored4 w z0 z1 z2 z3 a b c d T
  exact ⟨h1, h2, h1.1⟩
theorem BoxIs.two {w : World} {g : Nat} {a b : Value} (h : BoxIs w g [a, b]) : w.cell? ⟨g, 0, none⟩ = some a ∧ w.cell? ⟨g, 1, none⟩ = some b := ⟨h.2 0 _ rfl, h.2 1 _ rfl⟩
theorem BoxIs.six {w : World} {g : Nat} {a b c d e f : Value} (h : BoxIs w g [a, b, c, d, e, f]) : w.cell? ⟨g, 0, none⟩ = some a ∧ w.cell? ⟨g, 1, none⟩ = some b ∧ w.cell? ⟨g, 2, none⟩ = some c ∧ w.cell? ⟨g, 3, none⟩ = some d ∧ w.cell? ⟨g, 4, none⟩ = some e ∧ w.cell? ⟨g, 5, none⟩ = some f :=
  ⟨h.2 0 _ rfl, h.2 1 _ rfl, h.2 2 _ rfl, h.2 3 _ rfl, h.2 4 _ rfl, h.2 5 _ rfl⟩
theorem boxNew2 (w : World) (a b : Value) (T : TypeId) : BoxIs (w.alloc (.cells #[a, b] T)) w.heap.size [a, b] ∧ Below w.heap.size w (w.alloc (.cells #[a, b] T)) ∧ w.heap.size < (w.alloc (.cells #[a, b] T)).heap.size :=
  ⟨boxMade w [a, b] T, (Below.refl _ _).alloc (Nat.le_refl _) _, by simp⟩
theorem boxNew6 (w : World) (a b c d e f : Value) (T : TypeId) : BoxIs (w.alloc (.cells #[a, b, c, d, e, f] T)) w.heap.size [a, b, c, d, e, f] ∧ Below w.heap.size w (w.alloc (.cells #[a, b, c, d, e, f] T)) ∧ w.heap.size < (w.alloc (.cells #[a, b, c, d, e, f] T)).heap.size :=
  ⟨boxMade w [a, b, c, d, e, f] T, (Below.refl _ _).alloc (Nat.le_refl _) _, by simp⟩
def IntFit (n : Int) : Prop := -9223372036854775808 ≤ n ∧ n ≤ 9223372036854775807
/-- four cells of a block, filled -/
theorem fill4 (w : World) (g : Nat) (a b c d : Value) (hc : ∀ i, i < 4 → ∃ x, w.cell? ⟨g, i, none⟩ = some x) :
    let W := (((w.setCell ⟨g, 0, none⟩ a).setCell ⟨g, 1, none⟩ b).setCell ⟨g, 2, none⟩ c).setCell ⟨g, 3, none⟩ d
    W.cell? ⟨g, 0, none⟩ = some a ∧ W.cell? ⟨g, 1, none⟩ = some b ∧ W.cell? ⟨g, 2, none⟩ = some c ∧ W.cell? ⟨g, 3, none⟩ = some d ∧ (∀ i, W.frozen? ⟨g, i, none⟩ = w.frozen? ⟨g, i, none⟩) ∧ Turn [g] w W := by
  obtain ⟨x0, c0⟩ := hc 0 (by omega)
  obtain ⟨x1, c1⟩ := hc 1 (by omega)
  obtain ⟨x2, c2⟩ := hc 2 (by omega)
  obtain ⟨x3, c3⟩ := hc 3 (by omega)
  have ne : ∀ (X : World) (i j : Nat) (v : Value), i ≠ j → (X.setCell ⟨g, j, none⟩ v).cell? ⟨g, i, none⟩ = X.cell? ⟨g, i, none⟩ := fun X i j v h => World.cell?_setCell_other _ _ _ _ (by intro e; have := congrArg Addr.off e; simp only at this; omega)
  refine ⟨?_, ?_, ?_, ?_, fun i => ?_, ((((Turn.refl _ _).setCell (by simp) _ _).setCell (by simp) _ _).setCell (by simp) _ _).setCell (by simp) _ _⟩
  · rw [ne _ 0 3 _ (by omega), ne _ 0 2 _ (by omega), ne _ 0 1 _ (by omega)]
    exact World.cell?_setCell_same _ _ _ c0
  · rw [ne _ 1 3 _ (by omega), ne _ 1 2 _ (by omega)]
    exact World.cell?_setCell_same _ _ _ (by rw [ne _ 1 0 _ (by omega)]; exact c1)
  · rw [ne _ 2 3 _ (by omega)]
    exact World.cell?_setCell_same _ _ _ (by rw [ne _ 2 1 _ (by omega), ne _ 2 0 _ (by omega)]; exact c2)
  · exact World.cell?_setCell_same _ _ _ (by rw [ne _ 3 2 _ (by omega), ne _ 3 1 _ (by omega), ne _ 3 0 _ (by omega)]; exact c3)
  · rw [World.frozen?_setCell, World.frozen?_setCell, World.frozen?_setCell, World.frozen?_setCell]
/-- a block of cells that may be written -/
def BoxF (w : World) (g : Nat) (xs : List Value) : Prop := BoxIs w g xs ∧ ∀ i, i < xs.length → w.frozen? ⟨g, i, none⟩ = false
theorem BoxF.up {w w' : World} {g : Nat} {xs : List Value} (h : BoxF w g xs) (hb : Below w.heap.size w w') : BoxF w' g xs := ⟨h.1.up hb, fun i hi => (hb.frozen (by exact h.1.1)).trans (h.2 i hi)⟩
theorem BoxF.turn {S : List Nat} {w w' : World} {g : Nat} {xs : List Value} (h : BoxF w g xs) (ht : Turn S w w') (hS : g ∉ S) : BoxF w' g xs := ⟨h.1.turn ht hS, fun i hi => (ht.frozen h.1.1 hS).trans (h.2 i hi)⟩
theorem BoxF.set {w : World} {g : Nat} {xs : List Value} (h : BoxF w g xs) (i : Nat) (v : Value) (hi : i < xs.length) : BoxF (w.setCell ⟨g, i, none⟩ v) g (xs.set i v) := by
  refine ⟨⟨by simpa using h.1.1, fun j x hx => ?_⟩, fun j hj => ?_⟩
  · by_cases e : j = i
    · subst e
      rw [List.getElem?_set_self hi] at hx
      cases hx
      exact World.cell?_setCell_same _ _ _ (h.1.2 j _ (List.getElem?_eq_getElem hi))
    · rw [List.getElem?_set_ne (fun q => e q.symm)] at hx
      rw [World.cell?_setCell_other _ _ _ _ (by intro q; have := congrArg Addr.off q; simp only at this; omega)]
      exact h.1.2 j x hx
  · rw [World.frozen?_setCell]
    exact h.2 j (by simpa using hj)
theorem BoxF.far {w : World} {g g' : Nat} {xs : List Value} (h : BoxF w g xs) (i : Nat) (v : Value) (hg : g ≠ g') : BoxF (w.setCell ⟨g', i, none⟩ v) g xs := h.turn ((Turn.refl [g'] w).setCell (by simp) i v) (by simpa using hg)
theorem boxF_new (w : World) (xs : List Value) (T : TypeId) : BoxF (w.alloc (.cells xs.toArray T)) w.heap.size xs := by
  refine ⟨boxMade w xs T, fun i hi => ?_⟩
  simp
theorem boxF_new4 (w : World) (a b c d : Value) (T : TypeId) : BoxF (w.alloc (.cells #[a, b, c, d] T)) w.heap.size [a, b, c, d] := boxF_new w [a, b, c, d] T
theorem BoxF.four {w : World} {g : Nat} {a b c d : Value} (h : BoxF w g [a, b, c, d]) : (w.cell? ⟨g, 0, none⟩ = some a ∧ w.cell? ⟨g, 1, none⟩ = some b ∧ w.cell? ⟨g, 2, none⟩ = some c ∧ w.cell? ⟨g, 3, none⟩ = some d) ∧ (w.frozen? ⟨g, 0, none⟩ = false ∧ w.frozen? ⟨g, 1, none⟩ = false ∧ w.frozen? ⟨g, 2, none⟩ = false ∧ w.frozen? ⟨g, 3, none⟩ = false) :=
  ⟨h.1.four, h.2 0 (by simp), h.2 1 (by simp), h.2 2 (by simp), h.2 3 (by simp)⟩
end Go.Proofs.YtaonajalokhngaaGreatDoor
