/-
  A region that draws its order and whose calls may make new blocks (and write into none that was there): walked once, in the order of the text, over the class of all later worlds.
-/
import Derived.Test.YtiebfcefmdiajaaGreatDoorTurns
import Derived.BigQuiet
import Derived.Deep.QuietTactic
set_option linter.unusedVariables false
namespace Go.Proofs.YtiebfcefmdiajaaGreatDoor
open Go.RowKit Go.Maps

/-- a world in which all blocks of W are as they were -/
structure LaterW (W : World) where
  to : World
  bel : Below W.heap.size W to
instance (W : World) : Nonempty (LaterW W) := ⟨⟨W, Below.refl _ _⟩⟩
theorem LaterW.cell {W : World} (x : LaterW W) {g i : Nat} {v : Value} (h : W.cell? ⟨g, i, none⟩ = some v) : x.to.cell? ⟨g, i, none⟩ = some v := (x.bel.cell (lt_of_cell0 h)).trans h
theorem LaterW.frozen {W : World} (x : LaterW W) {g i : Nat} (hg : g < W.heap.size) (h : W.frozen? ⟨g, i, none⟩ = false) : x.to.frozen? ⟨g, i, none⟩ = false := (x.bel.frozen (by exact hg)).trans h
theorem LaterW.on {W w' : World} (x : LaterW W) (h : Below x.to.heap.size x.to w') : ∃ y : LaterW W, w' = y.to := ⟨⟨w', x.bel.trans (h.mono x.bel.size)⟩, rfl⟩
theorem wp_region_later {P : Program} {id : Nat} {Q : Exit → Act → World → Prop} {a : Act} {w : World} {l : List Oper} (hm : P.follows .mixedOrders = true) (hB : Region.lexB .any l.toArray = true)
    (h : wpQuiet P l.toArray (fun w' => ∃ x : LaterW w, w' = x.to) (fun a' => ∀ w', (∃ x : LaterW w, w' = x.to) → Q .normal a' w') l a) : (Code.region id l.toArray true).wp P Q a w :=
  wp_region_quiet (C := fun w' => ∃ x : LaterW w, w' = x.to) hm hB ⟨⟨{ w with drawn := w.drawn + 1 }, ⟨rfl, rfl, rfl, Nat.le_refl _, fun _ _ => rfl⟩⟩, rfl⟩ h
theorem quiet_ret {P : Program} {W : World} {f : FuncId} {args : Array Value} {x : LaterW W} {v : Value} (h : Calls P f args x.to fun e w' => e = .returned v ∧ Below x.to.heap.size x.to w') : Calls P f args x.to fun e w' => e = .returned v ∧ ∃ y : LaterW W, w' = y.to :=
  h.mono fun _ _ ⟨he, hb⟩ => ⟨he, x.on hb⟩
end Go.Proofs.YtiebfcefmdiajaaGreatDoor
