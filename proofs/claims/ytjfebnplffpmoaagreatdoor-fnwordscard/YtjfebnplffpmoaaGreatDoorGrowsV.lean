/-
  A row that grows: what is written is the row itself or new memory.
-/
import Derived.Test.YtjfebnplffpmoaaGreatDoorMerged5
import Derived.Test.YtjfebnplffpmoaaGreatDoorMerged18
import Derived.Laws.OwnMore
import Derived.Handy
set_option linter.unusedVariables false
namespace Go.Proofs.YtjfebnplffpmoaaGreatDoor
open Go.RowKit Go.Maps Go.Deep

/-- of what was there only the row that is appended to has turned; the new row is that one or a new one -/
structure Grows (w w' : World) (nv nv' : Value) : Prop where
  grown : w.grownBy w' nv.ownBlock
  own : nv'.ownBlock = nv.ownBlock ∨ ∀ g, nv'.ownBlock = some g → w.heap.size ≤ g
theorem Grows.refl (w : World) (nv : Value) : Grows w w nv nv := ⟨⟨rfl, rfl, rfl, Nat.le_refl _, fun _ _ _ => rfl⟩, .inl rfl⟩
theorem Grows.trans {w w1 w2 : World} {a b c : Value} (h : Grows w w1 a b) (k : Grows w1 w2 b c) : Grows w w2 a c := by
  refine ⟨⟨k.grown.os.trans h.grown.os, k.grown.tape.trans h.grown.tape, k.grown.output.trans h.grown.output, Nat.le_trans h.grown.size k.grown.size, fun i hi hr => ?_⟩, ?_⟩
  · refine (k.grown.block i (Nat.lt_of_lt_of_le hi h.grown.size) ?_).trans (h.grown.block i hi hr)
    rcases h.own with e | e
    · rw [e]; exact hr
    · intro e'
      have := e i e'.symm
      omega
  · rcases k.own with e | e
    · rcases h.own with e' | e'
      · exact .inl (e.trans e')
      · exact .inr (fun g hg => e' g (e ▸ hg))
    · exact .inr (fun g hg => Nat.le_trans h.grown.size (e g hg))
theorem Grows.of_below {w w' : World} {nv : Value} (h : Below w.heap.size w w') : Grows w w' nv nv := ⟨⟨h.os, h.tape, h.output, h.size, fun k hk _ => h.block k hk⟩, .inl rfl⟩
theorem Grows.cell {w w' : World} {nv nv' : Value} (h : Grows w w' nv nv') {g i : Nat} (hg : g < w.heap.size) (hne : nv.ownBlock ≠ some g) : w'.cell? ⟨g, i, none⟩ = w.cell? ⟨g, i, none⟩ :=
  World.cell?_of_block (w := w) (a := ⟨g, i, none⟩) (h.grown.block g hg (fun e => hne e.symm))
theorem Grows.below {w w' : World} {nv nv' : Value} (h : Grows w w' nv nv') {W0 : World} (hb : Below W0.heap.size W0 w) (hn : ∀ g, nv.ownBlock = some g → W0.heap.size ≤ g) : Below W0.heap.size W0 w' :=
  Below.grown hb h.grown hb.size hn
end Go.Proofs.YtjfebnplffpmoaaGreatDoor
