/-
  The program's table of signs, made and asked; MeanOp of both sides.
-/
import Derived.Test.YtkbmekcnejbdkaaKeys
import Derived.Test.YtkbmekcnejbdkaaSigns
namespace Go.Proofs.Ytkbmekcnejbdkaa
open Go.RowKit Go.Maps

/-- how an element of the table reads: a function by its number -/
def fnElem : Value → Option (DataW Nat × List MemPlace)
  | .func (.func f) x y => if x.size = 0 ∧ y.size = 0 then some (.held f, []) else none
  | .nilFunc => some (.nil, [])
  | _ => none

theorem fnElem_inv {v : Value} {f : Nat} {ps : List MemPlace} (h : fnElem v = some (.held f, ps)) : v = .func (.func f) #[] #[] := by
  unfold fnElem at h
  split at h
  · split at h
    · rename_i hz
      obtain ⟨h1, h2⟩ := hz
      simp only [Option.some.injEq, Prod.mk.injEq, DataW.held.injEq] at h
      obtain ⟨rfl, _⟩ := h
      rw [Array.eq_empty_of_size_eq_zero h1, Array.eq_empty_of_size_eq_zero h2]
    · cases h
  · simp at h
  · cases h

theorem lawInt : Keyed Try.prog 3 := int_keyed Try.underlying3
theorem zeroSign (w : World) : (zeroValue 58).run Try.prog w = .ok .nilFunc w := by kernel_rfl

def signRows : List (Int × Nat) := [(3, 26), (4, 27), (20, 29), (5, 30), (6, 31), (7, 32), (8, 33), (9, 34), (10, 35), (11, 36), (12, 37), (13, 38), (14, 39), (15, 40), (16, 41), (17, 42), (18, 43), (19, 44)]
def signMap : DataW Nat := signRows.foldl (fun m p => m.put (.int .i64 p.1) (.held p.2)) (.map [])

set_option maxHeartbeats 1600000 in
set_option maxRecDepth 100000 in
theorem newSigns_any (w : World) : Calls Try.prog 16 #[] w fun e w' => e = .returned (.map (some w.heap.size)) ∧ w'.ownsMap Try.prog 3 fnElem w.heap.size 18 signMap ∧ Below w.heap.size w w' := by
  have hmm := @run_makeMap Try.prog
  have hmf : ∀ (fn : Fn) (first cap : Array Value) (w : World), (Instr.makeFunc fn first cap).run Try.prog w = .ok (.func fn first cap) w := fun _ _ _ _ => rfl
  have hmade := And.intro (World.ownsMap_made w Try.prog 3 fnElem) (And.intro ((Below.refl w.heap.size w).alloc (Nat.le_refl _) (.map #[] 0)) (Nat.le_refl w.heap.size))
  go_enter Try.func16, Try.ntmps16
  go_wp2_with (first
    | (refine wpList_insert_own _ rfl _ _ _ 40 rfl 3 58 lawInt Try.underlying40 fnElem w.heap.size _ _ rfl w w.heap.size (by assumption) (by decide) _ _ _ rfl rfl (keyOf_int_mk Try.underlying3 (by decide)) _ [] rfl ?_; clear hmade; intro w1 hmade)
    | go_in)
  go_ret
  exact ⟨rfl, hmade.1, hmade.2.1⟩
end Go.Proofs.Ytkbmekcnejbdkaa
