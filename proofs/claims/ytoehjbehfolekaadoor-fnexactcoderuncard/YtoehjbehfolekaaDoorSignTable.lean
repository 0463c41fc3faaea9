/-
  The program's table of signs, made and asked; MeanOp of both sides.
-/
import Derived.Test.YtoehjbehfolekaaDoorKeys
import Derived.Test.YtoehjbehfolekaaDoorSigns
namespace Go.Proofs.YtoehjbehfolekaaDoor
open Go.RowKit Go.Maps

/-- how an element of the table reads: a function by its number -/
def fnElem : Value → Option (DataW Nat × List MemPlace)
  | .func (.func f) x y => if x.size = 0 ∧ y.size = 0 then some (.held f, []) else none
  | .nilFunc => some (.nil, [])
  | _ => none

theorem fnElem_inv {v : Value} {f : Nat} {ps : List MemPlace} (h : fnElem v = some (.held f, ps)) : v = .func (.func f) #[] #[] := by
  unfold fnElem at h
  split at h
  · split at h
    · rename_i hz
      obtain ⟨h1, h2⟩ := hz
      simp only [Option.some.injEq, Prod.mk.injEq, DataW.held.injEq] at h
      obtain ⟨rfl, _⟩ := h
      rw [Array.eq_empty_of_size_eq_zero h1, Array.eq_empty_of_size_eq_zero h2]
    · cases h
  · simp at h
  · cases h

theorem lawInt : Keyed Tryd.prog 3 := int_keyed Tryd.underlying3
theorem zeroSign (w : World) : (zeroValue 101).run Tryd.prog w = .ok .nilFunc w := by kernel_rfl

def signRows : List (Int × Nat) := [(3, 54), (4, 55), (20, 57), (5, 58), (6, 59), (7, 60), (8, 61), (9, 62), (10, 63), (11, 64), (12, 65), (13, 66), (14, 67), (15, 68), (16, 69), (17, 70), (18, 71), (19, 72)]
def signMap : DataW Nat := signRows.foldl (fun m p => m.put (.int .i64 p.1) (.held p.2)) (.map [])

set_option maxHeartbeats 1600000 in
set_option maxRecDepth 100000 in
theorem newSigns_any (w : World) : Calls Tryd.prog 40 #[] w fun e w' => e = .returned (.map (some w.heap.size)) ∧ w'.ownsMap Tryd.prog 3 fnElem w.heap.size 18 signMap ∧ Below w.heap.size w w' := by
  have hmm := @run_makeMap Tryd.prog
  have hmf : ∀ (fn : Fn) (first cap : Array Value) (w : World), (Instr.makeFunc fn first cap).run Tryd.prog w = .ok (.func fn first cap) w := fun _ _ _ _ => rfl
  have hmade := And.intro (World.ownsMap_made w Tryd.prog 3 fnElem) (And.intro ((Below.refl w.heap.size w).alloc (Nat.le_refl _) (.map #[] 0)) (Nat.le_refl w.heap.size))
  go_enter Tryd.func40, Tryd.ntmps40
  go_wp2_with (first
    | (refine wpList_insert_own _ rfl _ _ _ 78 rfl 3 101 lawInt Tryd.underlying78 fnElem w.heap.size _ _ rfl w w.heap.size (by assumption) (by decide) _ _ _ rfl rfl (keyOf_int_mk Tryd.underlying3 (by decide)) _ [] rfl ?_; clear hmade; intro w1 hmade)
    | go_in)
  go_ret
  exact ⟨rfl, hmade.1, hmade.2.1⟩
end Go.Proofs.YtoehjbehfolekaaDoor
