/-
  Binds whose names are names and differ: what is asked of them, and the set of names taken so far.
-/
import Derived.Test.YtoehjbehfolekaaDoorBinds
import Derived.Test.YtoehjbehfolekaaDoorNames
import Derived.Test.YtoehjbehfolekaaDoorSmall
set_option linter.unusedVariables false
namespace Go.Proofs.YtoehjbehfolekaaDoor
open Go.RowKit Go.Maps Go.Deep

/-- each of the first k has a name, and none of those ahead of it has the same one -/
def GoodTo (xs : List BindV) (k : Nat) : Prop := ∀ i (h : i < xs.length), i < k → nameB xs[i].a0 = true ∧ ∀ j (hj : j < xs.length), j < i → xs[j].a0 ≠ xs[i].a0
def BindsGood (xs : List BindV) : Prop := (xs.length : Int) ≤ 40 ∧ GoodTo xs xs.length
def RetGood (xs : List BindV) (e : Ending) : Prop := (BindsGood xs ∧ e = .returned (.bool true)) ∨ (¬ BindsGood xs ∧ e = .returned (.bool false))
theorem retGood_same {xs : List BindV} {e e' : Ending} (h : RetGood xs e) (h' : RetGood xs e') : ∃ r : Bool, e = .returned (.bool r) ∧ e' = .returned (.bool r) := by
  rcases h with ⟨a, rfl⟩ | ⟨a, rfl⟩ <;> rcases h' with ⟨b, rfl⟩ | ⟨b, rfl⟩
  · exact ⟨true, rfl, rfl⟩
  · exact absurd a b
  · exact absurd b a
  · exact ⟨false, rfl, rfl⟩
theorem ret_yes {xs : List BindV} (h : BindsGood xs) : RetGood xs (.returned (.bool true)) := .inl ⟨h, rfl⟩
theorem ret_no {xs : List BindV} (h : ¬ BindsGood xs) : RetGood xs (.returned (.bool false)) := .inr ⟨h, rfl⟩
theorem bad_long {xs : List BindV} (h : ¬ (xs.length : Int) ≤ 40) : ¬ BindsGood xs := fun g => h g.1
theorem bad_name {xs : List BindV} {k : Nat} (hk : k < xs.length) (h : nameB xs[k].a0 = false) : ¬ BindsGood xs := fun g => by
  have := (g.2 k hk hk).1
  rw [h] at this
  cases this
theorem bad_twice {xs : List BindV} {k j : Nat} (hk : k < xs.length) (hj : j < k) (h : xs[j].a0 = xs[k].a0) : ¬ BindsGood xs := fun g => (g.2 k hk hk).2 j (by omega) hj h
theorem good_step {xs : List BindV} {k : Nat} (hk : k < xs.length) (hg : GoodTo xs k) (hn : nameB xs[k].a0 = true) (hd : ∀ j (hj : j < xs.length), j < k → xs[j].a0 ≠ xs[k].a0) : GoodTo xs (k + 1) := by
  intro i h hi
  by_cases e : i = k
  · subst e; exact ⟨hn, hd⟩
  · exact hg i h (by omega)
theorem good_zero (xs : List BindV) : GoodTo xs 0 := fun i h hi => absurd hi (Nat.not_lt_zero _)

/-- the names of the first k, as keys -/
def takenLits (xs : List BindV) (k : Nat) : List Lit := (xs.take k).map fun x => Lit.string x.a0.data.toList
def takenMap (xs : List BindV) (k : Nat) : DataW Unit := setOf (.agg []) (takenLits xs k)
theorem taken_zero (xs : List BindV) : takenMap xs 0 = .map [] := rfl
theorem taken_step (xs : List BindV) (k : Nat) (hk : k < xs.length) : takenMap xs (k + 1) = (takenMap xs k).put (.string xs[k].a0.data.toList) (.agg []) := by
  unfold takenMap takenLits
  rw [List.take_succ_eq_append_getElem hk, List.map_append, ← setOf_snoc]
  rfl
theorem key_same (s t : ByteArray) : (Lit.string s.data.toList).sameKey (.string t.data.toList) = decide (s = t) := by
  simp only [Lit.sameKey]
  rw [Bool.eq_iff_iff]
  simp
  constructor
  · intro h; cases s; cases t; simp_all
  · rintro rfl; rfl
theorem taken_has (xs : List BindV) (k : Nat) (hk : k < xs.length) : Maps.has (takenMap xs k) (.string xs[k].a0.data.toList) = true ↔ ∃ j, ∃ h : j < xs.length, j < k ∧ xs[j].a0 = xs[k].a0 := by
  unfold takenMap
  rw [has_setOf]
  · simp only [takenLits, List.any_map, List.any_eq_true, Function.comp, key_same, decide_eq_true_eq]
    constructor
    · rintro ⟨x, hx, he⟩
      obtain ⟨j, hj, rfl⟩ := List.getElem_of_mem hx
      simp only [List.length_take] at hj
      rw [List.getElem_take] at he
      exact ⟨j, by omega, by omega, he⟩
    · rintro ⟨j, h, hj, he⟩
      refine ⟨xs[j], ?_, he⟩
      rw [List.mem_take_iff_getElem]
      exact ⟨j, by omega, rfl⟩
  · intro x hx
    simp only [takenLits, List.mem_map] at hx
    obtain ⟨s, _, rfl⟩ := hx
    simp [WideAt.IsKeyLit]
theorem taken_next {xs : List BindV} {k : Nat} (hk : k < xs.length) {nm : ByteArray} (e : xs[k].a0 = nm) : takenMap xs (k + 1) = (takenMap xs k).put (.string nm.data.toList) (.agg []) := by subst e; exact taken_step xs k hk
theorem name_at {xs : List BindV} {k : Nat} (hk : k < xs.length) {nm : ByteArray} (e : xs[k].a0 = nm) {r : Bool} (h : nameB nm = r) : nameB xs[k].a0 = r := by subst e; exact h
end Go.Proofs.YtoehjbehfolekaaDoor
