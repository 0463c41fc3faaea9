/-
  Rows of items whose stamps lie in blocks of a kind; one more of them, one of them written anew.
-/
import Derived.Test.YtlbhandkpnjgmaaVec
import Derived.Test.YtlbhandkpnjgmaaWinPutS
set_option linter.unusedVariables false
namespace Go.Proofs.Ytlbhandkpnjgmaa
open Go.RowKit Go.Maps Go.Deep

def MkQ (P : Nat → Prop) (w : World) (u : Value) (ms : List MarkV) : Prop := ∃ S, MarkSOwn S w u ms ∧ ∀ k ∈ S, P k
theorem MkQ.turn {P : Nat → Prop} {S : List Nat} {w w' : World} {u : Value} {ms : List MarkV} (h : MkQ P w u ms) (t : Turn S w w') (hS : ∀ k ∈ S, ¬ P k) : MkQ P w' u ms := by
  obtain ⟨T, o, q⟩ := h
  exact ⟨T, o.turn t (fun k hk hm => hS k hm (q k hk)), q⟩
theorem MkQ.mono {P P' : Nat → Prop} {w : World} {u : Value} {ms : List MarkV} (h : MkQ P w u ms) (hP : ∀ k, k < w.heap.size → P k → P' k) : MkQ P' w u ms := by
  obtain ⟨T, o, q⟩ := h
  exact ⟨T, o, fun k hk => hP k (o.lt k hk) (q k hk)⟩
/-- what the raw items stand for -/
def ItsQ (P : Nat → Prop) (w : World) (xs : List (Int × Value)) (ns : List ItemV) : Prop := xs.length = ns.length ∧ ∀ i (h : i < xs.length) (h' : i < ns.length), xs[i].1 = ns[i].a0 ∧ MkQ P w xs[i].2 ns[i].a1
theorem ItsQ.nil (P : Nat → Prop) (w : World) : ItsQ P w [] [] := ⟨rfl, fun i h => by simp at h⟩
theorem ItsQ.turn {P : Nat → Prop} {S : List Nat} {w w' : World} {xs : List (Int × Value)} {ns : List ItemV} (h : ItsQ P w xs ns) (t : Turn S w w') (hS : ∀ k ∈ S, ¬ P k) : ItsQ P w' xs ns := ⟨h.1, fun i h1 h2 => ⟨(h.2 i h1 h2).1, (h.2 i h1 h2).2.turn t hS⟩⟩
theorem ItsQ.mono {P P' : Nat → Prop} {w : World} {xs : List (Int × Value)} {ns : List ItemV} (h : ItsQ P w xs ns) (hP : ∀ k, k < w.heap.size → P k → P' k) : ItsQ P' w xs ns := ⟨h.1, fun i h1 h2 => ⟨(h.2 i h1 h2).1, (h.2 i h1 h2).2.mono hP⟩⟩
theorem ItsQ.up {P : Nat → Prop} {w w' : World} {xs : List (Int × Value)} {ns : List ItemV} (h : ItsQ P w xs ns) (b : Below w.heap.size w w') : ItsQ P w' xs ns := h.turn (Turn.of_below (S := []) b) (by simp)
theorem ItsAre.q {B B' : Nat} {w : World} {v : Value} {ys xs : List (Int × Value)} {ns : List ItemV} (h : ItsAre B w xs ns) (r : ItRow B' w v ys) : ItsQ (fun k => B ≤ k ∧ v.ownBlock ≠ some k) w xs ns :=
  ⟨h.1, fun i h1 h2 => by
    obtain ⟨e, m⟩ := h.2 i h1 h2
    obtain ⟨S, o, hB, hS⟩ := m.own
    exact ⟨e, S, o, fun k hk => ⟨hB k hk, fun e' => r.apart m k (hS k hk) e'⟩⟩⟩
theorem ItsQ.snoc {P : Nat → Prop} {w : World} {xs : List (Int × Value)} {ns : List ItemV} {z : Int} {u : Value} {ms : List MarkV} (h : ItsQ P w xs ns) (hu : MkQ P w u ms) : ItsQ P w (xs ++ [(z, u)]) (ns ++ [⟨z, ms⟩]) := by
  have hl := h.1
  refine ⟨by simp [hl], fun i h1 h2 => ?_⟩
  by_cases e : i < xs.length
  · rw [List.getElem_append_left e, List.getElem_append_left (by omega)]
    exact h.2 i e (by omega)
  · have e' : i = xs.length := by simp at h1; omega
    subst e'
    rw [List.getElem_append_right (Nat.le_refl _), List.getElem_append_right (by omega)]
    simp only [hl, Nat.sub_self, List.getElem_cons_zero, true_and]
    exact hu
theorem ItsQ.set {P : Nat → Prop} {w : World} {xs : List (Int × Value)} {ns : List ItemV} {z : Int} {u : Value} {ms : List MarkV} (h : ItsQ P w xs ns) (j : Nat) (hu : MkQ P w u ms) : ItsQ P w (xs.set j (z, u)) (ns.set j ⟨z, ms⟩) := by
  have hl := h.1
  refine ⟨by simp [hl], fun i h1 h2 => ?_⟩
  simp only [List.length_set] at h1 h2
  by_cases e : i = j
  · subst e
    simp only [List.getElem_set_self, true_and]
    exact hu
  · rw [List.getElem_set_ne (by omega), List.getElem_set_ne (by omega)]
    exact h.2 i h1 h2
theorem ItRow.rdQ {B : Nat} {P : Nat → Prop} {w : World} {v : Value} {xs : List (Int × Value)} {ns : List ItemV} (h : ItRow B w v xs) (hx : ItsQ P w xs ns) : ItemSRd w v ns := by
  have hh : w.ownsRow B 30 2 v xs.length (itCells xs) := h
  rcases h with ⟨_, ⟨rfl, h0⟩ | ⟨g, cap, cur, rfl, hB, hg, hnc, _⟩⟩
  · have e : ns = [] := List.eq_nil_of_length_eq_zero (by rw [← hx.1]; exact h0)
    subst e
    exact ⟨none, 0, rfl, .inl rfl⟩
  · refine ⟨some ⟨g, 0, none⟩, cap, by rw [hx.1], .inr ⟨g, 0, rfl, (Array.getElem?_eq_some_iff.1 hg).1, fun i hi => ?_⟩⟩
    have hi' : i < xs.length := by rw [hx.1]; exact hi
    obtain ⟨e0, e1⟩ := itCells_get xs i hi'
    obtain ⟨f0, S, f1, _⟩ := hx.2 i hi' hi
    refine ⟨?_, xs[i].2, ?_, f1.rd⟩
    · rw [Nat.zero_add, hh.cellAt _ (by omega), ← f0]; exact e0
    · rw [Nat.zero_add, hh.cellAt _ (by omega)]; exact e1
theorem itCells_set (xs : List (Int × Value)) (j : Nat) (hj : j < xs.length) (z : Int) (u : Value) : itCells (xs.set j (z, u)) = ((itCells xs).set (j * 2) (.int .i64 z)).set (j * 2 + 1) u := by
  induction xs generalizing j with
  | nil => simp at hj
  | cons x xs ih =>
    cases j with
    | zero => simp [itCells]
    | succ j =>
      have e : ∀ (y : Int × Value) (l : List (Int × Value)), itCells (y :: l) = [.int .i64 y.1, y.2] ++ itCells l := fun y l => by simp [itCells]
      rw [List.set_cons_succ, e, e, ih j (by simpa using hj), show (j + 1) * 2 = j * 2 + 1 + 1 by omega]
      simp
theorem ItRow.at {B : Nat} {w : World} {a : Option Addr} {n c : Nat} {xs : List (Int × Value)} (h : ItRow B w (.slice a n c) xs) (j : Nat) (hj : j < xs.length) : ∃ g, a = some ⟨g, 0, none⟩ ∧ n = xs.length ∧ B ≤ g ∧ g < w.heap.size ∧ w.cell? ⟨g, j * 2, none⟩ = some (.int .i64 xs[j].1) ∧ w.cell? ⟨g, j * 2 + 1, none⟩ = some xs[j].2 ∧ w.frozen? ⟨g, j * 2, none⟩ = false ∧ w.frozen? ⟨g, j * 2 + 1, none⟩ = false ∧ ∀ z u, ItRow B ((w.setCell ⟨g, j * 2, none⟩ (.int .i64 z)).setCell ⟨g, j * 2 + 1, none⟩ u) (.slice a n c) (xs.set j (z, u)) := by
  have hh : w.ownsRow B 30 2 (.slice a n c) xs.length (itCells xs) := h
  rcases h.2 with ⟨e, h00⟩ | ⟨g, cap, cur, e, hB, hg, _⟩
  · omega
  · simp only [Value.slice.injEq] at e
    obtain ⟨rfl, rfl, rfl⟩ := e
    obtain ⟨e0, e1⟩ := itCells_get xs j hj
    refine ⟨g, rfl, rfl, hB, (Array.getElem?_eq_some_iff.1 hg).1, ?_, ?_, hh.frozenAt _, hh.frozenAt _, fun z u => ?_⟩
    · rw [hh.cellAt _ (by omega)]; exact e0
    · rw [hh.cellAt _ (by omega)]; exact e1
    · have q := ((hh.stored (j * 2) (.int .i64 z)).1.stored (j * 2 + 1) u).1
      unfold ItRow
      rw [List.length_set, itCells_set xs j hj z u]
      exact q
end Go.Proofs.Ytlbhandkpnjgmaa
