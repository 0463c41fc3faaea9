/-
  Rows of words that one may append to.
-/
/-
  Boxed variables in memory: what a block of cells holds, kept from world to world.
-/
import Derived.Test.YtkfhokeoooafnaaGreatDoorMerged22
import Derived.Laws.OwnMore
import Derived.Deep.AppendLies
import Derived.Handy
import Derived.Test.YtkfhokeoooafnaaGreatDoorMerged5
set_option linter.unusedVariables false
namespace Go.Proofs.YtkfhokeoooafnaaGreatDoor
open Go.RowKit Go.Maps Go.Deep

def wdCells (ns : List WordV) : List Value := ns.flatMap fun x => [.int .i64 x.a0, .string x.a1, .int .i64 x.a2]
theorem wdCells_len (ns : List WordV) : (wdCells ns).length = ns.length * 3 := by
  induction ns with
  | nil => rfl
  | cons x xs ih => simp [wdCells] at ih ⊢; omega
theorem wdCells_snoc (ns : List WordV) (x : WordV) : wdCells (ns ++ [x]) = wdCells ns ++ [.int .i64 x.a0, .string x.a1, .int .i64 x.a2] := by simp [wdCells]
theorem wdCells_get (ns : List WordV) (i : Nat) (h : i < ns.length) : (wdCells ns)[i * 3]? = some (.int .i64 ns[i].a0) ∧ (wdCells ns)[i * 3 + 1]? = some (.string ns[i].a1) ∧ (wdCells ns)[i * 3 + 2]? = some (.int .i64 ns[i].a2) := by
  induction ns generalizing i with
  | nil => simp at h
  | cons x xs ih =>
    cases i with
    | zero => simp [wdCells]
    | succ i =>
      have := ih i (by simpa using h)
      have e : wdCells (x :: xs) = [.int .i64 x.a0, .string x.a1, .int .i64 x.a2] ++ wdCells xs := by simp [wdCells]
      rw [e, show (i + 1) * 3 = i * 3 + 1 + 1 + 1 by omega]
      simpa using this
/-- a row of words, at or above a block, that one may append to -/
def WdRow (B : Nat) (w : World) (v : Value) (ns : List WordV) : Prop := w.ownsRow B 62 3 v ns.length (wdCells ns)
theorem WdRow.nil (B : Nat) (w : World) : WdRow B w (.slice none 0 0) [] := ⟨rfl, .inl ⟨rfl, rfl⟩⟩
theorem WdRow.slice {B : Nat} {w : World} {v : Value} {ns : List WordV} (h : WdRow B w v ns) : ∃ a c, v = .slice a ns.length c := by
  rcases h.2 with ⟨rfl, h0⟩ | ⟨g, cap, cur, rfl, _⟩
  · rw [h0]; exact ⟨_, _, rfl⟩
  · exact ⟨_, _, rfl⟩
theorem WdRow.own {B : Nat} {w : World} {v : Value} {ns : List WordV} (h : WdRow B w v ns) : ∃ S, WordSOwn S w v ns ∧ (∀ k ∈ S, B ≤ k) := by
  have hh : w.ownsRow B 62 3 v ns.length (wdCells ns) := h
  rcases h with ⟨_, ⟨rfl, h0⟩ | ⟨g, cap, cur, rfl, hB, hg, hnc, _⟩⟩
  · have : ns = [] := List.eq_nil_of_length_eq_zero h0
    subst this
    exact ⟨[], .inl ⟨rfl, rfl, none, 0, rfl⟩, by simp⟩
  · refine ⟨[g], .inr ⟨g, 0, cap, rfl, rfl, (Array.getElem?_eq_some_iff.1 hg).1, fun i hi => ?_, fun i hi => hh.frozenAt _⟩, by simpa using hB⟩
    obtain ⟨e0, e1, e2⟩ := wdCells_get ns i hi
    refine ⟨?_, ?_, ?_⟩
    · rw [Nat.zero_add, hh.cellAt _ (by omega)]; exact e0
    · rw [Nat.zero_add, hh.cellAt _ (by omega)]; exact e1
    · rw [Nat.zero_add, hh.cellAt _ (by omega)]; exact e2
theorem WdRow.rd {B : Nat} {w : World} {v : Value} {ns : List WordV} (h : WdRow B w v ns) : WordSRd w v ns := by
  obtain ⟨S, h, _⟩ := h.own
  exact h.rd
theorem WdRow.ge {B : Nat} {w : World} {v : Value} {ns : List WordV} (h : WdRow B w v ns) : ∀ g, v.ownBlock = some g → B ≤ g := by
  intro g hg
  rcases h.2 with ⟨rfl, _⟩ | ⟨g', cap, cur, rfl, hB, _⟩
  · simp [Value.ownBlock] at hg
  · simp [Value.ownBlock] at hg; omega
theorem WdRow.lt {B : Nat} {w : World} {v : Value} {ns : List WordV} (h : WdRow B w v ns) : ∀ g, v.ownBlock = some g → g < w.heap.size := by
  intro g hg
  rcases h.2 with ⟨rfl, _⟩ | ⟨g', cap, cur, rfl, hB, hh, _⟩
  · simp [Value.ownBlock] at hg
  · simp [Value.ownBlock] at hg; rw [← hg]; exact (Array.getElem?_eq_some_iff.1 hh).1
theorem WdRow.keep {B : Nat} {w w' : World} {v : Value} {ns : List WordV} (h : WdRow B w v ns) (hk : ∀ g, v.ownBlock = some g → w'.heap[g]? = w.heap[g]?) : WdRow B w' v ns := by
  refine ⟨h.1, ?_⟩
  rcases h.2 with h0 | ⟨g, cap, cur, e, hB, hg, r⟩
  · exact .inl h0
  · exact .inr ⟨g, cap, cur, e, hB, (hk g (by rw [e]; rfl)).trans hg, r⟩
theorem WdRow.up {B : Nat} {w w' : World} {v : Value} {ns : List WordV} (h : WdRow B w v ns) (hb : Below w.heap.size w w') : WdRow B w' v ns := h.keep (fun g hg => hb.block g (h.lt g hg))
theorem WdRow.mono {B B' : Nat} {w : World} {v : Value} {ns : List WordV} (h : WdRow B w v ns) (hB : B' ≤ B) : WdRow B' w v ns := by
  refine ⟨h.1, ?_⟩
  rcases h.2 with h0 | ⟨g, cap, cur, e, hb, r⟩
  · exact .inl h0
  · exact .inr ⟨g, cap, cur, e, Nat.le_trans hB hb, r⟩
theorem infoWd : (Tryz.prog.info? 62).map (fun i => (i.zero, i.size, i.bytes)) = some (some (.agg #[.int .i64 0, .string ByteArray.empty, .int .i64 0]), 3, 32) := by kernel_rfl
theorem news_word {w : World} {g : Nat} {x : WordV} (c0 : w.cell? ⟨g, 0, none⟩ = some (.int .i64 x.a0)) (c1 : w.cell? ⟨g, 1, none⟩ = some (.string x.a1)) (c2 : w.cell? ⟨g, 2, none⟩ = some (.int .i64 x.a2)) : ∀ j u, ([.int .i64 x.a0, .string x.a1, .int .i64 x.a2] : List Value)[j]? = some u → w.cell? ((⟨g, 0, none⟩ : Addr).add j) = some u := by
  intro j u hj
  match j, hj with
  | 0, hj => simp at hj; subst hj; simpa [Addr.add] using c0
  | 1, hj => simp at hj; subst hj; simpa [Addr.add] using c1
  | 2, hj => simp at hj; subst hj; simpa [Addr.add] using c2
/-- one more word, which lies in a block of its own -/
theorem wpList_wdAppend {w : World} {ops : Array Oper} {rest : List Oper} {o : Oper} {a : Act} {Q : Exit → Act → World → Prop} (hgd : o.guard = none) (s x : Operand)
    (ho : o.op = .call { callee := .builtin .append, args := #[s, x], argTypes := #[54, 54] }) (B : Nat) (v : Value) (ns : List WordV) (y : WordV) (g : Nat) (hs : a.eval s = v) (hx : a.eval x = .slice (some ⟨g, 0, none⟩) 1 1)
    (hv : WdRow B w v ns) (c0 : w.cell? ⟨g, 0, none⟩ = some (.int .i64 y.a0)) (c1 : w.cell? ⟨g, 1, none⟩ = some (.string y.a1)) (c2 : w.cell? ⟨g, 2, none⟩ = some (.int .i64 y.a2)) (hl : ns.length ≤ 1000000) (hB : B ≤ w.heap.size)
    (h : ∀ g' n c w', WdRow B w' (.slice (some ⟨g', 0, none⟩) n c) (ns ++ [y]) → w.grownBy w' v.ownBlock → (v.ownBlock = some g' ∨ g' = w.heap.size) → wpList Tryz.prog ops Q rest (a.put o.dst (.slice (some ⟨g', 0, none⟩) n c)) w') : wpList Tryz.prog ops Q (o :: rest) a w := by
  obtain ⟨i0, hi, hz0, hz1, hz2⟩ := info_parts1 infoWd
  refine wpList_append_lies w hgd s x 54 ho B 62 i0 _ 3 32 Tryz.underlying54 hi hz0 hz1 hz2 rfl (by decide) v ns.length (wdCells ns) hs hv ⟨g, 0, none⟩ 1 1 [.int .i64 y.a0, .string y.a1, .int .i64 y.a2] hx rfl (news_word c0 c1 c2) (by intro u hu; simp at hu; rcases hu with rfl | rfl | rfl <;> rfl) (by decide) (by unfold maxLen; omega) (by omega) hB w.heap.size rfl ?_
  intro g' cap w' h2 h3 h4 h5
  refine h g' _ cap w' ?_ h3 h4
  unfold WdRow
  rw [wdCells_snoc, List.length_append]
  exact h2
/-- one more word, at a step of a region that draws its order -/
theorem step_wdAppend {w : World} {ops : Array Oper} {o : Oper} {a : Act} {K : Act → World → Prop} {Q : Exit → Act → World → Prop} {E : Prop} (hgd : o.guard = none) (s x : Operand)
    (ho : o.op = .call { callee := .builtin .append, args := #[s, x], argTypes := #[54, 54] }) (B : Nat) (v : Value) (ns : List WordV) (y : WordV) (g : Nat) (hs : a.eval s = v) (hx : a.eval x = .slice (some ⟨g, 0, none⟩) 1 1)
    (hv : WdRow B w v ns) (c0 : w.cell? ⟨g, 0, none⟩ = some (.int .i64 y.a0)) (c1 : w.cell? ⟨g, 1, none⟩ = some (.string y.a1)) (c2 : w.cell? ⟨g, 2, none⟩ = some (.int .i64 y.a2)) (hl : ns.length ≤ 1000000) (hB : B ≤ w.heap.size)
    (h : ∀ g' n c w', WdRow B w' (.slice (some ⟨g', 0, none⟩) n c) (ns ++ [y]) → w.grownBy w' v.ownBlock → K (a.put o.dst (.slice (some ⟨g', 0, none⟩) n c)) w') :
    if Region.wanted o (yielded ops a.tmps) = true then Oper.wp Tryz.prog o a w K Q else E := by
  obtain ⟨i0, hi, hz0, hz1, hz2⟩ := info_parts1 infoWd
  refine step_append_lies w hgd s x 54 ho B 62 i0 _ 3 32 Tryz.underlying54 hi hz0 hz1 hz2 rfl (by decide) v ns.length (wdCells ns) hs hv ⟨g, 0, none⟩ 1 1 [.int .i64 y.a0, .string y.a1, .int .i64 y.a2] hx rfl (news_word c0 c1 c2) (by intro u hu; simp at hu; rcases hu with rfl | rfl | rfl <;> rfl) (by decide) (by unfold maxLen; omega) (by omega) hB w.heap.size rfl ?_
  intro g' cap w' h2 h3 h4 h5
  refine h g' _ cap w' ?_ h3
  unfold WdRow
  rw [wdCells_snoc, List.length_append]
  exact h2
end Go.Proofs.YtkfhokeoooafnaaGreatDoor

set_option linter.unusedVariables false
namespace Go.Proofs.YtkfhokeoooafnaaGreatDoor
open Go.RowKit Go.Maps

def BoxIs (w : World) (g : Nat) (xs : List Value) : Prop := g < w.heap.size ∧ ∀ i v, xs[i]? = some v → w.cell? ⟨g, i, none⟩ = some v
theorem BoxIs.up {w w' : World} {g : Nat} {xs : List Value} (h : BoxIs w g xs) (hb : Below w.heap.size w w') : BoxIs w' g xs :=
  ⟨Nat.lt_of_lt_of_le h.1 hb.size, fun i v hv => (hb.cell (by exact h.1)).trans (h.2 i v hv)⟩
theorem BoxIs.turn {S : List Nat} {w w' : World} {g : Nat} {xs : List Value} (h : BoxIs w g xs) (ht : Turn S w w') (hS : g ∉ S) : BoxIs w' g xs :=
  ⟨Nat.lt_of_lt_of_le h.1 ht.size, fun i v hv => (ht.cell h.1 hS).trans (h.2 i v hv)⟩
theorem BoxIs.at {w : World} {g : Nat} {xs : List Value} (h : BoxIs w g xs) (i : Nat) (v : Value) (hv : xs[i]? = some v) : w.cell? ⟨g, i, none⟩ = some v := h.2 i v hv
theorem BoxIs.four {w : World} {g : Nat} {a b c d : Value} (h : BoxIs w g [a, b, c, d]) : w.cell? ⟨g, 0, none⟩ = some a ∧ w.cell? ⟨g, 1, none⟩ = some b ∧ w.cell? ⟨g, 2, none⟩ = some c ∧ w.cell? ⟨g, 3, none⟩ = some d :=
  ⟨h.2 0 _ rfl, h.2 1 _ rfl, h.2 2 _ rfl, h.2 3 _ rfl⟩
theorem boxMade (w : World) (xs : List Value) (T : TypeId) : BoxIs (w.alloc (.cells xs.toArray T)) w.heap.size xs :=
  ⟨by simp, fun i v hv => by rw [World.cell?_alloc_at _ _ _ _ rfl]; simpa using hv⟩
theorem boxMade4 (w : World) (a b c d : Value) (T : TypeId) : BoxIs (w.alloc (.cells #[a, b, c, d] T)) w.heap.size [a, b, c, d] := boxMade w [a, b, c, d] T
/-- a new variable, filled cell by cell -/
theorem boxStored4 (w : World) (z0 z1 z2 z3 a b c d : Value) (T : TypeId) :
    BoxIs (((((w.alloc (.cells #[z0, z1, z2, z3] T)).setCell ⟨w.heap.size, 0, none⟩ a).setCell ⟨w.heap.size, 1, none⟩ b).setCell ⟨w.heap.size, 2, none⟩ c).setCell ⟨w.heap.size, 3, none⟩ d) w.heap.size [a, b, c, d] ∧
    Below w.heap.size w (((((w.alloc (.cells #[z0, z1, z2, z3] T)).setCell ⟨w.heap.size, 0, none⟩ a).setCell ⟨w.heap.size, 1, none⟩ b).setCell ⟨w.heap.size, 2, none⟩ c).setCell ⟨w.heap.size, 3, none⟩ d) := by
  obtain ⟨_, hc⟩ := boxMade4 w z0 z1 z2 z3 T
  have c0 := hc 0 _ rfl
  have c1 := hc 1 _ rfl
  have c2 := hc 2 _ rfl
  have c3 := hc 3 _ rfl
  refine ⟨⟨by simp, ?_⟩, (((((Below.refl _ _).alloc (Nat.le_refl _) _).setCell (Nat.le_refl _) _).setCell (Nat.le_refl _) _).setCell (Nat.le_refl _) _).setCell (Nat.le_refl _) _⟩
  generalize w.alloc (.cells #[z0, z1, z2, z3] T) = W at *
  generalize w.heap.size = g at *
  have ne : ∀ (X : World) (i j : Nat) (v : Value), i ≠ j → (X.setCell ⟨g, j, none⟩ v).cell? ⟨g, i, none⟩ = X.cell? ⟨g, i, none⟩ := fun X i j v h => World.cell?_setCell_other _ _ _ _ (by intro e; have := congrArg Addr.off e; simp only at this; omega)
  intro i v hv
  match i, hv with
  | 0, hv =>
    simp at hv; subst hv
    rw [ne _ 0 3 _ (by omega), ne _ 0 2 _ (by omega), ne _ 0 1 _ (by omega)]
    exact World.cell?_setCell_same _ _ _ c0
  | 1, hv =>
    simp at hv; subst hv
    rw [ne _ 1 3 _ (by omega), ne _ 1 2 _ (by omega)]
    exact World.cell?_setCell_same _ _ _ (by rw [ne _ 1 0 _ (by omega)]; exact c1)
  | 2, hv =>
    simp at hv; subst hv
    rw [ne _ 2 3 _ (by omega)]
    exact World.cell?_setCell_same _ _ _ (by rw [ne _ 2 1 _ (by omega), ne _ 2 0 _ (by omega)]; exact c2)
  | 3, hv =>
    simp at hv; subst hv
    exact World.cell?_setCell_same _ _ _ (by rw [ne _ 3 2 _ (by omega), ne _ 3 1 _ (by omega), ne _ 3 0 _ (by omega)]; exact c3)
  | i + 4, hv => simp at hv
theorem boxNew4 (w : World) (a b c d : Value) (T : TypeId) : BoxIs (w.alloc (.cells #[a, b, c, d] T)) w.heap.size [a, b, c, d] ∧ Below w.heap.size w (w.alloc (.cells #[a, b, c, d] T)) ∧ w.heap.size < (w.alloc (.cells #[a, b, c, d] T)).heap.size :=
  ⟨boxMade4 w a b c d T, (Below.refl _ _).alloc (Nat.le_refl _) _, by simp⟩
theorem boxFill4 (w : World) (z0 z1 z2 z3 a b c d : Value) (T : TypeId) :
    BoxIs (((((w.alloc (.cells #[z0, z1, z2, z3] T)).setCell ⟨w.heap.size, 0, none⟩ a).setCell ⟨w.heap.size, 1, none⟩ b).setCell ⟨w.heap.size, 2, none⟩ c).setCell ⟨w.heap.size, 3, none⟩ d) w.heap.size [a, b, c, d] ∧
    Below w.heap.size w (((((w.alloc (.cells #[z0, z1, z2, z3] T)).setCell ⟨w.heap.size, 0, none⟩ a).setCell ⟨w.heap.size, 1, none⟩ b).setCell ⟨w.heap.size, 2, none⟩ c).setCell ⟨w.heap.size, 3, none⟩ d) ∧
    w.heap.size < (((((w.alloc (.cells #[z0, z1, z2, z3] T)).setCell ⟨w.heap.size, 0, none⟩ a).setCell ⟨w.heap.size, 1, none⟩ b).setCell ⟨w.heap.size, 2, none⟩ c).setCell ⟨w.heap.size, 3, none⟩ d).heap.size := by
  obtain ⟨h1, h2⟩ := boxStored4 w z0 z1 z2 z3 a b c d T
  exact ⟨h1, h2, h1.1⟩
theorem BoxIs.two {w : World} {g : Nat} {a b : Value} (h : BoxIs w g [a, b]) : w.cell? ⟨g, 0, none⟩ = some a ∧ w.cell? ⟨g, 1, none⟩ = some b := ⟨h.2 0 _ rfl, h.2 1 _ rfl⟩
theorem BoxIs.six {w : World} {g : Nat} {a b c d e f : Value} (h : BoxIs w g [a, b, c, d, e, f]) : w.cell? ⟨g, 0, none⟩ = some a ∧ w.cell? ⟨g, 1, none⟩ = some b ∧ w.cell? ⟨g, 2, none⟩ = some c ∧ w.cell? ⟨g, 3, none⟩ = some d ∧ w.cell? ⟨g, 4, none⟩ = some e ∧ w.cell? ⟨g, 5, none⟩ = some f :=
  ⟨h.2 0 _ rfl, h.2 1 _ rfl, h.2 2 _ rfl, h.2 3 _ rfl, h.2 4 _ rfl, h.2 5 _ rfl⟩
theorem boxNew2 (w : World) (a b : Value) (T : TypeId) : BoxIs (w.alloc (.cells #[a, b] T)) w.heap.size [a, b] ∧ Below w.heap.size w (w.alloc (.cells #[a, b] T)) ∧ w.heap.size < (w.alloc (.cells #[a, b] T)).heap.size :=
  ⟨boxMade w [a, b] T, (Below.refl _ _).alloc (Nat.le_refl _) _, by simp⟩
theorem boxNew6 (w : World) (a b c d e f : Value) (T : TypeId) : BoxIs (w.alloc (.cells #[a, b, c, d, e, f] T)) w.heap.size [a, b, c, d, e, f] ∧ Below w.heap.size w (w.alloc (.cells #[a, b, c, d, e, f] T)) ∧ w.heap.size < (w.alloc (.cells #[a, b, c, d, e, f] T)).heap.size :=
  ⟨boxMade w [a, b, c, d, e, f] T, (Below.refl _ _).alloc (Nat.le_refl _) _, by simp⟩
def IntFit (n : Int) : Prop := -9223372036854775808 ≤ n ∧ n ≤ 9223372036854775807
/-- four cells of a block, filled -/
theorem fill4 (w : World) (g : Nat) (a b c d : Value) (hc : ∀ i, i < 4 → ∃ x, w.cell? ⟨g, i, none⟩ = some x) :
    let W := (((w.setCell ⟨g, 0, none⟩ a).setCell ⟨g, 1, none⟩ b).setCell ⟨g, 2, none⟩ c).setCell ⟨g, 3, none⟩ d
    W.cell? ⟨g, 0, none⟩ = some a ∧ W.cell? ⟨g, 1, none⟩ = some b ∧ W.cell? ⟨g, 2, none⟩ = some c ∧ W.cell? ⟨g, 3, none⟩ = some d ∧ (∀ i, W.frozen? ⟨g, i, none⟩ = w.frozen? ⟨g, i, none⟩) ∧ Turn [g] w W := by
  obtain ⟨x0, c0⟩ := hc 0 (by omega)
  obtain ⟨x1, c1⟩ := hc 1 (by omega)
  obtain ⟨x2, c2⟩ := hc 2 (by omega)
  obtain ⟨x3, c3⟩ := hc 3 (by omega)
  have ne : ∀ (X : World) (i j : Nat) (v : Value), i ≠ j → (X.setCell ⟨g, j, none⟩ v).cell? ⟨g, i, none⟩ = X.cell? ⟨g, i, none⟩ := fun X i j v h => World.cell?_setCell_other _ _ _ _ (by intro e; have := congrArg Addr.off e; simp only at this; omega)
  refine ⟨?_, ?_, ?_, ?_, fun i => ?_, ((((Turn.refl _ _).setCell (by simp) _ _).setCell (by simp) _ _).setCell (by simp) _ _).setCell (by simp) _ _⟩
  · rw [ne _ 0 3 _ (by omega), ne _ 0 2 _ (by omega), ne _ 0 1 _ (by omega)]
    exact World.cell?_setCell_same _ _ _ c0
  · rw [ne _ 1 3 _ (by omega), ne _ 1 2 _ (by omega)]
    exact World.cell?_setCell_same _ _ _ (by rw [ne _ 1 0 _ (by omega)]; exact c1)
  · rw [ne _ 2 3 _ (by omega)]
    exact World.cell?_setCell_same _ _ _ (by rw [ne _ 2 1 _ (by omega), ne _ 2 0 _ (by omega)]; exact c2)
  · exact World.cell?_setCell_same _ _ _ (by rw [ne _ 3 2 _ (by omega), ne _ 3 1 _ (by omega), ne _ 3 0 _ (by omega)]; exact c3)
  · rw [World.frozen?_setCell, World.frozen?_setCell, World.frozen?_setCell, World.frozen?_setCell]
/-- a block of cells that may be written -/
def BoxF (w : World) (g : Nat) (xs : List Value) : Prop := BoxIs w g xs ∧ ∀ i, i < xs.length → w.frozen? ⟨g, i, none⟩ = false
theorem BoxF.up {w w' : World} {g : Nat} {xs : List Value} (h : BoxF w g xs) (hb : Below w.heap.size w w') : BoxF w' g xs := ⟨h.1.up hb, fun i hi => (hb.frozen (by exact h.1.1)).trans (h.2 i hi)⟩
theorem BoxF.turn {S : List Nat} {w w' : World} {g : Nat} {xs : List Value} (h : BoxF w g xs) (ht : Turn S w w') (hS : g ∉ S) : BoxF w' g xs := ⟨h.1.turn ht hS, fun i hi => (ht.frozen h.1.1 hS).trans (h.2 i hi)⟩
theorem BoxF.set {w : World} {g : Nat} {xs : List Value} (h : BoxF w g xs) (i : Nat) (v : Value) (hi : i < xs.length) : BoxF (w.setCell ⟨g, i, none⟩ v) g (xs.set i v) := by
  refine ⟨⟨by simpa using h.1.1, fun j x hx => ?_⟩, fun j hj => ?_⟩
  · by_cases e : j = i
    · subst e
      rw [List.getElem?_set_self hi] at hx
      cases hx
      exact World.cell?_setCell_same _ _ _ (h.1.2 j _ (List.getElem?_eq_getElem hi))
    · rw [List.getElem?_set_ne (fun q => e q.symm)] at hx
      rw [World.cell?_setCell_other _ _ _ _ (by intro q; have := congrArg Addr.off q; simp only at this; omega)]
      exact h.1.2 j x hx
  · rw [World.frozen?_setCell]
    exact h.2 j (by simpa using hj)
theorem BoxF.far {w : World} {g g' : Nat} {xs : List Value} (h : BoxF w g xs) (i : Nat) (v : Value) (hg : g ≠ g') : BoxF (w.setCell ⟨g', i, none⟩ v) g xs := h.turn ((Turn.refl [g'] w).setCell (by simp) i v) (by simpa using hg)
theorem boxF_new (w : World) (xs : List Value) (T : TypeId) : BoxF (w.alloc (.cells xs.toArray T)) w.heap.size xs := by
  refine ⟨boxMade w xs T, fun i hi => ?_⟩
  simp
theorem boxF_new4 (w : World) (a b c d : Value) (T : TypeId) : BoxF (w.alloc (.cells #[a, b, c, d] T)) w.heap.size [a, b, c, d] := boxF_new w [a, b, c, d] T
theorem BoxF.four {w : World} {g : Nat} {a b c d : Value} (h : BoxF w g [a, b, c, d]) : (w.cell? ⟨g, 0, none⟩ = some a ∧ w.cell? ⟨g, 1, none⟩ = some b ∧ w.cell? ⟨g, 2, none⟩ = some c ∧ w.cell? ⟨g, 3, none⟩ = some d) ∧ (w.frozen? ⟨g, 0, none⟩ = false ∧ w.frozen? ⟨g, 1, none⟩ = false ∧ w.frozen? ⟨g, 2, none⟩ = false ∧ w.frozen? ⟨g, 3, none⟩ = false) :=
  ⟨h.1.four, h.2 0 (by simp), h.2 1 (by simp), h.2 2 (by simp), h.2 3 (by simp)⟩
end Go.Proofs.YtkfhokeoooafnaaGreatDoor
