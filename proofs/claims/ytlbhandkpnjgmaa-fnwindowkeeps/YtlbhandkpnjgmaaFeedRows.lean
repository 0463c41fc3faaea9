/-
  Rows of feeds (an input's number and an item) that one may append to; their stamps lie in blocks of a kind.
-/
import Derived.Test.YtlbhandkpnjgmaaWinQ
set_option linter.unusedVariables false
namespace Go.Proofs.Ytlbhandkpnjgmaa
open Go.RowKit Go.Maps Go.Deep

structure FeedV where
  a0 : Int
  a1 : ItemV
structure RawF where
  i : Int
  z : Int
  u : Value
def fdCells (xs : List RawF) : List Value := xs.flatMap fun x => [.int .i64 x.i, .int .i64 x.z, x.u]
theorem fdCells_cons (x : RawF) (xs : List RawF) : fdCells (x :: xs) = [.int .i64 x.i, .int .i64 x.z, x.u] ++ fdCells xs := by simp [fdCells]
theorem fdCells_len (ns : List RawF) : (fdCells ns).length = ns.length * 3 := by
  induction ns with
  | nil => rfl
  | cons x xs ih => rw [fdCells_cons]; simp; omega
theorem fdCells_snoc (ns : List RawF) (x : RawF) : fdCells (ns ++ [x]) = fdCells ns ++ [.int .i64 x.i, .int .i64 x.z, x.u] := by simp [fdCells]
theorem fdCells_get (ns : List RawF) (i : Nat) (h : i < ns.length) : (fdCells ns)[i * 3]? = some (.int .i64 ns[i].i) ∧ (fdCells ns)[i * 3 + 1]? = some (.int .i64 ns[i].z) ∧ (fdCells ns)[i * 3 + 2]? = some ns[i].u := by
  induction ns generalizing i with
  | nil => simp at h
  | cons x xs ih =>
    cases i with
    | zero => simp [fdCells]
    | succ i =>
      have := ih i (by simpa using h)
      rw [fdCells_cons, show (i + 1) * 3 = i * 3 + 1 + 1 + 1 by omega]
      simpa using this
def FdRow (B : Nat) (w : World) (v : Value) (xs : List RawF) : Prop := w.ownsRow B 32 3 v xs.length (fdCells xs)
theorem FdRow.nil (B : Nat) (w : World) : FdRow B w (.slice none 0 0) [] := ⟨rfl, .inl ⟨rfl, rfl⟩⟩
theorem FdRow.slice {B : Nat} {w : World} {v : Value} {xs : List RawF} (h : FdRow B w v xs) : ∃ a c, v = .slice a xs.length c := by
  rcases h.2 with ⟨rfl, h0⟩ | ⟨g, cap, cur, rfl, _⟩
  · rw [h0]; exact ⟨_, _, rfl⟩
  · exact ⟨_, _, rfl⟩
theorem FdRow.ge {B : Nat} {w : World} {v : Value} {xs : List RawF} (h : FdRow B w v xs) : ∀ g, v.ownBlock = some g → B ≤ g := by
  intro g hg
  rcases h.2 with ⟨rfl, _⟩ | ⟨g', cap, cur, rfl, hB, _⟩
  · simp [Value.ownBlock] at hg
  · simp [Value.ownBlock] at hg; omega
theorem FdRow.lt {B : Nat} {w : World} {v : Value} {xs : List RawF} (h : FdRow B w v xs) : ∀ g, v.ownBlock = some g → g < w.heap.size := by
  intro g hg
  rcases h.2 with ⟨rfl, _⟩ | ⟨g', cap, cur, rfl, hB, hh, _⟩
  · simp [Value.ownBlock] at hg
  · simp [Value.ownBlock] at hg; rw [← hg]; exact (Array.getElem?_eq_some_iff.1 hh).1
theorem FdRow.keep {B : Nat} {w w' : World} {v : Value} {xs : List RawF} (h : FdRow B w v xs) (hk : ∀ g, v.ownBlock = some g → w'.heap[g]? = w.heap[g]?) : FdRow B w' v xs := by
  refine ⟨h.1, ?_⟩
  rcases h.2 with h0 | ⟨g, cap, cur, e, hB, hg, r⟩
  · exact .inl h0
  · exact .inr ⟨g, cap, cur, e, hB, (hk g (by rw [e]; rfl)).trans hg, r⟩
theorem FdRow.up {B : Nat} {w w' : World} {v : Value} {xs : List RawF} (h : FdRow B w v xs) (hb : Below w.heap.size w w') : FdRow B w' v xs := h.keep (fun g hg => hb.block g (h.lt g hg))
theorem FdRow.turn {B : Nat} {S : List Nat} {w w' : World} {v : Value} {xs : List RawF} (h : FdRow B w v xs) (t : Turn S w w') (hS : ∀ k ∈ S, v.ownBlock ≠ some k) : FdRow B w' v xs := h.keep (fun g hg => t.block g (h.lt g hg) (fun hm => hS g hm hg))
/-- a row of feeds and one of marks, or one of numbers, have blocks of two kinds -/
theorem FdRow.typed {B : Nat} {w : World} {v : Value} {xs : List RawF} (h : FdRow B w v xs) : ∀ g, v.ownBlock = some g → ∃ cur, w.heap[g]? = some (.cells cur 32) := by
  intro g hg
  rcases h.2 with ⟨rfl, _⟩ | ⟨g', cap, cur, rfl, hB, hh, _⟩
  · simp [Value.ownBlock] at hg
  · simp [Value.ownBlock] at hg
    subst hg
    exact ⟨cur, hh⟩
theorem FdRow.apart {B B' : Nat} {w : World} {v u : Value} {xs : List RawF} {ms : List MarkV} (h : FdRow B w v xs) (h' : MkRow B' w u ms) : ∀ k, u.ownBlock = some k → v.ownBlock ≠ some k := by
  intro k hk hv
  obtain ⟨cur, hg⟩ := h.typed k hv
  rcases h'.2 with ⟨rfl, _⟩ | ⟨g', cap', cur', rfl, hB', hg', _⟩
  · simp [Value.ownBlock] at hk
  · simp [Value.ownBlock] at hk
    subst hk
    rw [hg] at hg'
    simp at hg'
theorem FdRow.apartI {B B' : Nat} {w : World} {v u : Value} {xs : List RawF} {ts : List Int} (h : FdRow B w v xs) (h' : IvRow B' w u ts) : ∀ k, u.ownBlock = some k → v.ownBlock ≠ some k := by
  intro k hk hv
  obtain ⟨cur, hg⟩ := h.typed k hv
  obtain ⟨cur', hg'⟩ := h'.typed k hk
  rw [hg] at hg'
  simp at hg'
/-- what the raw feeds stand for -/
def FdsQ (P : Nat → Prop) (w : World) (xs : List RawF) (ns : List FeedV) : Prop := xs.length = ns.length ∧ ∀ i (h : i < xs.length) (h' : i < ns.length), xs[i].i = ns[i].a0 ∧ xs[i].z = ns[i].a1.a0 ∧ MkQ P w xs[i].u ns[i].a1.a1
theorem FdsQ.nil (P : Nat → Prop) (w : World) : FdsQ P w [] [] := ⟨rfl, fun i h => by simp at h⟩
theorem FdsQ.turn {P : Nat → Prop} {S : List Nat} {w w' : World} {xs : List RawF} {ns : List FeedV} (h : FdsQ P w xs ns) (t : Turn S w w') (hS : ∀ k ∈ S, ¬ P k) : FdsQ P w' xs ns := ⟨h.1, fun i h1 h2 => ⟨(h.2 i h1 h2).1, (h.2 i h1 h2).2.1, (h.2 i h1 h2).2.2.turn t hS⟩⟩
theorem FdsQ.mono {P P' : Nat → Prop} {w : World} {xs : List RawF} {ns : List FeedV} (h : FdsQ P w xs ns) (hP : ∀ k, k < w.heap.size → P k → P' k) : FdsQ P' w xs ns := ⟨h.1, fun i h1 h2 => ⟨(h.2 i h1 h2).1, (h.2 i h1 h2).2.1, (h.2 i h1 h2).2.2.mono hP⟩⟩
theorem FdsQ.up {P : Nat → Prop} {w w' : World} {xs : List RawF} {ns : List FeedV} (h : FdsQ P w xs ns) (b : Below w.heap.size w w') : FdsQ P w' xs ns := h.turn (Turn.of_below (S := []) b) (by simp)
theorem FdsQ.snoc {P : Nat → Prop} {w : World} {xs : List RawF} {ns : List FeedV} {i z : Int} {u : Value} {ms : List MarkV} (h : FdsQ P w xs ns) (hu : MkQ P w u ms) : FdsQ P w (xs ++ [⟨i, z, u⟩]) (ns ++ [⟨i, ⟨z, ms⟩⟩]) := by
  have hl := h.1
  refine ⟨by simp [hl], fun i h1 h2 => ?_⟩
  by_cases e : i < xs.length
  · rw [List.getElem_append_left e, List.getElem_append_left (by omega)]
    exact h.2 i e (by omega)
  · have e' : i = xs.length := by simp at h1; omega
    subst e'
    rw [List.getElem_append_right (Nat.le_refl _), List.getElem_append_right (by omega)]
    simp only [hl, Nat.sub_self, List.getElem_cons_zero, true_and]
    exact hu
/-- a row of feeds for reading -/
def FeedAt (w : World) (b off : Nat) (ns : List FeedV) : Prop :=
  ∀ i (h : i < ns.length), w.cell? ⟨b, off + i * 3, none⟩ = some (.int .i64 ns[i].a0) ∧ w.cell? ⟨b, off + i * 3 + 1, none⟩ = some (.int .i64 ns[i].a1.a0) ∧ ∃ v, w.cell? ⟨b, off + i * 3 + 2, none⟩ = some v ∧ MarkSRd w v ns[i].a1.a1
def FeedSRd (w : World) (v : Value) (ns : List FeedV) : Prop := ∃ a c, v = .slice a ns.length c ∧ (ns = [] ∨ ∃ b off, a = some ⟨b, off, none⟩ ∧ b < w.heap.size ∧ FeedAt w b off ns)
theorem FeedAt.up {w w' : World} {b off : Nat} {ns : List FeedV} (h : FeedAt w b off ns) (hb : b < w.heap.size) (hw : Below w.heap.size w w') : FeedAt w' b off ns := by
  intro i hi
  obtain ⟨c0, c1, v, c2, hv⟩ := h i hi
  exact ⟨(hw.cell (by exact hb)).trans c0, (hw.cell (by exact hb)).trans c1, v, (hw.cell (by exact hb)).trans c2, hv.up hw⟩
theorem FeedSRd.up {w w' : World} {v : Value} {ns : List FeedV} (h : FeedSRd w v ns) (hw : Below w.heap.size w w') : FeedSRd w' v ns := by
  obtain ⟨a, c, e, h⟩ := h
  refine ⟨a, c, e, ?_⟩
  rcases h with h | ⟨b, off, e, hb, h⟩
  · exact .inl h
  · exact .inr ⟨b, off, e, Nat.lt_of_lt_of_le hb hw.size, h.up hb hw⟩
theorem FeedSRd.form {w : World} {v : Value} {ns : List FeedV} (h : FeedSRd w v ns) : ∃ a n c, v = .slice a n c := by
  obtain ⟨a, c, e, _⟩ := h
  exact ⟨a, _, c, e⟩
theorem FdRow.rdQ {B : Nat} {P : Nat → Prop} {w : World} {v : Value} {xs : List RawF} {ns : List FeedV} (h : FdRow B w v xs) (hx : FdsQ P w xs ns) : FeedSRd w v ns := by
  have hh : w.ownsRow B 32 3 v xs.length (fdCells xs) := h
  rcases h with ⟨_, ⟨rfl, h0⟩ | ⟨g, cap, cur, rfl, hB, hg, hnc, _⟩⟩
  · have e : ns = [] := List.eq_nil_of_length_eq_zero (by rw [← hx.1]; exact h0)
    subst e
    exact ⟨none, 0, rfl, .inl rfl⟩
  · refine ⟨some ⟨g, 0, none⟩, cap, by rw [hx.1], .inr ⟨g, 0, rfl, (Array.getElem?_eq_some_iff.1 hg).1, fun i hi => ?_⟩⟩
    have hi' : i < xs.length := by rw [hx.1]; exact hi
    obtain ⟨e0, e1, e2⟩ := fdCells_get xs i hi'
    obtain ⟨f0, f1, S, f2, _⟩ := hx.2 i hi' hi
    refine ⟨?_, ?_, xs[i].u, ?_, f2.rd⟩
    · rw [Nat.zero_add, hh.cellAt _ (by omega), ← f0]; exact e0
    · rw [Nat.zero_add, hh.cellAt _ (by omega), ← f1]; exact e1
    · rw [Nat.zero_add, hh.cellAt _ (by omega)]; exact e2
theorem infoFeed : (Try.prog.info? 32).map (fun i => (i.zero, i.size, i.bytes)) = some (some (.agg #[.int .i64 0, .int .i64 0, .slice none 0 0]), 3, 40) := by kernel_rfl
theorem news_feed {w : World} {g : Nat} {i z : Int} {u : Value} (c0 : w.cell? ⟨g, 0, none⟩ = some (.int .i64 i)) (c1 : w.cell? ⟨g, 1, none⟩ = some (.int .i64 z)) (c2 : w.cell? ⟨g, 2, none⟩ = some u) : ∀ j x, ([.int .i64 i, .int .i64 z, u] : List Value)[j]? = some x → w.cell? ((⟨g, 0, none⟩ : Addr).add j) = some x := by
  intro j x hj
  match j, hj with
  | 0, hj => simp at hj; subst hj; simpa [Addr.add] using c0
  | 1, hj => simp at hj; subst hj; simpa [Addr.add] using c1
  | 2, hj => simp at hj; subst hj; simpa [Addr.add] using c2
/-- one more feed -/
theorem wpList_fdAppend {w : World} {ops : Array Oper} {rest : List Oper} {o : Oper} {a : Act} {Q : Exit → Act → World → Prop} (hgd : o.guard = none) (s x : Operand)
    (ho : o.op = .call { callee := .builtin .append, args := #[s, x], argTypes := #[24, 24] }) (B : Nat) (v : Value) (ns : List RawF) (i z : Int) (ya : Option Addr) (yn yc : Nat) (g : Nat) (hs : a.eval s = v) (hx : a.eval x = .slice (some ⟨g, 0, none⟩) 1 1)
    (hv : FdRow B w v ns) (c0 : w.cell? ⟨g, 0, none⟩ = some (.int .i64 i)) (c1 : w.cell? ⟨g, 1, none⟩ = some (.int .i64 z)) (c2 : w.cell? ⟨g, 2, none⟩ = some (.slice ya yn yc)) (hl : ns.length ≤ 1000000) (hB : B ≤ w.heap.size)
    (h : ∀ g' n c w', FdRow B w' (.slice (some ⟨g', 0, none⟩) n c) (ns ++ [⟨i, z, .slice ya yn yc⟩]) → w.grownBy w' v.ownBlock → (v.ownBlock = some g' ∨ g' = w.heap.size) → wpList Try.prog ops Q rest (a.put o.dst (.slice (some ⟨g', 0, none⟩) n c)) w') : wpList Try.prog ops Q (o :: rest) a w := by
  obtain ⟨i0, hi, hz0, hz1, hz2⟩ := info_parts1 infoFeed
  refine wpList_append_lies w hgd s x 24 ho B 32 i0 _ 3 40 Try.underlying24 hi hz0 hz1 hz2 rfl (by decide) v ns.length (fdCells ns) hs hv ⟨g, 0, none⟩ 1 1 [.int .i64 i, .int .i64 z, .slice ya yn yc] hx rfl (news_feed c0 c1 c2) (by intro u hu; simp at hu; rcases hu with rfl | rfl | rfl <;> rfl) (by decide) (by unfold maxLen; omega) (by omega) hB w.heap.size rfl ?_
  intro g' cap w' h2 h3 h4 h5
  refine h g' _ cap w' ?_ h3 h4
  unfold FdRow
  rw [fdCells_snoc, List.length_append]
  exact h2
end Go.Proofs.Ytlbhandkpnjgmaa
