/-
  Rows of marks that one may append to.
-/
import Derived.Test.YteonbigmggeneaaDoorMarkRowsOwn
import Derived.Laws.OwnMore
import Derived.Deep.AppendLies
import Derived.Handy
set_option linter.unusedVariables false
namespace Go.Proofs.YteonbigmggeneaaDoor
open Go.RowKit Go.Maps Go.Deep

def mkCells (ns : List MarkV) : List Value := ns.flatMap fun x => [.string x.a0, .int .i64 x.a1]
theorem mkCells_len (ns : List MarkV) : (mkCells ns).length = ns.length * 2 := by
  induction ns with
  | nil => rfl
  | cons x xs ih => simp [mkCells] at ih ⊢; omega
theorem mkCells_snoc (ns : List MarkV) (x : MarkV) : mkCells (ns ++ [x]) = mkCells ns ++ [.string x.a0, .int .i64 x.a1] := by simp [mkCells]
theorem mkCells_get (ns : List MarkV) (i : Nat) (h : i < ns.length) : (mkCells ns)[i * 2]? = some (.string ns[i].a0) ∧ (mkCells ns)[i * 2 + 1]? = some (.int .i64 ns[i].a1) := by
  induction ns generalizing i with
  | nil => simp at h
  | cons x xs ih =>
    cases i with
    | zero => simp [mkCells]
    | succ i =>
      have := ih i (by simpa using h)
      have e : mkCells (x :: xs) = [.string x.a0, .int .i64 x.a1] ++ mkCells xs := by simp [mkCells]
      rw [e, show (i + 1) * 2 = i * 2 + 1 + 1 by omega]
      simpa using this
/-- a row of marks, at or above a block, that one may append to -/
def MkRow (B : Nat) (w : World) (v : Value) (ns : List MarkV) : Prop := w.ownsRow B 39 2 v ns.length (mkCells ns)
theorem MkRow.nil (B : Nat) (w : World) : MkRow B w (.slice none 0 0) [] := ⟨rfl, .inl ⟨rfl, rfl⟩⟩
theorem MkRow.slice {B : Nat} {w : World} {v : Value} {ns : List MarkV} (h : MkRow B w v ns) : ∃ a c, v = .slice a ns.length c := by
  rcases h.2 with ⟨rfl, h0⟩ | ⟨g, cap, cur, rfl, _⟩
  · rw [h0]; exact ⟨_, _, rfl⟩
  · exact ⟨_, _, rfl⟩
theorem MkRow.own {B : Nat} {w : World} {v : Value} {ns : List MarkV} (h : MkRow B w v ns) : ∃ S, MarkSOwn S w v ns ∧ (∀ k ∈ S, B ≤ k) ∧ (∀ k ∈ S, v.ownBlock = some k) := by
  have hh : w.ownsRow B 39 2 v ns.length (mkCells ns) := h
  rcases h with ⟨_, ⟨rfl, h0⟩ | ⟨g, cap, cur, rfl, hB, hg, hnc, _⟩⟩
  · have : ns = [] := List.eq_nil_of_length_eq_zero h0
    subst this
    exact ⟨[], .inl ⟨rfl, rfl, none, 0, rfl⟩, by simp, by simp⟩
  · refine ⟨[g], .inr ⟨g, 0, cap, rfl, rfl, (Array.getElem?_eq_some_iff.1 hg).1, fun i hi => ?_, fun i hi => hh.frozenAt _⟩, by simpa using hB, by simp [Value.ownBlock]⟩
    obtain ⟨e0, e1⟩ := mkCells_get ns i hi
    refine ⟨?_, ?_⟩
    · rw [Nat.zero_add, hh.cellAt _ (by omega)]; exact e0
    · rw [Nat.zero_add, hh.cellAt _ (by omega)]; exact e1
theorem MkRow.rd {B : Nat} {w : World} {v : Value} {ns : List MarkV} (h : MkRow B w v ns) : MarkSRd w v ns := by
  obtain ⟨S, h, _⟩ := h.own
  exact h.rd
theorem MkRow.ge {B : Nat} {w : World} {v : Value} {ns : List MarkV} (h : MkRow B w v ns) : ∀ g, v.ownBlock = some g → B ≤ g := by
  intro g hg
  rcases h.2 with ⟨rfl, _⟩ | ⟨g', cap, cur, rfl, hB, _⟩
  · simp [Value.ownBlock] at hg
  · simp [Value.ownBlock] at hg; omega
theorem MkRow.lt {B : Nat} {w : World} {v : Value} {ns : List MarkV} (h : MkRow B w v ns) : ∀ g, v.ownBlock = some g → g < w.heap.size := by
  intro g hg
  rcases h.2 with ⟨rfl, _⟩ | ⟨g', cap, cur, rfl, hB, hh, _⟩
  · simp [Value.ownBlock] at hg
  · simp [Value.ownBlock] at hg; rw [← hg]; exact (Array.getElem?_eq_some_iff.1 hh).1
theorem MkRow.keep {B : Nat} {w w' : World} {v : Value} {ns : List MarkV} (h : MkRow B w v ns) (hk : ∀ g, v.ownBlock = some g → w'.heap[g]? = w.heap[g]?) : MkRow B w' v ns := by
  refine ⟨h.1, ?_⟩
  rcases h.2 with h0 | ⟨g, cap, cur, e, hB, hg, r⟩
  · exact .inl h0
  · exact .inr ⟨g, cap, cur, e, hB, (hk g (by rw [e]; rfl)).trans hg, r⟩
theorem MkRow.up {B : Nat} {w w' : World} {v : Value} {ns : List MarkV} (h : MkRow B w v ns) (hb : Below w.heap.size w w') : MkRow B w' v ns := h.keep (fun g hg => hb.block g (h.lt g hg))
theorem MkRow.mono {B B' : Nat} {w : World} {v : Value} {ns : List MarkV} (h : MkRow B w v ns) (hB : B' ≤ B) : MkRow B' w v ns := by
  refine ⟨h.1, ?_⟩
  rcases h.2 with h0 | ⟨g, cap, cur, e, hb, r⟩
  · exact .inl h0
  · exact .inr ⟨g, cap, cur, e, Nat.le_trans hB hb, r⟩
theorem infoMk : (Tryd.prog.info? 39).map (fun i => (i.zero, i.size, i.bytes)) = some (some (.agg #[.string ByteArray.empty, .int .i64 0]), 2, 24) := by kernel_rfl
theorem news_mark {w : World} {g : Nat} {x : MarkV} (c0 : w.cell? ⟨g, 0, none⟩ = some (.string x.a0)) (c1 : w.cell? ⟨g, 1, none⟩ = some (.int .i64 x.a1)) : ∀ j u, ([.string x.a0, .int .i64 x.a1] : List Value)[j]? = some u → w.cell? ((⟨g, 0, none⟩ : Addr).add j) = some u := by
  intro j u hj
  match j, hj with
  | 0, hj => simp at hj; subst hj; simpa [Addr.add] using c0
  | 1, hj => simp at hj; subst hj; simpa [Addr.add] using c1
/-- one more mark, which lies in a block of its own -/
theorem wpList_markAppend {w : World} {ops : Array Oper} {rest : List Oper} {o : Oper} {a : Act} {Q : Exit → Act → World → Prop} (hgd : o.guard = none) (s x : Operand)
    (ho : o.op = .call { callee := .builtin .append, args := #[s, x], argTypes := #[23, 23] }) (B : Nat) (v : Value) (ns : List MarkV) (y : MarkV) (g : Nat) (hs : a.eval s = v) (hx : a.eval x = .slice (some ⟨g, 0, none⟩) 1 1)
    (hv : MkRow B w v ns) (c0 : w.cell? ⟨g, 0, none⟩ = some (.string y.a0)) (c1 : w.cell? ⟨g, 1, none⟩ = some (.int .i64 y.a1)) (hl : ns.length ≤ 1000000) (hB : B ≤ w.heap.size)
    (h : ∀ g' n c w', MkRow B w' (.slice (some ⟨g', 0, none⟩) n c) (ns ++ [y]) → w.grownBy w' v.ownBlock → (v.ownBlock = some g' ∨ g' = w.heap.size) → wpList Tryd.prog ops Q rest (a.put o.dst (.slice (some ⟨g', 0, none⟩) n c)) w') : wpList Tryd.prog ops Q (o :: rest) a w := by
  obtain ⟨i0, hi, hz0, hz1, hz2⟩ := info_parts1 infoMk
  refine wpList_append_lies w hgd s x 23 ho B 39 i0 _ 2 24 Tryd.underlying23 hi hz0 hz1 hz2 rfl (by decide) v ns.length (mkCells ns) hs hv ⟨g, 0, none⟩ 1 1 [.string y.a0, .int .i64 y.a1] hx rfl (news_mark c0 c1) (by intro u hu; simp at hu; rcases hu with rfl | rfl <;> rfl) (by decide) (by unfold maxLen; omega) (by omega) hB w.heap.size rfl ?_
  intro g' cap w' h2 h3 h4 h5
  refine h g' _ cap w' ?_ h3 h4
  unfold MkRow
  rw [mkCells_snoc, List.length_append]
  exact h2
end Go.Proofs.YteonbigmggeneaaDoor
