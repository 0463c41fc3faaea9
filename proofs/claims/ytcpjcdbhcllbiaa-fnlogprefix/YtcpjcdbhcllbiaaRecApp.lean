/-
  Rows of records that one may append to.
-/
import Derived.Test.YtcpjcdbhcllbiaaRecRowsOwn
import Derived.Laws.OwnMore
import Derived.Deep.AppendLies
import Derived.Handy
set_option linter.unusedVariables false
namespace Go.Proofs.Ytcpjcdbhcllbiaa
open Go.RowKit Go.Maps Go.Deep

def rcCells (ns : List RecV) : List Value := ns.flatMap fun x => [.int .i64 x.kind, .string x.name, .int .i64 x.num, .string x.text]
theorem rcCells_len (ns : List RecV) : (rcCells ns).length = ns.length * 4 := by
  induction ns with
  | nil => rfl
  | cons x xs ih => simp [rcCells] at ih ⊢; omega
theorem rcCells_snoc (ns : List RecV) (x : RecV) : rcCells (ns ++ [x]) = rcCells ns ++ [.int .i64 x.kind, .string x.name, .int .i64 x.num, .string x.text] := by simp [rcCells]
theorem rcCells_get (ns : List RecV) (i : Nat) (h : i < ns.length) : (rcCells ns)[i * 4]? = some (.int .i64 ns[i].kind) ∧ (rcCells ns)[i * 4 + 1]? = some (.string ns[i].name) ∧ (rcCells ns)[i * 4 + 2]? = some (.int .i64 ns[i].num) ∧ (rcCells ns)[i * 4 + 3]? = some (.string ns[i].text) := by
  induction ns generalizing i with
  | nil => simp at h
  | cons x xs ih =>
    cases i with
    | zero => simp [rcCells]
    | succ i =>
      have := ih i (by simpa using h)
      have e : rcCells (x :: xs) = [.int .i64 x.kind, .string x.name, .int .i64 x.num, .string x.text] ++ rcCells xs := by simp [rcCells]
      rw [e, show (i + 1) * 4 = i * 4 + 1 + 1 + 1 + 1 by omega]
      simpa using this
/-- a row of records, at or above a block, that one may append to -/
def RcRow (B : Nat) (w : World) (v : Value) (ns : List RecV) : Prop := w.ownsRow B 32 4 v ns.length (rcCells ns)
theorem RcRow.nil (B : Nat) (w : World) : RcRow B w (.slice none 0 0) [] := ⟨rfl, .inl ⟨rfl, rfl⟩⟩
theorem RcRow.slice {B : Nat} {w : World} {v : Value} {ns : List RecV} (h : RcRow B w v ns) : ∃ a c, v = .slice a ns.length c := by
  rcases h.2 with ⟨rfl, h0⟩ | ⟨g, cap, cur, rfl, _⟩
  · rw [h0]; exact ⟨_, _, rfl⟩
  · exact ⟨_, _, rfl⟩
theorem RcRow.own {B : Nat} {w : World} {v : Value} {ns : List RecV} (h : RcRow B w v ns) : ∃ S, RecSOwn S w v ns ∧ (∀ k ∈ S, B ≤ k) := by
  have hh : w.ownsRow B 32 4 v ns.length (rcCells ns) := h
  rcases h with ⟨_, ⟨rfl, h0⟩ | ⟨g, cap, cur, rfl, hB, hg, hnc, _⟩⟩
  · have : ns = [] := List.eq_nil_of_length_eq_zero h0
    subst this
    exact ⟨[], .inl ⟨rfl, rfl, none, 0, rfl⟩, by simp⟩
  · refine ⟨[g], .inr ⟨g, 0, cap, rfl, rfl, (Array.getElem?_eq_some_iff.1 hg).1, fun i hi => ?_, fun i hi => hh.frozenAt _⟩, by simpa using hB⟩
    obtain ⟨e0, e1, e2, e3⟩ := rcCells_get ns i hi
    refine ⟨?_, ?_, ?_, ?_⟩
    · rw [Nat.zero_add, hh.cellAt _ (by omega)]; exact e0
    · rw [Nat.zero_add, hh.cellAt _ (by omega)]; exact e1
    · rw [Nat.zero_add, hh.cellAt _ (by omega)]; exact e2
    · rw [Nat.zero_add, hh.cellAt _ (by omega)]; exact e3
theorem RcRow.rd {B : Nat} {w : World} {v : Value} {ns : List RecV} (h : RcRow B w v ns) : RecSRd w v ns := by
  obtain ⟨S, h, _⟩ := h.own
  exact h.rd
theorem RcRow.ge {B : Nat} {w : World} {v : Value} {ns : List RecV} (h : RcRow B w v ns) : ∀ g, v.ownBlock = some g → B ≤ g := by
  intro g hg
  rcases h.2 with ⟨rfl, _⟩ | ⟨g', cap, cur, rfl, hB, _⟩
  · simp [Value.ownBlock] at hg
  · simp [Value.ownBlock] at hg; omega
theorem RcRow.lt {B : Nat} {w : World} {v : Value} {ns : List RecV} (h : RcRow B w v ns) : ∀ g, v.ownBlock = some g → g < w.heap.size := by
  intro g hg
  rcases h.2 with ⟨rfl, _⟩ | ⟨g', cap, cur, rfl, hB, hh, _⟩
  · simp [Value.ownBlock] at hg
  · simp [Value.ownBlock] at hg; rw [← hg]; exact (Array.getElem?_eq_some_iff.1 hh).1
theorem RcRow.keep {B : Nat} {w w' : World} {v : Value} {ns : List RecV} (h : RcRow B w v ns) (hk : ∀ g, v.ownBlock = some g → w'.heap[g]? = w.heap[g]?) : RcRow B w' v ns := by
  refine ⟨h.1, ?_⟩
  rcases h.2 with h0 | ⟨g, cap, cur, e, hB, hg, r⟩
  · exact .inl h0
  · exact .inr ⟨g, cap, cur, e, hB, (hk g (by rw [e]; rfl)).trans hg, r⟩
theorem RcRow.up {B : Nat} {w w' : World} {v : Value} {ns : List RecV} (h : RcRow B w v ns) (hb : Below w.heap.size w w') : RcRow B w' v ns := h.keep (fun g hg => hb.block g (h.lt g hg))
theorem RcRow.mono {B B' : Nat} {w : World} {v : Value} {ns : List RecV} (h : RcRow B w v ns) (hB : B' ≤ B) : RcRow B' w v ns := by
  refine ⟨h.1, ?_⟩
  rcases h.2 with h0 | ⟨g, cap, cur, e, hb, r⟩
  · exact .inl h0
  · exact .inr ⟨g, cap, cur, e, Nat.le_trans hB hb, r⟩
theorem infoRc : (Try.prog.info? 32).map (fun i => (i.zero, i.size, i.bytes)) = some (some (.agg #[.int .i64 0, .string ByteArray.empty, .int .i64 0, .string ByteArray.empty]), 4, 48) := by kernel_rfl
theorem news_rec {w : World} {g : Nat} {x : RecV} (c0 : w.cell? ⟨g, 0, none⟩ = some (.int .i64 x.kind)) (c1 : w.cell? ⟨g, 1, none⟩ = some (.string x.name)) (c2 : w.cell? ⟨g, 2, none⟩ = some (.int .i64 x.num)) (c3 : w.cell? ⟨g, 3, none⟩ = some (.string x.text)) : ∀ j u, ([.int .i64 x.kind, .string x.name, .int .i64 x.num, .string x.text] : List Value)[j]? = some u → w.cell? ((⟨g, 0, none⟩ : Addr).add j) = some u := by
  intro j u hj
  match j, hj with
  | 0, hj => simp at hj; subst hj; simpa [Addr.add] using c0
  | 1, hj => simp at hj; subst hj; simpa [Addr.add] using c1
  | 2, hj => simp at hj; subst hj; simpa [Addr.add] using c2
  | 3, hj => simp at hj; subst hj; simpa [Addr.add] using c3
/-- one more record, which lies in a block of its own -/
theorem wpList_recAppend {w : World} {ops : Array Oper} {rest : List Oper} {o : Oper} {a : Act} {Q : Exit → Act → World → Prop} (hgd : o.guard = none) (s x : Operand)
    (ho : o.op = .call { callee := .builtin .append, args := #[s, x], argTypes := #[23, 23] }) (B : Nat) (v : Value) (ns : List RecV) (y : RecV) (g : Nat) (hs : a.eval s = v) (hx : a.eval x = .slice (some ⟨g, 0, none⟩) 1 1)
    (hv : RcRow B w v ns) (c0 : w.cell? ⟨g, 0, none⟩ = some (.int .i64 y.kind)) (c1 : w.cell? ⟨g, 1, none⟩ = some (.string y.name)) (c2 : w.cell? ⟨g, 2, none⟩ = some (.int .i64 y.num)) (c3 : w.cell? ⟨g, 3, none⟩ = some (.string y.text)) (hl : ns.length ≤ 1000000) (hB : B ≤ w.heap.size)
    (h : ∀ g' n c w', RcRow B w' (.slice (some ⟨g', 0, none⟩) n c) (ns ++ [y]) → w.grownBy w' v.ownBlock → (v.ownBlock = some g' ∨ g' = w.heap.size) → wpList Try.prog ops Q rest (a.put o.dst (.slice (some ⟨g', 0, none⟩) n c)) w') : wpList Try.prog ops Q (o :: rest) a w := by
  obtain ⟨i0, hi, hz0, hz1, hz2⟩ := info_parts1 infoRc
  refine wpList_append_lies w hgd s x 23 ho B 32 i0 _ 4 48 Try.underlying23 hi hz0 hz1 hz2 rfl (by decide) v ns.length (rcCells ns) hs hv ⟨g, 0, none⟩ 1 1 [.int .i64 y.kind, .string y.name, .int .i64 y.num, .string y.text] hx rfl (news_rec c0 c1 c2 c3) (by intro u hu; simp at hu; rcases hu with rfl | rfl | rfl | rfl <;> rfl) (by decide) (by unfold maxLen; omega) (by omega) hB w.heap.size rfl ?_
  intro g' cap w' h2 h3 h4 h5
  refine h g' _ cap w' ?_ h3 h4
  unfold RcRow
  rw [rcCells_snoc, List.length_append]
  exact h2
end Go.Proofs.Ytcpjcdbhcllbiaa
