/-
  Rows of texts that one may append to.
-/
import Derived.Test.YtiebfcefmdiajaaGreatDoorStrRows
import Derived.Deep.AppendLies
set_option linter.unusedVariables false
namespace Go.Proofs.YtiebfcefmdiajaaGreatDoor
open Go.RowKit Go.Maps Go.Deep

def TxRow (B : Nat) (w : World) (v : Value) (ts : List ByteArray) : Prop := w.ownsRow B 9 1 v ts.length (ts.map .string)
theorem TxRow.nil (B : Nat) (w : World) : TxRow B w (.slice none 0 0) [] := ⟨rfl, .inl ⟨rfl, rfl⟩⟩
theorem TxRow.slice {B : Nat} {w : World} {v : Value} {ts : List ByteArray} (h : TxRow B w v ts) : ∃ a c, v = .slice a ts.length c := by
  rcases h with ⟨_, ⟨rfl, h0⟩ | ⟨g, cap, cur, rfl, _⟩⟩
  · exact ⟨none, 0, by rw [h0]⟩
  · exact ⟨_, cap, rfl⟩
theorem TxRow.ge {B : Nat} {w : World} {v : Value} {ts : List ByteArray} (h : TxRow B w v ts) : ∀ g, v.ownBlock = some g → B ≤ g := by
  intro g hg
  rcases h.2 with ⟨rfl, _⟩ | ⟨g', cap, cur, rfl, hB, _⟩
  · simp [Value.ownBlock] at hg
  · simp [Value.ownBlock] at hg; omega
theorem TxRow.lt {B : Nat} {w : World} {v : Value} {ts : List ByteArray} (h : TxRow B w v ts) : ∀ g, v.ownBlock = some g → g < w.heap.size := by
  intro g hg
  rcases h.2 with ⟨rfl, _⟩ | ⟨g', cap, cur, rfl, hB, hh, _⟩
  · simp [Value.ownBlock] at hg
  · simp [Value.ownBlock] at hg
    subst hg
    exact (Array.getElem?_eq_some_iff.1 hh).1
theorem TxRow.keep {B : Nat} {w w' : World} {v : Value} {ts : List ByteArray} (h : TxRow B w v ts) (hk : ∀ g, v.ownBlock = some g → w'.heap[g]? = w.heap[g]?) : TxRow B w' v ts := by
  rcases h with ⟨hl, h | ⟨g, cap, cur, rfl, hB, hg, hr⟩⟩
  · exact ⟨hl, .inl h⟩
  · exact ⟨hl, .inr ⟨g, cap, cur, rfl, hB, (hk g rfl).trans hg, hr⟩⟩
theorem TxRow.up {B : Nat} {w w' : World} {v : Value} {ts : List ByteArray} (h : TxRow B w v ts) (hb : Below w.heap.size w w') : TxRow B w' v ts := h.keep (fun g hg => hb.block g (h.lt g hg))
theorem TxRow.turn {B g : Nat} {w w' : World} {v : Value} {ts : List ByteArray} (h : TxRow B w v ts) (t : Turn [g] w w') (hg : g < B) : TxRow B w' v ts :=
  h.keep (fun y hy => t.block y (h.lt y hy) (by have := h.ge y hy; simp; omega))
theorem TxRow.rd {B : Nat} {w : World} {v : Value} {ts : List ByteArray} (h : TxRow B w v ts) : StringSRd w v ts := by
  have hh : w.ownsRow B 9 1 v ts.length (ts.map .string) := h
  rcases h with ⟨_, ⟨rfl, h0⟩ | ⟨g, cap, cur, rfl, hB, hg, hnc, _⟩⟩
  · have : ts = [] := List.eq_nil_of_length_eq_zero h0
    subst this
    exact ⟨none, 0, rfl, .inl rfl⟩
  · refine ⟨some ⟨g, 0, none⟩, cap, rfl, .inr ⟨g, 0, rfl, (Array.getElem?_eq_some_iff.1 hg).1, fun i hi => ?_⟩⟩
    rw [Nat.zero_add, hh.cellAt _ (by omega)]
    simp [hi]
theorem infoTx : (Tryz.prog.info? 9).map (fun i => (i.zero, i.size, i.bytes)) = some (some (.string ByteArray.empty), 1, 16) := by kernel_rfl
theorem news_tx {w : World} {g : Nat} {x : ByteArray} (c0 : w.cell? ⟨g, 0, none⟩ = some (.string x)) : ∀ j u, ([.string x] : List Value)[j]? = some u → w.cell? ((⟨g, 0, none⟩ : Addr).add j) = some u := by
  intro j u hj
  match j, hj with
  | 0, hj => simp at hj; subst hj; simpa [Addr.add] using c0
/-- one more text -/
theorem wpList_txAppend {w : World} {ops : Array Oper} {rest : List Oper} {o : Oper} {a : Act} {Q : Exit → Act → World → Prop} (hgd : o.guard = none) (s x : Operand)
    (ho : o.op = .call { callee := .builtin .append, args := #[s, x], argTypes := #[41, 41] }) (B : Nat) (v : Value) (ts : List ByteArray) (y : ByteArray) (g : Nat) (hs : a.eval s = v) (hx : a.eval x = .slice (some ⟨g, 0, none⟩) 1 1)
    (hv : TxRow B w v ts) (c0 : w.cell? ⟨g, 0, none⟩ = some (.string y)) (hl : ts.length ≤ 1000000) (hB : B ≤ w.heap.size)
    (h : ∀ g' n c w', TxRow B w' (.slice (some ⟨g', 0, none⟩) n c) (ts ++ [y]) → w.grownBy w' v.ownBlock → wpList Tryz.prog ops Q rest (a.put o.dst (.slice (some ⟨g', 0, none⟩) n c)) w') : wpList Tryz.prog ops Q (o :: rest) a w := by
  obtain ⟨i0, hi, hz0, hz1, hz2⟩ := info_parts1 infoTx
  refine wpList_append_lies w hgd s x 41 ho B 9 i0 _ 1 16 Tryz.underlying41 hi hz0 hz1 hz2 rfl (by decide) v ts.length (ts.map .string) hs hv ⟨g, 0, none⟩ 1 1 [.string y] hx rfl (news_tx c0) (by intro u hu; simp at hu; rw [hu]; rfl) (by decide) (by unfold maxLen; omega) (by omega) hB w.heap.size rfl ?_
  intro g' cap w' h2 h3 h4 h5
  refine h g' _ cap w' ?_ h3
  unfold TxRow
  rw [List.length_append, List.map_append]
  exact h2
end Go.Proofs.YtiebfcefmdiajaaGreatDoor
