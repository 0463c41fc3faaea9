/-
  Rows of texts that one may append to.
-/
/-
  Rows of windows (each cell a list of items) that one may append to.
-/
/-
  Rows of marks that one may append to.
-/
/-
  DERIVED: THE SHELF's CONTRACTS AT THIS DUMP, IN PLAIN WORDS (tools/lay-plain.mjs out of 'TryzShelf.lean', which tools/lay-shelf.mjs wrote): THE SAME DECLARATIONS UNDER THE SAME NAMES: 'import', 'namespace', 'open', 'def', 'theorem' AND NOTHING ELSE: no command of the shelf's: FOR A HAND-IN. Each laying: the table of numbers ('.._ren') and one theorem, a field a fact of the dump's own or the kernel's comparison; each contract: ONE APPLICATION.
-/
import Derived.Test.YtknkdbfgfcgkiaaGreatDoorStrRows
import Derived.Deep.AppendLies
import Derived.Test.YtknkdbfgfcgkiaaGreatDoorMerged7
import Derived.Test.YtknkdbfgfcgkiaaGreatDoorMerged4
import Derived.Laws.OwnMore
import Derived.Handy
import Derived.Shelf.Small.Bits
import Derived.Shelf.Strconv.Itoa0
import Derived.Shelf.LaysM
import Derived.Shelf.Strconv.Clone
import Derived.Shelf.Slices.Turned
import Derived.Test.YtknkdbfgfcgkiaaGreatDoorProg
set_option linter.unusedVariables false
namespace Go.Proofs.YtknkdbfgfcgkiaaGreatDoor
open Go.RowKit Go.Maps Go.Deep

def TxRow (B : Nat) (w : World) (v : Value) (ts : List ByteArray) : Prop := w.ownsRow B 9 1 v ts.length (ts.map .string)
theorem TxRow.nil (B : Nat) (w : World) : TxRow B w (.slice none 0 0) [] := ⟨rfl, .inl ⟨rfl, rfl⟩⟩
theorem TxRow.slice {B : Nat} {w : World} {v : Value} {ts : List ByteArray} (h : TxRow B w v ts) : ∃ a c, v = .slice a ts.length c := by
  rcases h with ⟨_, ⟨rfl, h0⟩ | ⟨g, cap, cur, rfl, _⟩⟩
  · exact ⟨none, 0, by rw [h0]⟩
  · exact ⟨_, cap, rfl⟩
theorem TxRow.ge {B : Nat} {w : World} {v : Value} {ts : List ByteArray} (h : TxRow B w v ts) : ∀ g, v.ownBlock = some g → B ≤ g := by
  intro g hg
  rcases h.2 with ⟨rfl, _⟩ | ⟨g', cap, cur, rfl, hB, _⟩
  · simp [Value.ownBlock] at hg
  · simp [Value.ownBlock] at hg; omega
theorem TxRow.lt {B : Nat} {w : World} {v : Value} {ts : List ByteArray} (h : TxRow B w v ts) : ∀ g, v.ownBlock = some g → g < w.heap.size := by
  intro g hg
  rcases h.2 with ⟨rfl, _⟩ | ⟨g', cap, cur, rfl, hB, hh, _⟩
  · simp [Value.ownBlock] at hg
  · simp [Value.ownBlock] at hg
    subst hg
    exact (Array.getElem?_eq_some_iff.1 hh).1
theorem TxRow.keep {B : Nat} {w w' : World} {v : Value} {ts : List ByteArray} (h : TxRow B w v ts) (hk : ∀ g, v.ownBlock = some g → w'.heap[g]? = w.heap[g]?) : TxRow B w' v ts := by
  rcases h with ⟨hl, h | ⟨g, cap, cur, rfl, hB, hg, hr⟩⟩
  · exact ⟨hl, .inl h⟩
  · exact ⟨hl, .inr ⟨g, cap, cur, rfl, hB, (hk g rfl).trans hg, hr⟩⟩
theorem TxRow.up {B : Nat} {w w' : World} {v : Value} {ts : List ByteArray} (h : TxRow B w v ts) (hb : Below w.heap.size w w') : TxRow B w' v ts := h.keep (fun g hg => hb.block g (h.lt g hg))
theorem TxRow.turn {B g : Nat} {w w' : World} {v : Value} {ts : List ByteArray} (h : TxRow B w v ts) (t : Turn [g] w w') (hg : g < B) : TxRow B w' v ts :=
  h.keep (fun y hy => t.block y (h.lt y hy) (by have := h.ge y hy; simp; omega))
theorem TxRow.rd {B : Nat} {w : World} {v : Value} {ts : List ByteArray} (h : TxRow B w v ts) : StringSRd w v ts := by
  have hh : w.ownsRow B 9 1 v ts.length (ts.map .string) := h
  rcases h with ⟨_, ⟨rfl, h0⟩ | ⟨g, cap, cur, rfl, hB, hg, hnc, _⟩⟩
  · have : ts = [] := List.eq_nil_of_length_eq_zero h0
    subst this
    exact ⟨none, 0, rfl, .inl rfl⟩
  · refine ⟨some ⟨g, 0, none⟩, cap, rfl, .inr ⟨g, 0, rfl, (Array.getElem?_eq_some_iff.1 hg).1, fun i hi => ?_⟩⟩
    rw [Nat.zero_add, hh.cellAt _ (by omega)]
    simp [hi]
theorem infoTx : (Tryz.prog.info? 9).map (fun i => (i.zero, i.size, i.bytes)) = some (some (.string ByteArray.empty), 1, 16) := by kernel_rfl
theorem news_tx {w : World} {g : Nat} {x : ByteArray} (c0 : w.cell? ⟨g, 0, none⟩ = some (.string x)) : ∀ j u, ([.string x] : List Value)[j]? = some u → w.cell? ((⟨g, 0, none⟩ : Addr).add j) = some u := by
  intro j u hj
  match j, hj with
  | 0, hj => simp at hj; subst hj; simpa [Addr.add] using c0
/-- one more text -/
theorem wpList_txAppend {w : World} {ops : Array Oper} {rest : List Oper} {o : Oper} {a : Act} {Q : Exit → Act → World → Prop} (hgd : o.guard = none) (s x : Operand)
    (ho : o.op = .call { callee := .builtin .append, args := #[s, x], argTypes := #[22, 22] }) (B : Nat) (v : Value) (ts : List ByteArray) (y : ByteArray) (g : Nat) (hs : a.eval s = v) (hx : a.eval x = .slice (some ⟨g, 0, none⟩) 1 1)
    (hv : TxRow B w v ts) (c0 : w.cell? ⟨g, 0, none⟩ = some (.string y)) (hl : ts.length ≤ 1000000) (hB : B ≤ w.heap.size)
    (h : ∀ g' n c w', TxRow B w' (.slice (some ⟨g', 0, none⟩) n c) (ts ++ [y]) → w.grownBy w' v.ownBlock → wpList Tryz.prog ops Q rest (a.put o.dst (.slice (some ⟨g', 0, none⟩) n c)) w') : wpList Tryz.prog ops Q (o :: rest) a w := by
  obtain ⟨i0, hi, hz0, hz1, hz2⟩ := info_parts1 infoTx
  refine wpList_append_lies w hgd s x 22 ho B 9 i0 _ 1 16 Tryz.underlying22 hi hz0 hz1 hz2 rfl (by decide) v ts.length (ts.map .string) hs hv ⟨g, 0, none⟩ 1 1 [.string y] hx rfl (news_tx c0) (by intro u hu; simp at hu; rw [hu]; rfl) (by decide) (by unfold maxLen; omega) (by omega) hB w.heap.size rfl ?_
  intro g' cap w' h2 h3 h4 h5
  refine h g' _ cap w' ?_ h3
  unfold TxRow
  rw [List.length_append, List.map_append]
  exact h2
end Go.Proofs.YtknkdbfgfcgkiaaGreatDoor

set_option linter.unusedVariables false
namespace Go.Proofs.YtknkdbfgfcgkiaaGreatDoor
open Go.RowKit Go.Maps Go.Deep

def WiRow (B : Nat) (w : World) (v : Value) (vs : List Value) : Prop := w.ownsRow B 60 1 v vs.length vs
theorem WiRow.nil (B : Nat) (w : World) : WiRow B w (.slice none 0 0) [] := ⟨rfl, .inl ⟨rfl, rfl⟩⟩
theorem WiRow.slice {B : Nat} {w : World} {v : Value} {vs : List Value} (h : WiRow B w v vs) : (v = .slice none 0 0 ∧ vs = []) ∨ ∃ g c, v = .slice (some ⟨g, 0, none⟩) vs.length c ∧ vs.length ≤ c ∧ g < w.heap.size ∧ ∀ i (h : i < vs.length), w.cell? ⟨g, i, none⟩ = some vs[i] := by
  have hh : w.ownsRow B 60 1 v vs.length vs := h
  rcases h with ⟨_, ⟨rfl, h0⟩ | ⟨g, cap, cur, rfl, hB, hg, hnc, _⟩⟩
  · exact .inl ⟨rfl, List.eq_nil_of_length_eq_zero h0⟩
  · refine .inr ⟨g, cap, rfl, hnc, (Array.getElem?_eq_some_iff.1 hg).1, fun i hi => ?_⟩
    rw [hh.cellAt _ (by omega)]
    exact List.getElem?_eq_getElem hi
theorem WiRow.ge {B : Nat} {w : World} {v : Value} {vs : List Value} (h : WiRow B w v vs) : ∀ g, v.ownBlock = some g → B ≤ g := by
  intro g hg
  rcases h.2 with ⟨rfl, _⟩ | ⟨g', cap, cur, rfl, hB, _⟩
  · simp [Value.ownBlock] at hg
  · simp [Value.ownBlock] at hg; omega
theorem WiRow.lt {B : Nat} {w : World} {v : Value} {vs : List Value} (h : WiRow B w v vs) : ∀ g, v.ownBlock = some g → g < w.heap.size := by
  intro g hg
  rcases h.2 with ⟨rfl, _⟩ | ⟨g', cap, cur, rfl, hB, hh, _⟩
  · simp [Value.ownBlock] at hg
  · simp [Value.ownBlock] at hg
    subst hg
    exact (Array.getElem?_eq_some_iff.1 hh).1
theorem WiRow.keep {B : Nat} {w w' : World} {v : Value} {vs : List Value} (h : WiRow B w v vs) (hk : ∀ g, v.ownBlock = some g → w'.heap[g]? = w.heap[g]?) : WiRow B w' v vs := by
  rcases h with ⟨hl, h | ⟨g, cap, cur, rfl, hB, hg, hr⟩⟩
  · exact ⟨hl, .inl h⟩
  · exact ⟨hl, .inr ⟨g, cap, cur, rfl, hB, (hk g rfl).trans hg, hr⟩⟩
theorem WiRow.up {B : Nat} {w w' : World} {v : Value} {vs : List Value} (h : WiRow B w v vs) (hb : Below w.heap.size w w') : WiRow B w' v vs := h.keep (fun g hg => hb.block g (h.lt g hg))
theorem infoWi : (Tryz.prog.info? 60).map (fun i => (i.zero, i.size, i.bytes)) = some (some (.slice none 0 0), 1, 24) := by kernel_rfl
theorem news_wi {w : World} {g : Nat} {x : Value} (c0 : w.cell? ⟨g, 0, none⟩ = some x) : ∀ j u, ([x] : List Value)[j]? = some u → w.cell? ((⟨g, 0, none⟩ : Addr).add j) = some u := by
  intro j u hj
  match j, hj with
  | 0, hj => simp at hj; subst hj; simpa [Addr.add] using c0
theorem WiRow.form {B : Nat} {w : World} {v : Value} {vs : List Value} (h : WiRow B w v vs) : ∃ a n c, v = .slice a n c := by
  rcases h.slice with ⟨h, _⟩ | ⟨g, c, h, _⟩
  · exact ⟨_, _, _, h⟩
  · exact ⟨_, _, _, h⟩
/-- a row of empty windows is one's own -/
theorem WiRow.full {B n : Nat} {w : World} {v : Value} (h : WiRow B w v (List.replicate n (.slice none 0 0))) : ∃ S, ItemSSFull S w v (List.replicate n []) ∧ (∀ k ∈ S, B ≤ k) ∧ ∀ k ∈ S, v.ownBlock = some k := by
  have hg := h.ge
  rcases h.slice with ⟨rfl, h0⟩ | ⟨g, c, rfl, hc, hlt, hcell⟩
  · have hn : n = 0 := by simpa using congrArg List.length h0
    subst hn
    exact ⟨[], ⟨none, 0, rfl, by simp, .inl rfl⟩, by simp, by simp⟩
  · simp only [List.length_replicate] at *
    refine ⟨[g], ⟨_, c, by rw [List.length_replicate], by simpa using hlt, .inr ⟨g, 0, fun _ => [], rfl, by simp, by simp, by intro i j _ _ _ k hk; simp at hk, fun i hi => ⟨by simp, .slice none 0 0, ?_, ?_⟩⟩⟩, ?_, ?_⟩
    · rw [List.length_replicate] at hi
      rw [Nat.zero_add, hcell i hi, List.getElem_replicate]
    · rw [List.getElem_replicate]
      exact ⟨none, 0, rfl, Nat.le_refl _, by simp, .inl rfl⟩
    · intro k hk
      simp at hk
      subst hk
      exact hg _ (by simp [Value.ownBlock])
    · intro k hk
      simp at hk
      subst hk
      simp [Value.ownBlock]
/-- a row of texts is one's own -/
theorem TxRow.own {B : Nat} {w : World} {v : Value} {ts : List ByteArray} (h : TxRow B w v ts) : ∃ S, StringSOwn S w v ts ∧ (∀ k ∈ S, B ≤ k) ∧ ∀ k ∈ S, v.ownBlock = some k := by
  have hh : w.ownsRow B 9 1 v ts.length (ts.map .string) := h
  have hg := h.ge
  rcases h with ⟨_, ⟨rfl, h0⟩ | ⟨g, cap, cur, rfl, hB, hgr, hnc, _⟩⟩
  · exact ⟨[], .inl ⟨rfl, List.eq_nil_of_length_eq_zero h0, none, 0, rfl⟩, by simp, by simp⟩
  · refine ⟨[g], .inr ⟨g, 0, cap, rfl, rfl, (Array.getElem?_eq_some_iff.1 hgr).1, fun i hi => ?_, fun i hi => hh.frozenAt _⟩, ?_, ?_⟩
    · rw [Nat.zero_add, hh.cellAt _ (by omega)]
      simp [hi]
    · intro k hk
      simp at hk
      subst hk
      exact hg _ (by simp [Value.ownBlock])
    · intro k hk
      simp at hk
      subst hk
      simp [Value.ownBlock]
/-- an empty list of texts, written out -/
theorem txLit (w : World) (B : Nat) (hB : B ≤ w.heap.size) : TxRow B (w.alloc (.cells #[] 9)) (.slice (some ⟨w.heap.size, 0, none⟩) 0 0) [] :=
  World.ownsRow_lit (size := 1) w #[] 0 hB (by unfold maxLen; omega) rfl
end Go.Proofs.YtknkdbfgfcgkiaaGreatDoor

set_option linter.unusedVariables false
namespace Go.Proofs.YtknkdbfgfcgkiaaGreatDoor
open Go.RowKit Go.Maps Go.Deep

def mkCells (ns : List MarkV) : List Value := ns.flatMap fun x => [.string x.a0, .int .i64 x.a1]
theorem mkCells_len (ns : List MarkV) : (mkCells ns).length = ns.length * 2 := by
  induction ns with
  | nil => rfl
  | cons x xs ih => simp [mkCells] at ih ⊢; omega
theorem mkCells_snoc (ns : List MarkV) (x : MarkV) : mkCells (ns ++ [x]) = mkCells ns ++ [.string x.a0, .int .i64 x.a1] := by simp [mkCells]
theorem mkCells_get (ns : List MarkV) (i : Nat) (h : i < ns.length) : (mkCells ns)[i * 2]? = some (.string ns[i].a0) ∧ (mkCells ns)[i * 2 + 1]? = some (.int .i64 ns[i].a1) := by
  induction ns generalizing i with
  | nil => simp at h
  | cons x xs ih =>
    cases i with
    | zero => simp [mkCells]
    | succ i =>
      have := ih i (by simpa using h)
      have e : mkCells (x :: xs) = [.string x.a0, .int .i64 x.a1] ++ mkCells xs := by simp [mkCells]
      rw [e, show (i + 1) * 2 = i * 2 + 1 + 1 by omega]
      simpa using this
/-- a row of marks, at or above a block, that one may append to -/
def MkRow (B : Nat) (w : World) (v : Value) (ns : List MarkV) : Prop := w.ownsRow B 112 2 v ns.length (mkCells ns)
theorem MkRow.nil (B : Nat) (w : World) : MkRow B w (.slice none 0 0) [] := ⟨rfl, .inl ⟨rfl, rfl⟩⟩
theorem MkRow.slice {B : Nat} {w : World} {v : Value} {ns : List MarkV} (h : MkRow B w v ns) : ∃ a c, v = .slice a ns.length c := by
  rcases h.2 with ⟨rfl, h0⟩ | ⟨g, cap, cur, rfl, _⟩
  · rw [h0]; exact ⟨_, _, rfl⟩
  · exact ⟨_, _, rfl⟩
theorem MkRow.own {B : Nat} {w : World} {v : Value} {ns : List MarkV} (h : MkRow B w v ns) : ∃ S, MarkSOwn S w v ns ∧ (∀ k ∈ S, B ≤ k) ∧ (∀ k ∈ S, v.ownBlock = some k) := by
  have hh : w.ownsRow B 112 2 v ns.length (mkCells ns) := h
  rcases h with ⟨_, ⟨rfl, h0⟩ | ⟨g, cap, cur, rfl, hB, hg, hnc, _⟩⟩
  · have : ns = [] := List.eq_nil_of_length_eq_zero h0
    subst this
    exact ⟨[], .inl ⟨rfl, rfl, none, 0, rfl⟩, by simp, by simp⟩
  · refine ⟨[g], .inr ⟨g, 0, cap, rfl, rfl, (Array.getElem?_eq_some_iff.1 hg).1, fun i hi => ?_, fun i hi => hh.frozenAt _⟩, by simpa using hB, by simp [Value.ownBlock]⟩
    obtain ⟨e0, e1⟩ := mkCells_get ns i hi
    refine ⟨?_, ?_⟩
    · rw [Nat.zero_add, hh.cellAt _ (by omega)]; exact e0
    · rw [Nat.zero_add, hh.cellAt _ (by omega)]; exact e1
theorem MkRow.rd {B : Nat} {w : World} {v : Value} {ns : List MarkV} (h : MkRow B w v ns) : MarkSRd w v ns := by
  obtain ⟨S, h, _⟩ := h.own
  exact h.rd
theorem MkRow.ge {B : Nat} {w : World} {v : Value} {ns : List MarkV} (h : MkRow B w v ns) : ∀ g, v.ownBlock = some g → B ≤ g := by
  intro g hg
  rcases h.2 with ⟨rfl, _⟩ | ⟨g', cap, cur, rfl, hB, _⟩
  · simp [Value.ownBlock] at hg
  · simp [Value.ownBlock] at hg; omega
theorem MkRow.lt {B : Nat} {w : World} {v : Value} {ns : List MarkV} (h : MkRow B w v ns) : ∀ g, v.ownBlock = some g → g < w.heap.size := by
  intro g hg
  rcases h.2 with ⟨rfl, _⟩ | ⟨g', cap, cur, rfl, hB, hh, _⟩
  · simp [Value.ownBlock] at hg
  · simp [Value.ownBlock] at hg; rw [← hg]; exact (Array.getElem?_eq_some_iff.1 hh).1
theorem MkRow.keep {B : Nat} {w w' : World} {v : Value} {ns : List MarkV} (h : MkRow B w v ns) (hk : ∀ g, v.ownBlock = some g → w'.heap[g]? = w.heap[g]?) : MkRow B w' v ns := by
  refine ⟨h.1, ?_⟩
  rcases h.2 with h0 | ⟨g, cap, cur, e, hB, hg, r⟩
  · exact .inl h0
  · exact .inr ⟨g, cap, cur, e, hB, (hk g (by rw [e]; rfl)).trans hg, r⟩
theorem MkRow.up {B : Nat} {w w' : World} {v : Value} {ns : List MarkV} (h : MkRow B w v ns) (hb : Below w.heap.size w w') : MkRow B w' v ns := h.keep (fun g hg => hb.block g (h.lt g hg))
theorem MkRow.mono {B B' : Nat} {w : World} {v : Value} {ns : List MarkV} (h : MkRow B w v ns) (hB : B' ≤ B) : MkRow B' w v ns := by
  refine ⟨h.1, ?_⟩
  rcases h.2 with h0 | ⟨g, cap, cur, e, hb, r⟩
  · exact .inl h0
  · exact .inr ⟨g, cap, cur, e, Nat.le_trans hB hb, r⟩
theorem infoMk : (Tryz.prog.info? 112).map (fun i => (i.zero, i.size, i.bytes)) = some (some (.agg #[.string ByteArray.empty, .int .i64 0]), 2, 24) := by kernel_rfl
theorem news_mark {w : World} {g : Nat} {x : MarkV} (c0 : w.cell? ⟨g, 0, none⟩ = some (.string x.a0)) (c1 : w.cell? ⟨g, 1, none⟩ = some (.int .i64 x.a1)) : ∀ j u, ([.string x.a0, .int .i64 x.a1] : List Value)[j]? = some u → w.cell? ((⟨g, 0, none⟩ : Addr).add j) = some u := by
  intro j u hj
  match j, hj with
  | 0, hj => simp at hj; subst hj; simpa [Addr.add] using c0
  | 1, hj => simp at hj; subst hj; simpa [Addr.add] using c1
/-- one more mark, which lies in a block of its own -/
theorem wpList_markAppend {w : World} {ops : Array Oper} {rest : List Oper} {o : Oper} {a : Act} {Q : Exit → Act → World → Prop} (hgd : o.guard = none) (s x : Operand)
    (ho : o.op = .call { callee := .builtin .append, args := #[s, x], argTypes := #[34, 34] }) (B : Nat) (v : Value) (ns : List MarkV) (y : MarkV) (g : Nat) (hs : a.eval s = v) (hx : a.eval x = .slice (some ⟨g, 0, none⟩) 1 1)
    (hv : MkRow B w v ns) (c0 : w.cell? ⟨g, 0, none⟩ = some (.string y.a0)) (c1 : w.cell? ⟨g, 1, none⟩ = some (.int .i64 y.a1)) (hl : ns.length ≤ 1000000) (hB : B ≤ w.heap.size)
    (h : ∀ g' n c w', MkRow B w' (.slice (some ⟨g', 0, none⟩) n c) (ns ++ [y]) → w.grownBy w' v.ownBlock → (v.ownBlock = some g' ∨ g' = w.heap.size) → wpList Tryz.prog ops Q rest (a.put o.dst (.slice (some ⟨g', 0, none⟩) n c)) w') : wpList Tryz.prog ops Q (o :: rest) a w := by
  obtain ⟨i0, hi, hz0, hz1, hz2⟩ := info_parts1 infoMk
  refine wpList_append_lies w hgd s x 34 ho B 112 i0 _ 2 24 Tryz.underlying34 hi hz0 hz1 hz2 rfl (by decide) v ns.length (mkCells ns) hs hv ⟨g, 0, none⟩ 1 1 [.string y.a0, .int .i64 y.a1] hx rfl (news_mark c0 c1) (by intro u hu; simp at hu; rcases hu with rfl | rfl <;> rfl) (by decide) (by unfold maxLen; omega) (by omega) hB w.heap.size rfl ?_
  intro g' cap w' h2 h3 h4 h5
  refine h g' _ cap w' ?_ h3 h4
  unfold MkRow
  rw [mkCells_snoc, List.length_append]
  exact h2
end Go.Proofs.YtknkdbfgfcgkiaaGreatDoor

namespace Go.Proofs
open Go.Shelf
def Tryz.laysM316_ren : Go.Shelf.Ren := ⟨fun | 316 => 117 | n => n, fun | 9 => 9 | 3 => 3 | 4 => 4 | 37 => 166 | 0 => 0 | 127 => 207 | 5 => 5 | n => n, fun | n => n⟩
theorem Tryz.laysM316 : Go.Proofs.LaysM.n316 Tryz.prog Tryz.laysM316_ren := {
  mixed := by kernel_rfl
  f316 := Tryz.func117.trans (congrArg some (by kernel_rfl))
  t0 := Tryz.underlying0
  a0 := Tryz.isAgg0
  z0 := Tryz.sizeOf0
  v0 := Tryz.zeroValue0
  t3 := Tryz.underlying3
  a3 := Tryz.isAgg3
  z3 := Tryz.sizeOf3
  v3 := Tryz.zeroValue3
  t4 := Tryz.underlying4
  a4 := Tryz.isAgg4
  z4 := Tryz.sizeOf4
  v4 := Tryz.zeroValue4
  t9 := Tryz.underlying9
  a9 := Tryz.isAgg9
  z9 := Tryz.sizeOf9
  v9 := Tryz.zeroValue9
  t37 := Tryz.underlying166
  a37 := Tryz.isAgg166
  z37 := Tryz.sizeOf166
  v37 := Tryz.zeroValue166
  t127 := Tryz.underlying207
  a127 := Tryz.isAgg207
  z127 := Tryz.sizeOf207
  v127 := Tryz.zeroValue207
  t5 := Tryz.underlying5
  a5 := Tryz.isAgg5
  z5 := Tryz.sizeOf5
  v5 := Tryz.zeroValue5
  i0 := by kernel_rfl
  i3 := by kernel_rfl
  i4 := by kernel_rfl
  i5 := by kernel_rfl
  i9 := by kernel_rfl
  i37 := by kernel_rfl
  i127 := by kernel_rfl }
open Go.RowKit in
/-- internal/stringslite.Clone (what strings.Clone calls): "Clone returns a fresh copy of s.": THE SAME BYTES. Of what was there nothing has turned (a new row is laid, and frozen, where s is not empty). (LAID: no walk: one application.) -/
theorem Tryz.stringslite_Clone (s : ByteArray) (w : World) (hlim : s.size ≤ 281474976710656) :
    Calls Tryz.prog 117 #[.string s] w fun e w' => e = .returned (.string s) ∧ Below w.heap.size w w' := Any.stringslite_Clone Tryz.laysM316 s w hlim
def Tryz.lays110_ren : Go.Shelf.Ren := ⟨fun | 110 => 103 | 109 => 118 | n => n, fun | 31 => 22 | 9 => 9 | 4 => 4 | 3 => 3 | 0 => 0 | n => n, fun | n => n⟩
theorem Tryz.lays110 : Go.Proofs.Lays.n110 Tryz.prog Tryz.lays110_ren := {
  mixed := by kernel_rfl
  f109 := Tryz.func118.trans (congrArg some (by kernel_rfl))
  f110 := Tryz.func103.trans (congrArg some (by kernel_rfl))
  t0 := Tryz.underlying0
  a0 := Tryz.isAgg0
  z0 := Tryz.sizeOf0
  v0 := Tryz.zeroValue0
  t3 := Tryz.underlying3
  a3 := Tryz.isAgg3
  z3 := Tryz.sizeOf3
  v3 := Tryz.zeroValue3
  t4 := Tryz.underlying4
  a4 := Tryz.isAgg4
  z4 := Tryz.sizeOf4
  v4 := Tryz.zeroValue4
  t9 := Tryz.underlying9
  a9 := Tryz.isAgg9
  z9 := Tryz.sizeOf9
  v9 := Tryz.zeroValue9
  t31 := Tryz.underlying22
  a31 := Tryz.isAgg22
  z31 := Tryz.sizeOf22
  v31 := Tryz.zeroValue22 }
open Go.Lib in
/-- slices.Contains at []string: "Contains reports whether v is present in s.": IT RETURNS 'Lib.containsS (the elements) v', which is true just where v is among them ('Lib.containsS_iff'); the world is as it was. ITS CALLEE slices.Index IS MET BY ITS OWN CONTRACT OFF THE SHELF (lay that first): no loop is walked here. (LAID: no walk: one application.) -/
theorem Tryz.slices_Contains_string (b off n c : Nat) (zs : List ByteArray) (x : ByteArray) (w : World) (hz : n ≤ zs.length) (hbig : n ≤ 9223372036854775807) (hc : ∀ j, j < zs.length → w.cell? ⟨b, off + j, none⟩ = some (.string (zs.getD j ByteArray.empty))) :
    Calls Tryz.prog 103 #[.slice (some ⟨b, off, none⟩) n c, .string x] w fun e w' => e = .returned (.bool (Lib.containsS (zs.take n) x)) ∧ w' = w := Any.slices_Contains_string Tryz.lays110 b off n c zs x w hz hbig hc
end Go.Proofs
