/-
  A tree out of a text: mathematics of the whole.
-/
/-
  Rows of words that one may append to.
-/
import Derived.Test.YtaonajalokhngaaGreatDoorMerged8
import Derived.Test.YtaonajalokhngaaGreatDoorMerged17
import Derived.Test.YtaonajalokhngaaGreatDoorMerged13
import Derived.Laws.OwnMore
import Derived.Deep.AppendLies
import Derived.Handy
set_option linter.unusedVariables false
namespace Go.Proofs.YtaonajalokhngaaGreatDoor
open Go.RowKit Go.Maps Go.Deep

/-- where a fault of a word is told: at the word, or at the text's end -/
def atW (ws : List WordV) (sz k : Nat) : Int := match ws[k]? with
  | some x => x.a2
  | none => (sz : Int)
inductive TrRes where
  | bad (c a : Int)
  | ok (x : TreeV)
def fuelT (ws : List WordV) : Nat := 10 * ws.length + 10
def trRes (t : ByteArray) : TrRes :=
  if bwCode t ≠ 0 then .bad (bwCode t) (bwAt t)
  else match parse (bwWords t) (fuelT (bwWords t)) .expr 0 with
    | .out => .bad 5 0
    | .bad k => .bad 5 (atW (bwWords t) t.size k)
    | .ok x k => if k < (bwWords t).length then .bad 5 (atW (bwWords t) t.size k) else if 400 < sizeT x then .bad 6 0 else if 40 < dp x.l + 1 then .bad 7 0 else .ok x
def TrRes.nodes : TrRes → List NodeV
  | .ok x => fl x.f
  | .bad _ _ => []
def TrRes.code : TrRes → Int
  | .ok _ => 0
  | .bad c _ => c
def TrRes.at' : TrRes → Int
  | .ok _ => 0
  | .bad _ a => a
theorem bw_words (t : ByteArray) : (bwWords t).length ≤ 1500 ∧ ∀ x ∈ bwWords t, WordIs x := by
  unfold bwWords
  split
  · simp
  · rename_i h
    cases hl : lexR t 0 with
    | bad c a => simp
    | ok ws =>
      have h1 := (lex_small t _ 0 ws rfl hl).1
      exact ⟨by simp only; omega, lex_is t _ 0 ws rfl hl⟩
theorem fuel_ok (ws : List WordV) : needF (ws.length - 0) .expr < fuelT ws := by simp only [needF, fuelT]; omega
theorem tr_good (t : ByteArray) : GoodR (bwWords t) 0 1 (parse (bwWords t) (fuelT (bwWords t)) .expr 0) := parse_good (bwWords t) _ .expr 0 (Nat.zero_le _) trivial (fuel_ok _)
theorem tr_tree (t : ByteArray) : TreeR 0 0 (parse (bwWords t) (fuelT (bwWords t)) .expr 0) := parse_tree (bwWords t) (fun x hx => ((bw_words t).2 x hx).fine) _ .expr 0 trivial
theorem tr_words {t : ByteArray} (h : bwCode t ≠ 0) : trRes t = .bad (bwCode t) (bwAt t) := by unfold trRes; rw [if_pos h]
theorem tr_bad {t : ByteArray} {k : Nat} (h : bwCode t = 0) (hp : parse (bwWords t) (fuelT (bwWords t)) .expr 0 = .bad k) : trRes t = .bad 5 (atW (bwWords t) t.size k) := by unfold trRes; rw [if_neg (by simpa using h), hp]
theorem tr_more {t : ByteArray} {k : Nat} {x : TreeV} (h : bwCode t = 0) (hp : parse (bwWords t) (fuelT (bwWords t)) .expr 0 = .ok x k) (hk : k < (bwWords t).length) : trRes t = .bad 5 (atW (bwWords t) t.size k) := by unfold trRes; rw [if_neg (by simpa using h), hp]; simp only; rw [if_pos hk]
theorem tr_many {t : ByteArray} {k : Nat} {x : TreeV} (h : bwCode t = 0) (hp : parse (bwWords t) (fuelT (bwWords t)) .expr 0 = .ok x k) (hk : ¬ k < (bwWords t).length) (hs : 400 < sizeT x) : trRes t = .bad 6 0 := by unfold trRes; rw [if_neg (by simpa using h), hp]; simp only; rw [if_neg hk, if_pos hs]
theorem tr_deep {t : ByteArray} {k : Nat} {x : TreeV} (h : bwCode t = 0) (hp : parse (bwWords t) (fuelT (bwWords t)) .expr 0 = .ok x k) (hk : ¬ k < (bwWords t).length) (hs : ¬ 400 < sizeT x) (hd : 40 < dp x.l + 1) : trRes t = .bad 7 0 := by unfold trRes; rw [if_neg (by simpa using h), hp]; simp only; rw [if_neg hk, if_neg hs, if_pos hd]
theorem tr_ok {t : ByteArray} {k : Nat} {x : TreeV} (h : bwCode t = 0) (hp : parse (bwWords t) (fuelT (bwWords t)) .expr 0 = .ok x k) (hk : ¬ k < (bwWords t).length) (hs : ¬ 400 < sizeT x) (hd : ¬ 40 < dp x.l + 1) : trRes t = .ok x := by unfold trRes; rw [if_neg (by simpa using h), hp]; simp only; rw [if_neg hk, if_neg hs, if_neg hd]
end Go.Proofs.YtaonajalokhngaaGreatDoor

set_option linter.unusedVariables false
namespace Go.Proofs.YtaonajalokhngaaGreatDoor
open Go.RowKit Go.Maps Go.Deep

def wdCells (ns : List WordV) : List Value := ns.flatMap fun x => [.int .i64 x.a0, .string x.a1, .int .i64 x.a2]
theorem wdCells_len (ns : List WordV) : (wdCells ns).length = ns.length * 3 := by
  induction ns with
  | nil => rfl
  | cons x xs ih => simp [wdCells] at ih ⊢; omega
theorem wdCells_snoc (ns : List WordV) (x : WordV) : wdCells (ns ++ [x]) = wdCells ns ++ [.int .i64 x.a0, .string x.a1, .int .i64 x.a2] := by simp [wdCells]
theorem wdCells_get (ns : List WordV) (i : Nat) (h : i < ns.length) : (wdCells ns)[i * 3]? = some (.int .i64 ns[i].a0) ∧ (wdCells ns)[i * 3 + 1]? = some (.string ns[i].a1) ∧ (wdCells ns)[i * 3 + 2]? = some (.int .i64 ns[i].a2) := by
  induction ns generalizing i with
  | nil => simp at h
  | cons x xs ih =>
    cases i with
    | zero => simp [wdCells]
    | succ i =>
      have := ih i (by simpa using h)
      have e : wdCells (x :: xs) = [.int .i64 x.a0, .string x.a1, .int .i64 x.a2] ++ wdCells xs := by simp [wdCells]
      rw [e, show (i + 1) * 3 = i * 3 + 1 + 1 + 1 by omega]
      simpa using this
/-- a row of words, at or above a block, that one may append to -/
def WdRow (B : Nat) (w : World) (v : Value) (ns : List WordV) : Prop := w.ownsRow B 39 3 v ns.length (wdCells ns)
theorem WdRow.nil (B : Nat) (w : World) : WdRow B w (.slice none 0 0) [] := ⟨rfl, .inl ⟨rfl, rfl⟩⟩
theorem WdRow.slice {B : Nat} {w : World} {v : Value} {ns : List WordV} (h : WdRow B w v ns) : ∃ a c, v = .slice a ns.length c := by
  rcases h.2 with ⟨rfl, h0⟩ | ⟨g, cap, cur, rfl, _⟩
  · rw [h0]; exact ⟨_, _, rfl⟩
  · exact ⟨_, _, rfl⟩
theorem WdRow.own {B : Nat} {w : World} {v : Value} {ns : List WordV} (h : WdRow B w v ns) : ∃ S, WordSOwn S w v ns ∧ (∀ k ∈ S, B ≤ k) := by
  have hh : w.ownsRow B 39 3 v ns.length (wdCells ns) := h
  rcases h with ⟨_, ⟨rfl, h0⟩ | ⟨g, cap, cur, rfl, hB, hg, hnc, _⟩⟩
  · have : ns = [] := List.eq_nil_of_length_eq_zero h0
    subst this
    exact ⟨[], .inl ⟨rfl, rfl, none, 0, rfl⟩, by simp⟩
  · refine ⟨[g], .inr ⟨g, 0, cap, rfl, rfl, (Array.getElem?_eq_some_iff.1 hg).1, fun i hi => ?_, fun i hi => hh.frozenAt _⟩, by simpa using hB⟩
    obtain ⟨e0, e1, e2⟩ := wdCells_get ns i hi
    refine ⟨?_, ?_, ?_⟩
    · rw [Nat.zero_add, hh.cellAt _ (by omega)]; exact e0
    · rw [Nat.zero_add, hh.cellAt _ (by omega)]; exact e1
    · rw [Nat.zero_add, hh.cellAt _ (by omega)]; exact e2
theorem WdRow.rd {B : Nat} {w : World} {v : Value} {ns : List WordV} (h : WdRow B w v ns) : WordSRd w v ns := by
  obtain ⟨S, h, _⟩ := h.own
  exact h.rd
theorem WdRow.ge {B : Nat} {w : World} {v : Value} {ns : List WordV} (h : WdRow B w v ns) : ∀ g, v.ownBlock = some g → B ≤ g := by
  intro g hg
  rcases h.2 with ⟨rfl, _⟩ | ⟨g', cap, cur, rfl, hB, _⟩
  · simp [Value.ownBlock] at hg
  · simp [Value.ownBlock] at hg; omega
theorem WdRow.lt {B : Nat} {w : World} {v : Value} {ns : List WordV} (h : WdRow B w v ns) : ∀ g, v.ownBlock = some g → g < w.heap.size := by
  intro g hg
  rcases h.2 with ⟨rfl, _⟩ | ⟨g', cap, cur, rfl, hB, hh, _⟩
  · simp [Value.ownBlock] at hg
  · simp [Value.ownBlock] at hg; rw [← hg]; exact (Array.getElem?_eq_some_iff.1 hh).1
theorem WdRow.keep {B : Nat} {w w' : World} {v : Value} {ns : List WordV} (h : WdRow B w v ns) (hk : ∀ g, v.ownBlock = some g → w'.heap[g]? = w.heap[g]?) : WdRow B w' v ns := by
  refine ⟨h.1, ?_⟩
  rcases h.2 with h0 | ⟨g, cap, cur, e, hB, hg, r⟩
  · exact .inl h0
  · exact .inr ⟨g, cap, cur, e, hB, (hk g (by rw [e]; rfl)).trans hg, r⟩
theorem WdRow.up {B : Nat} {w w' : World} {v : Value} {ns : List WordV} (h : WdRow B w v ns) (hb : Below w.heap.size w w') : WdRow B w' v ns := h.keep (fun g hg => hb.block g (h.lt g hg))
theorem WdRow.mono {B B' : Nat} {w : World} {v : Value} {ns : List WordV} (h : WdRow B w v ns) (hB : B' ≤ B) : WdRow B' w v ns := by
  refine ⟨h.1, ?_⟩
  rcases h.2 with h0 | ⟨g, cap, cur, e, hb, r⟩
  · exact .inl h0
  · exact .inr ⟨g, cap, cur, e, Nat.le_trans hB hb, r⟩
theorem infoWd : (Tryz.prog.info? 39).map (fun i => (i.zero, i.size, i.bytes)) = some (some (.agg #[.int .i64 0, .string ByteArray.empty, .int .i64 0]), 3, 32) := by kernel_rfl
theorem news_word {w : World} {g : Nat} {x : WordV} (c0 : w.cell? ⟨g, 0, none⟩ = some (.int .i64 x.a0)) (c1 : w.cell? ⟨g, 1, none⟩ = some (.string x.a1)) (c2 : w.cell? ⟨g, 2, none⟩ = some (.int .i64 x.a2)) : ∀ j u, ([.int .i64 x.a0, .string x.a1, .int .i64 x.a2] : List Value)[j]? = some u → w.cell? ((⟨g, 0, none⟩ : Addr).add j) = some u := by
  intro j u hj
  match j, hj with
  | 0, hj => simp at hj; subst hj; simpa [Addr.add] using c0
  | 1, hj => simp at hj; subst hj; simpa [Addr.add] using c1
  | 2, hj => simp at hj; subst hj; simpa [Addr.add] using c2
/-- one more word, which lies in a block of its own -/
theorem wpList_wdAppend {w : World} {ops : Array Oper} {rest : List Oper} {o : Oper} {a : Act} {Q : Exit → Act → World → Prop} (hgd : o.guard = none) (s x : Operand)
    (ho : o.op = .call { callee := .builtin .append, args := #[s, x], argTypes := #[31, 31] }) (B : Nat) (v : Value) (ns : List WordV) (y : WordV) (g : Nat) (hs : a.eval s = v) (hx : a.eval x = .slice (some ⟨g, 0, none⟩) 1 1)
    (hv : WdRow B w v ns) (c0 : w.cell? ⟨g, 0, none⟩ = some (.int .i64 y.a0)) (c1 : w.cell? ⟨g, 1, none⟩ = some (.string y.a1)) (c2 : w.cell? ⟨g, 2, none⟩ = some (.int .i64 y.a2)) (hl : ns.length ≤ 1000000) (hB : B ≤ w.heap.size)
    (h : ∀ g' n c w', WdRow B w' (.slice (some ⟨g', 0, none⟩) n c) (ns ++ [y]) → w.grownBy w' v.ownBlock → (v.ownBlock = some g' ∨ g' = w.heap.size) → wpList Tryz.prog ops Q rest (a.put o.dst (.slice (some ⟨g', 0, none⟩) n c)) w') : wpList Tryz.prog ops Q (o :: rest) a w := by
  obtain ⟨i0, hi, hz0, hz1, hz2⟩ := info_parts1 infoWd
  refine wpList_append_lies w hgd s x 31 ho B 39 i0 _ 3 32 Tryz.underlying31 hi hz0 hz1 hz2 rfl (by decide) v ns.length (wdCells ns) hs hv ⟨g, 0, none⟩ 1 1 [.int .i64 y.a0, .string y.a1, .int .i64 y.a2] hx rfl (news_word c0 c1 c2) (by intro u hu; simp at hu; rcases hu with rfl | rfl | rfl <;> rfl) (by decide) (by unfold maxLen; omega) (by omega) hB w.heap.size rfl ?_
  intro g' cap w' h2 h3 h4 h5
  refine h g' _ cap w' ?_ h3 h4
  unfold WdRow
  rw [wdCells_snoc, List.length_append]
  exact h2
/-- one more word, at a step of a region that draws its order -/
theorem step_wdAppend {w : World} {ops : Array Oper} {o : Oper} {a : Act} {K : Act → World → Prop} {Q : Exit → Act → World → Prop} {E : Prop} (hgd : o.guard = none) (s x : Operand)
    (ho : o.op = .call { callee := .builtin .append, args := #[s, x], argTypes := #[31, 31] }) (B : Nat) (v : Value) (ns : List WordV) (y : WordV) (g : Nat) (hs : a.eval s = v) (hx : a.eval x = .slice (some ⟨g, 0, none⟩) 1 1)
    (hv : WdRow B w v ns) (c0 : w.cell? ⟨g, 0, none⟩ = some (.int .i64 y.a0)) (c1 : w.cell? ⟨g, 1, none⟩ = some (.string y.a1)) (c2 : w.cell? ⟨g, 2, none⟩ = some (.int .i64 y.a2)) (hl : ns.length ≤ 1000000) (hB : B ≤ w.heap.size)
    (h : ∀ g' n c w', WdRow B w' (.slice (some ⟨g', 0, none⟩) n c) (ns ++ [y]) → w.grownBy w' v.ownBlock → K (a.put o.dst (.slice (some ⟨g', 0, none⟩) n c)) w') :
    if Region.wanted o (yielded ops a.tmps) = true then Oper.wp Tryz.prog o a w K Q else E := by
  obtain ⟨i0, hi, hz0, hz1, hz2⟩ := info_parts1 infoWd
  refine step_append_lies w hgd s x 31 ho B 39 i0 _ 3 32 Tryz.underlying31 hi hz0 hz1 hz2 rfl (by decide) v ns.length (wdCells ns) hs hv ⟨g, 0, none⟩ 1 1 [.int .i64 y.a0, .string y.a1, .int .i64 y.a2] hx rfl (news_word c0 c1 c2) (by intro u hu; simp at hu; rcases hu with rfl | rfl | rfl <;> rfl) (by decide) (by unfold maxLen; omega) (by omega) hB w.heap.size rfl ?_
  intro g' cap w' h2 h3 h4 h5
  refine h g' _ cap w' ?_ h3
  unfold WdRow
  rw [wdCells_snoc, List.length_append]
  exact h2
end Go.Proofs.YtaonajalokhngaaGreatDoor
