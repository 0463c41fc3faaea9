/-
  Lists of Word in memory, and the law's own helpers over them: how much they hold, how they are copied, how two lists are compared, and how one that comes in is opened. (Made by wip/mkrows.py.)
-/
/-
  Lists of Word for reading and of one's own: copied, compared, marked, and found marked again. (Made by wip/mkrows.py.)
-/
/-
  Rows of words that one may append to.
-/
import Derived.Test.YtjfebnplffpmoaaGreatDoorMerged18
import Derived.Test.YtjfebnplffpmoaaGreatDoorBodyM
import Derived.Deep.RegionWith
import Derived.Deep.Slices
import Derived.ProofKit
import Derived.OpenShut
import Derived.Deep.RegionHeld3
import Derived.Laws.OwnMore
import Derived.Deep.AppendLies
import Derived.Handy
set_option linter.unusedVariables false
namespace Go.Proofs.YtjfebnplffpmoaaGreatDoor
open Go.RowKit Go.Maps Go.Deep


/-- they lie one behind the other, from a place of a block on -/
def WordAt (w : World) (b off : Nat) (ns : List WordV) : Prop :=
  ∀ i (h : i < ns.length), w.cell? ⟨b, off + i * 3, none⟩ = some (.int .i64 (ns[i].a0)) ∧ w.cell? ⟨b, off + i * 3 + 1, none⟩ = some (.string (ns[i].a1)) ∧ w.cell? ⟨b, off + i * 3 + 2, none⟩ = some (.int .i64 (ns[i].a2))
def WordOk (ns : List WordV) : Prop := ∀ x ∈ ns, WordFit x
/-- what the bound gives where it is not passed -/
def WordSmall (ns : List WordV) : Prop := ns.length ≤ 1048576 ∧ ∀ x ∈ ns, x.a1.size ≤ 1048576

/-- what is left, or less than nothing -/
def WordSLeft (n1 : Nat) (left r : Int) : Prop := r ≤ left ∧ (0 ≤ r → (n1 : Int) ≤ left)
def RetWordSz (ns : List WordV) (left0 : Int) (e : Ending) : Prop := ∃ r : Int, e = .returned (.int .i64 r) ∧ r ≤ left0 ∧ (0 ≤ r → WordSmall ns)
theorem infoWord : (Tryz.prog.info? 30).map (fun i => (i.zero, i.size, i.bytes)) = some (some (.agg #[.int .i64 0, .string ByteArray.empty, .int .i64 0]), 3, 32) := by kernel_rfl

def WordTo (xs : List Value) (ns : List WordV) (k : Nat) : Prop :=
  ∀ i (h : i < ns.length), i < k → xs[i * 3]? = some (.int .i64 (ns[i].a0)) ∧ xs[i * 3 + 1]? = some (.string (ns[i].a1)) ∧ xs[i * 3 + 2]? = some (.int .i64 (ns[i].a2))
theorem wordTo_step (xs : List Value) (ns : List WordV) (k : Nat) (hk : k < ns.length) (hx : xs.length = ns.length * 3) (h : WordTo xs ns k) :
    WordTo (((xs.set (k * 3) (.int .i64 (ns[k].a0))).set (k * 3 + 1) (.string (ns[k].a1))).set (k * 3 + 2) (.int .i64 (ns[k].a2))) ns (k + 1) := by
  intro i hi hik
  by_cases e : i = k
  · subst e
    simp [List.getElem?_set, hx]
    omega
  · obtain ⟨c0, c1, c2⟩ := h i hi (by omega)
    refine ⟨?_, ?_, ?_⟩ <;> (repeat rw [List.getElem?_set_ne (by omega)]) <;> assumption

theorem ownsRowWord_below {w w' : World} {base B : Nat} {e : TypeId} {size : Nat} {g n cap : Nat} {xs : List Value} (h : w.ownsRow base e size (.slice (some ⟨g, 0, none⟩) n cap) n xs) (hb : Below B w w') (hg : g < B) :
    w'.ownsRow base e size (.slice (some ⟨g, 0, none⟩) n cap) n xs := by
  refine ⟨h.1, ?_⟩
  rcases h.2 with ⟨h', _⟩ | ⟨g', cap', cur, h', h1, h2, h3⟩
  · simp at h'
  · refine .inr ⟨g', cap', cur, h', h1, ?_, h3⟩
    simp only [Value.slice.injEq, Option.some.injEq, Addr.mk.injEq, and_true, true_and] at h'
    obtain ⟨rfl, rfl⟩ := h'
    rw [hb.block g hg]; exact h2
theorem wordCells {w : World} {base : Nat} {e : TypeId} {g n cap : Nat} {xs : List Value} (h : w.ownsRow base e 3 (.slice (some ⟨g, 0, none⟩) n cap) n xs) (k : Nat) (hk : k < n) :
    ∃ v0 v1 v2, w.cell? ⟨g, k * 3, none⟩ = some v0 ∧ w.cell? ⟨g, k * 3 + 1, none⟩ = some v1 ∧ w.cell? ⟨g, k * 3 + 2, none⟩ = some v2 ∧ w.frozen? ⟨g, k * 3, none⟩ = false ∧ w.frozen? ⟨g, k * 3 + 1, none⟩ = false ∧ w.frozen? ⟨g, k * 3 + 2, none⟩ = false := by
  have hx := h.1
  refine ⟨xs[k * 3]'(by omega), xs[k * 3 + 1]'(by omega), xs[k * 3 + 2]'(by omega), ?_, ?_, ?_, h.frozenAt _, h.frozenAt _, h.frozenAt _⟩
  all_goals
    rw [h.cellAt _ (by omega)]
    exact List.getElem?_eq_getElem _
theorem wordStore {w : World} {base : Nat} {e : TypeId} {g n cap : Nat} {xs : List Value} (h : w.ownsRow base e 3 (.slice (some ⟨g, 0, none⟩) n cap) n xs) (k : Nat) (v0 v1 v2 : Value) :
    ((((w.setCell ⟨g, k * 3, none⟩ v0).setCell ⟨g, k * 3 + 1, none⟩ v1).setCell ⟨g, k * 3 + 2, none⟩ v2)).ownsRow base e 3 (.slice (some ⟨g, 0, none⟩) n cap) n (((xs.set (k * 3) v0).set (k * 3 + 1) v1).set (k * 3 + 2) v2) :=
  (((h.stored (k * 3) v0).1.stored (k * 3 + 1) v1).1.stored (k * 3 + 2) v2).1
theorem wordOfRow {w : World} {base : Nat} {e : TypeId} {g n cap : Nat} {xs : List Value} {ns : List WordV} (h : w.ownsRow base e 3 (.slice (some ⟨g, 0, none⟩) n cap) n xs) (hn : ns.length = n) (ht : WordTo xs ns n) : WordAt w g 0 ns := by
  intro i hi
  obtain ⟨c0, c1, c2⟩ := ht i hi (by omega)
  refine ⟨?_, ?_, ?_⟩
  all_goals
    rw [Nat.zero_add, h.cellAt _ (by omega)]
    assumption

/-- a slice value leads to these: empty, or a row of them -/
def WordIn (w : World) (a : Option Addr) (ns : List WordV) : Prop :=
  ns = [] ∨ ∃ b off, a = some ⟨b, off, none⟩ ∧ b < w.heap.size ∧ WordAt w b off ns
theorem WordAt.below {w w' : World} {B b off : Nat} {ns : List WordV} (h : WordAt w b off ns) (hb : Below B w w') (hB : b < B) : WordAt w' b off ns := by
  intro i hi
  obtain ⟨c0, c1, c2⟩ := h i hi
  exact ⟨(hb.cell (by exact hB)).trans c0, (hb.cell (by exact hB)).trans c1, (hb.cell (by exact hB)).trans c2⟩
theorem WordIn.below {w w' : World} {a : Option Addr} {ns : List WordV} (h : WordIn w a ns) (hb : Below w.heap.size w w') : WordIn w' a ns := by
  rcases h with h | ⟨b, off, e, hlt, hn⟩
  · exact .inl h
  · exact .inr ⟨b, off, e, Nat.lt_of_lt_of_le hlt hb.size, hn.below hb hlt⟩
theorem cellsIWord : Tryz.prog.cellsOf 3 = 1 := by kernel_rfl
theorem cellsSWord : Tryz.prog.cellsOf 9 = 1 := by kernel_rfl
theorem lt_of_cellWord {w : World} {b off : Nat} {v : Value} (h : w.cell? ⟨b, off, none⟩ = some v) : b < w.heap.size := by
  by_cases hb : b < w.heap.size
  · exact hb
  · exfalso
    have : w.heap[b]? = none := Array.getElem?_eq_none (by omega)
    simp [World.cell?, this] at h
theorem wordRange {k : Int} (h : (Lit.int .i64 k).wf = true) : -9223372036854775808 ≤ k ∧ k ≤ 9223372036854775807 := bounds_i64 h
end Go.Proofs.YtjfebnplffpmoaaGreatDoor

set_option linter.unusedVariables false
namespace Go.Proofs.YtjfebnplffpmoaaGreatDoor
open Go.RowKit Go.Maps Go.Deep

def WordSRd (w : World) (v : Value) (ns : List WordV) : Prop := ∃ a c, v = .slice a ns.length c ∧ WordIn w a ns
def WordSOwn (S : List Nat) (w : World) (v : Value) (ns : List WordV) : Prop :=
  (S = [] ∧ ns = [] ∧ ∃ a c, v = .slice a 0 c) ∨ ∃ b off cap, S = [b] ∧ v = .slice (some ⟨b, off, none⟩) ns.length cap ∧ b < w.heap.size ∧ WordAt w b off ns ∧ ∀ i, i < ns.length * 3 → w.frozen? ⟨b, off + i, none⟩ = false
theorem WordAt.turn {w w' : World} {S : List Nat} {b off : Nat} {ns : List WordV} (h : WordAt w b off ns) (ht : Turn S w w') (hb : b < w.heap.size) (hS : b ∉ S) : WordAt w' b off ns := by
  intro i hi
  obtain ⟨c0, c1, c2⟩ := h i hi
  exact ⟨(ht.cell hb hS).trans c0, (ht.cell hb hS).trans c1, (ht.cell hb hS).trans c2⟩
theorem WordSRd.up {w w' : World} {v : Value} {ns : List WordV} (h : WordSRd w v ns) (hb : Below w.heap.size w w') : WordSRd w' v ns := by
  obtain ⟨a, c, e, h⟩ := h
  exact ⟨a, c, e, h.below hb⟩
theorem WordSRd.len {w : World} {v : Value} {ns : List WordV} (h : WordSRd w v ns) : ∃ a c, v = .slice a ns.length c := by
  obtain ⟨a, c, e, _⟩ := h
  exact ⟨a, c, e⟩
theorem WordSRd.form {w : World} {v : Value} {ns : List WordV} (h : WordSRd w v ns) : ∃ a n c, v = .slice a n c := by
  obtain ⟨a, c, e⟩ := h.len
  exact ⟨a, _, c, e⟩
theorem WordSOwn.rd {S : List Nat} {w : World} {v : Value} {ns : List WordV} (h : WordSOwn S w v ns) : WordSRd w v ns := by
  rcases h with ⟨_, rfl, a, c, rfl⟩ | ⟨b, off, cap, _, rfl, hb, hc, _⟩
  · exact ⟨a, c, rfl, .inl rfl⟩
  · exact ⟨_, cap, rfl, .inr ⟨b, off, rfl, hb, hc⟩⟩
theorem WordSOwn.turn {S S' : List Nat} {w w' : World} {v : Value} {ns : List WordV} (h : WordSOwn S w v ns) (ht : Turn S' w w') (hS : ∀ k ∈ S, k ∉ S') : WordSOwn S w' v ns := by
  rcases h with h | ⟨b, off, cap, rfl, rfl, hb, hc, hf⟩
  · exact .inl h
  · have hn := hS b (by simp)
    exact .inr ⟨b, off, cap, rfl, rfl, Nat.lt_of_lt_of_le hb ht.size, hc.turn ht hb hn, fun i hi => (ht.frozen hb hn).trans (hf i hi)⟩
theorem WordSOwn.up {S : List Nat} {w w' : World} {v : Value} {ns : List WordV} (h : WordSOwn S w v ns) (hb : Below w.heap.size w w') : WordSOwn S w' v ns := h.turn (Turn.of_below (S := []) hb) (by simp)
theorem WordSOwn.lt {S : List Nat} {w : World} {v : Value} {ns : List WordV} (h : WordSOwn S w v ns) : ∀ k ∈ S, k < w.heap.size := by
  rcases h with ⟨rfl, _⟩ | ⟨b, off, cap, rfl, rfl, hb, _⟩
  · simp
  · simpa using hb
def SmallWordS (ns : List WordV) : Prop := WordSmall ns ∧ WordOk ns
def WordSFit (ns : List WordV) : Prop := ns.length ≤ maxLen ∧ WordOk ns
def nWordS (ns : List WordV) : Nat := 3 * ns.length
theorem nWordS_le {ns : List WordV} (h : SmallWordS ns) : nWordS ns ≤ 100000000 := by have := h.1.1; unfold nWordS; omega
end Go.Proofs.YtjfebnplffpmoaaGreatDoor

set_option linter.unusedVariables false
namespace Go.Proofs.YtjfebnplffpmoaaGreatDoor
open Go.RowKit Go.Maps Go.Deep

def wdCells (ns : List WordV) : List Value := ns.flatMap fun x => [.int .i64 x.a0, .string x.a1, .int .i64 x.a2]
theorem wdCells_len (ns : List WordV) : (wdCells ns).length = ns.length * 3 := by
  induction ns with
  | nil => rfl
  | cons x xs ih => simp [wdCells] at ih ⊢; omega
theorem wdCells_snoc (ns : List WordV) (x : WordV) : wdCells (ns ++ [x]) = wdCells ns ++ [.int .i64 x.a0, .string x.a1, .int .i64 x.a2] := by simp [wdCells]
theorem wdCells_get (ns : List WordV) (i : Nat) (h : i < ns.length) : (wdCells ns)[i * 3]? = some (.int .i64 ns[i].a0) ∧ (wdCells ns)[i * 3 + 1]? = some (.string ns[i].a1) ∧ (wdCells ns)[i * 3 + 2]? = some (.int .i64 ns[i].a2) := by
  induction ns generalizing i with
  | nil => simp at h
  | cons x xs ih =>
    cases i with
    | zero => simp [wdCells]
    | succ i =>
      have := ih i (by simpa using h)
      have e : wdCells (x :: xs) = [.int .i64 x.a0, .string x.a1, .int .i64 x.a2] ++ wdCells xs := by simp [wdCells]
      rw [e, show (i + 1) * 3 = i * 3 + 1 + 1 + 1 by omega]
      simpa using this
/-- a row of words, at or above a block, that one may append to -/
def WdRow (B : Nat) (w : World) (v : Value) (ns : List WordV) : Prop := w.ownsRow B 30 3 v ns.length (wdCells ns)
theorem WdRow.nil (B : Nat) (w : World) : WdRow B w (.slice none 0 0) [] := ⟨rfl, .inl ⟨rfl, rfl⟩⟩
theorem WdRow.slice {B : Nat} {w : World} {v : Value} {ns : List WordV} (h : WdRow B w v ns) : ∃ a c, v = .slice a ns.length c := by
  rcases h.2 with ⟨rfl, h0⟩ | ⟨g, cap, cur, rfl, _⟩
  · rw [h0]; exact ⟨_, _, rfl⟩
  · exact ⟨_, _, rfl⟩
theorem WdRow.own {B : Nat} {w : World} {v : Value} {ns : List WordV} (h : WdRow B w v ns) : ∃ S, WordSOwn S w v ns ∧ (∀ k ∈ S, B ≤ k) := by
  have hh : w.ownsRow B 30 3 v ns.length (wdCells ns) := h
  rcases h with ⟨_, ⟨rfl, h0⟩ | ⟨g, cap, cur, rfl, hB, hg, hnc, _⟩⟩
  · have : ns = [] := List.eq_nil_of_length_eq_zero h0
    subst this
    exact ⟨[], .inl ⟨rfl, rfl, none, 0, rfl⟩, by simp⟩
  · refine ⟨[g], .inr ⟨g, 0, cap, rfl, rfl, (Array.getElem?_eq_some_iff.1 hg).1, fun i hi => ?_, fun i hi => hh.frozenAt _⟩, by simpa using hB⟩
    obtain ⟨e0, e1, e2⟩ := wdCells_get ns i hi
    refine ⟨?_, ?_, ?_⟩
    · rw [Nat.zero_add, hh.cellAt _ (by omega)]; exact e0
    · rw [Nat.zero_add, hh.cellAt _ (by omega)]; exact e1
    · rw [Nat.zero_add, hh.cellAt _ (by omega)]; exact e2
theorem WdRow.rd {B : Nat} {w : World} {v : Value} {ns : List WordV} (h : WdRow B w v ns) : WordSRd w v ns := by
  obtain ⟨S, h, _⟩ := h.own
  exact h.rd
theorem WdRow.ge {B : Nat} {w : World} {v : Value} {ns : List WordV} (h : WdRow B w v ns) : ∀ g, v.ownBlock = some g → B ≤ g := by
  intro g hg
  rcases h.2 with ⟨rfl, _⟩ | ⟨g', cap, cur, rfl, hB, _⟩
  · simp [Value.ownBlock] at hg
  · simp [Value.ownBlock] at hg; omega
theorem WdRow.lt {B : Nat} {w : World} {v : Value} {ns : List WordV} (h : WdRow B w v ns) : ∀ g, v.ownBlock = some g → g < w.heap.size := by
  intro g hg
  rcases h.2 with ⟨rfl, _⟩ | ⟨g', cap, cur, rfl, hB, hh, _⟩
  · simp [Value.ownBlock] at hg
  · simp [Value.ownBlock] at hg; rw [← hg]; exact (Array.getElem?_eq_some_iff.1 hh).1
theorem WdRow.keep {B : Nat} {w w' : World} {v : Value} {ns : List WordV} (h : WdRow B w v ns) (hk : ∀ g, v.ownBlock = some g → w'.heap[g]? = w.heap[g]?) : WdRow B w' v ns := by
  refine ⟨h.1, ?_⟩
  rcases h.2 with h0 | ⟨g, cap, cur, e, hB, hg, r⟩
  · exact .inl h0
  · exact .inr ⟨g, cap, cur, e, hB, (hk g (by rw [e]; rfl)).trans hg, r⟩
theorem WdRow.up {B : Nat} {w w' : World} {v : Value} {ns : List WordV} (h : WdRow B w v ns) (hb : Below w.heap.size w w') : WdRow B w' v ns := h.keep (fun g hg => hb.block g (h.lt g hg))
theorem WdRow.mono {B B' : Nat} {w : World} {v : Value} {ns : List WordV} (h : WdRow B w v ns) (hB : B' ≤ B) : WdRow B' w v ns := by
  refine ⟨h.1, ?_⟩
  rcases h.2 with h0 | ⟨g, cap, cur, e, hb, r⟩
  · exact .inl h0
  · exact .inr ⟨g, cap, cur, e, Nat.le_trans hB hb, r⟩
theorem infoWd : (Tryz.prog.info? 30).map (fun i => (i.zero, i.size, i.bytes)) = some (some (.agg #[.int .i64 0, .string ByteArray.empty, .int .i64 0]), 3, 32) := by kernel_rfl
theorem news_word {w : World} {g : Nat} {x : WordV} (c0 : w.cell? ⟨g, 0, none⟩ = some (.int .i64 x.a0)) (c1 : w.cell? ⟨g, 1, none⟩ = some (.string x.a1)) (c2 : w.cell? ⟨g, 2, none⟩ = some (.int .i64 x.a2)) : ∀ j u, ([.int .i64 x.a0, .string x.a1, .int .i64 x.a2] : List Value)[j]? = some u → w.cell? ((⟨g, 0, none⟩ : Addr).add j) = some u := by
  intro j u hj
  match j, hj with
  | 0, hj => simp at hj; subst hj; simpa [Addr.add] using c0
  | 1, hj => simp at hj; subst hj; simpa [Addr.add] using c1
  | 2, hj => simp at hj; subst hj; simpa [Addr.add] using c2
/-- one more word, which lies in a block of its own -/
theorem wpList_wdAppend {w : World} {ops : Array Oper} {rest : List Oper} {o : Oper} {a : Act} {Q : Exit → Act → World → Prop} (hgd : o.guard = none) (s x : Operand)
    (ho : o.op = .call { callee := .builtin .append, args := #[s, x], argTypes := #[24, 24] }) (B : Nat) (v : Value) (ns : List WordV) (y : WordV) (g : Nat) (hs : a.eval s = v) (hx : a.eval x = .slice (some ⟨g, 0, none⟩) 1 1)
    (hv : WdRow B w v ns) (c0 : w.cell? ⟨g, 0, none⟩ = some (.int .i64 y.a0)) (c1 : w.cell? ⟨g, 1, none⟩ = some (.string y.a1)) (c2 : w.cell? ⟨g, 2, none⟩ = some (.int .i64 y.a2)) (hl : ns.length ≤ 1000000) (hB : B ≤ w.heap.size)
    (h : ∀ g' n c w', WdRow B w' (.slice (some ⟨g', 0, none⟩) n c) (ns ++ [y]) → w.grownBy w' v.ownBlock → (v.ownBlock = some g' ∨ g' = w.heap.size) → wpList Tryz.prog ops Q rest (a.put o.dst (.slice (some ⟨g', 0, none⟩) n c)) w') : wpList Tryz.prog ops Q (o :: rest) a w := by
  obtain ⟨i0, hi, hz0, hz1, hz2⟩ := info_parts1 infoWd
  refine wpList_append_lies w hgd s x 24 ho B 30 i0 _ 3 32 Tryz.underlying24 hi hz0 hz1 hz2 rfl (by decide) v ns.length (wdCells ns) hs hv ⟨g, 0, none⟩ 1 1 [.int .i64 y.a0, .string y.a1, .int .i64 y.a2] hx rfl (news_word c0 c1 c2) (by intro u hu; simp at hu; rcases hu with rfl | rfl | rfl <;> rfl) (by decide) (by unfold maxLen; omega) (by omega) hB w.heap.size rfl ?_
  intro g' cap w' h2 h3 h4 h5
  refine h g' _ cap w' ?_ h3 h4
  unfold WdRow
  rw [wdCells_snoc, List.length_append]
  exact h2
/-- one more word, at a step of a region that draws its order -/
theorem step_wdAppend {w : World} {ops : Array Oper} {o : Oper} {a : Act} {K : Act → World → Prop} {Q : Exit → Act → World → Prop} {E : Prop} (hgd : o.guard = none) (s x : Operand)
    (ho : o.op = .call { callee := .builtin .append, args := #[s, x], argTypes := #[24, 24] }) (B : Nat) (v : Value) (ns : List WordV) (y : WordV) (g : Nat) (hs : a.eval s = v) (hx : a.eval x = .slice (some ⟨g, 0, none⟩) 1 1)
    (hv : WdRow B w v ns) (c0 : w.cell? ⟨g, 0, none⟩ = some (.int .i64 y.a0)) (c1 : w.cell? ⟨g, 1, none⟩ = some (.string y.a1)) (c2 : w.cell? ⟨g, 2, none⟩ = some (.int .i64 y.a2)) (hl : ns.length ≤ 1000000) (hB : B ≤ w.heap.size)
    (h : ∀ g' n c w', WdRow B w' (.slice (some ⟨g', 0, none⟩) n c) (ns ++ [y]) → w.grownBy w' v.ownBlock → K (a.put o.dst (.slice (some ⟨g', 0, none⟩) n c)) w') :
    if Region.wanted o (yielded ops a.tmps) = true then Oper.wp Tryz.prog o a w K Q else E := by
  obtain ⟨i0, hi, hz0, hz1, hz2⟩ := info_parts1 infoWd
  refine step_append_lies w hgd s x 24 ho B 30 i0 _ 3 32 Tryz.underlying24 hi hz0 hz1 hz2 rfl (by decide) v ns.length (wdCells ns) hs hv ⟨g, 0, none⟩ 1 1 [.int .i64 y.a0, .string y.a1, .int .i64 y.a2] hx rfl (news_word c0 c1 c2) (by intro u hu; simp at hu; rcases hu with rfl | rfl | rfl <;> rfl) (by decide) (by unfold maxLen; omega) (by omega) hB w.heap.size rfl ?_
  intro g' cap w' h2 h3 h4 h5
  refine h g' _ cap w' ?_ h3
  unfold WdRow
  rw [wdCells_snoc, List.length_append]
  exact h2
end Go.Proofs.YtjfebnplffpmoaaGreatDoor
