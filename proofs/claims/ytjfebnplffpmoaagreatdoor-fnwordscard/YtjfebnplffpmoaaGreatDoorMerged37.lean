/-
  Rows of nodes that one may append to.
-/
/-
  The specification's reader: its box, and its small functions.
-/
/-
  The specification's reader: a name, a new row, the kind of a sign, a number. (Made by wip/mkreads2.py.)
-/
import Derived.Test.YtjfebnplffpmoaaGreatDoorMerged5
import Derived.Test.YtjfebnplffpmoaaGreatDoorMerged18
import Derived.Test.YtjfebnplffpmoaaGreatDoorMerged36
import Derived.Laws.OwnMore
import Derived.Deep.AppendLies
import Derived.Handy
import Derived.Test.YtjfebnplffpmoaaGreatDoorMerged17
import Derived.Test.YtjfebnplffpmoaaGreatDoorMerged19
import Derived.Test.YtjfebnplffpmoaaGreatDoorMerged20
import Derived.Deep.RegionHeld3
import Derived.Deep.DeepCutAuto
import Derived.Deep.CutBlock
set_option linter.unusedVariables false
namespace Go.Proofs.YtjfebnplffpmoaaGreatDoor
open Go.RowKit Go.Maps Go.Deep

def ndCells (ns : List NodeV) : List Value := ns.flatMap fun x => [.int .i64 x.kind, .int .i64 x.num, .string x.name, .int .i64 x.kids]
theorem ndCells_len (ns : List NodeV) : (ndCells ns).length = ns.length * 4 := by
  induction ns with
  | nil => rfl
  | cons x xs ih => simp [ndCells] at ih ⊢; omega
theorem ndCells_snoc (ns : List NodeV) (x : NodeV) : ndCells (ns ++ [x]) = ndCells ns ++ [.int .i64 x.kind, .int .i64 x.num, .string x.name, .int .i64 x.kids] := by simp [ndCells]
theorem ndCells_get (ns : List NodeV) (i : Nat) (h : i < ns.length) : (ndCells ns)[i * 4]? = some (.int .i64 ns[i].kind) ∧ (ndCells ns)[i * 4 + 1]? = some (.int .i64 ns[i].num) ∧ (ndCells ns)[i * 4 + 2]? = some (.string ns[i].name) ∧ (ndCells ns)[i * 4 + 3]? = some (.int .i64 ns[i].kids) := by
  induction ns generalizing i with
  | nil => simp at h
  | cons x xs ih =>
    cases i with
    | zero => simp [ndCells]
    | succ i =>
      have := ih i (by simpa using h)
      have e : ndCells (x :: xs) = [.int .i64 x.kind, .int .i64 x.num, .string x.name, .int .i64 x.kids] ++ ndCells xs := by simp [ndCells]
      rw [e, show (i + 1) * 4 = i * 4 + 1 + 1 + 1 + 1 by omega]
      simpa using this
theorem ndCells_app (xs ys : List NodeV) : ndCells (xs ++ ys) = ndCells xs ++ ndCells ys := by simp [ndCells]
/-- a row of nodes, at or above a block, that one may append to -/
def NdRow (B : Nat) (w : World) (v : Value) (ns : List NodeV) : Prop := w.ownsRow B 49 4 v ns.length (ndCells ns)
theorem NdRow.nil (B : Nat) (w : World) : NdRow B w (.slice none 0 0) [] := ⟨rfl, .inl ⟨rfl, rfl⟩⟩
theorem NdRow.slice {B : Nat} {w : World} {v : Value} {ns : List NodeV} (h : NdRow B w v ns) : ∃ a c, v = .slice a ns.length c := by
  rcases h.2 with ⟨rfl, h0⟩ | ⟨g, cap, cur, rfl, _⟩
  · rw [h0]; exact ⟨_, _, rfl⟩
  · exact ⟨_, _, rfl⟩
theorem NdRow.rd {B : Nat} {w : World} {v : Value} {ns : List NodeV} (h : NdRow B w v ns) : ∃ a c, v = .slice a ns.length c ∧ NodesIn w a ns := by
  have hh : w.ownsRow B 49 4 v ns.length (ndCells ns) := h
  rcases h with ⟨_, ⟨rfl, h0⟩ | ⟨g, cap, cur, rfl, hB, hg, hnc, _⟩⟩
  · have : ns = [] := List.eq_nil_of_length_eq_zero h0
    subst this
    exact ⟨none, 0, rfl, .inl rfl⟩
  · refine ⟨some ⟨g, 0, none⟩, cap, rfl, .inr ⟨g, 0, rfl, (Array.getElem?_eq_some_iff.1 hg).1, fun i hi => ?_⟩⟩
    obtain ⟨e0, e1, e2, e3⟩ := ndCells_get ns i hi
    refine ⟨?_, ?_, ?_, ?_⟩
    · rw [Nat.zero_add, hh.cellAt _ (by omega)]; exact e0
    · rw [Nat.zero_add, hh.cellAt _ (by omega)]; exact e1
    · rw [Nat.zero_add, hh.cellAt _ (by omega)]; exact e2
    · rw [Nat.zero_add, hh.cellAt _ (by omega)]; exact e3
theorem NdRow.ge {B : Nat} {w : World} {v : Value} {ns : List NodeV} (h : NdRow B w v ns) : ∀ g, v.ownBlock = some g → B ≤ g := by
  intro g hg
  rcases h.2 with ⟨rfl, _⟩ | ⟨g', cap, cur, rfl, hB, _⟩
  · simp [Value.ownBlock] at hg
  · simp [Value.ownBlock] at hg; omega
theorem NdRow.lt {B : Nat} {w : World} {v : Value} {ns : List NodeV} (h : NdRow B w v ns) : ∀ g, v.ownBlock = some g → g < w.heap.size := by
  intro g hg
  rcases h.2 with ⟨rfl, _⟩ | ⟨g', cap, cur, rfl, hB, hh, _⟩
  · simp [Value.ownBlock] at hg
  · simp [Value.ownBlock] at hg; rw [← hg]; exact (Array.getElem?_eq_some_iff.1 hh).1
theorem NdRow.keep {B : Nat} {w w' : World} {v : Value} {ns : List NodeV} (h : NdRow B w v ns) (hk : ∀ g, v.ownBlock = some g → w'.heap[g]? = w.heap[g]?) : NdRow B w' v ns := by
  refine ⟨h.1, ?_⟩
  rcases h.2 with h0 | ⟨g, cap, cur, e, hB, hg, r⟩
  · exact .inl h0
  · exact .inr ⟨g, cap, cur, e, hB, (hk g (by rw [e]; rfl)).trans hg, r⟩
theorem NdRow.up {B : Nat} {w w' : World} {v : Value} {ns : List NodeV} (h : NdRow B w v ns) (hb : Below w.heap.size w w') : NdRow B w' v ns := h.keep (fun g hg => hb.block g (h.lt g hg))
theorem NdRow.mono {B B' : Nat} {w : World} {v : Value} {ns : List NodeV} (h : NdRow B w v ns) (hB : B' ≤ B) : NdRow B' w v ns := by
  refine ⟨h.1, ?_⟩
  rcases h.2 with h0 | ⟨g, cap, cur, e, hb, r⟩
  · exact .inl h0
  · exact .inr ⟨g, cap, cur, e, Nat.le_trans hB hb, r⟩
theorem infoNd : (Tryz.prog.info? 49).map (fun i => (i.zero, i.size, i.bytes)) = some (some (.agg #[.int .i64 0, .int .i64 0, .string ByteArray.empty, .int .i64 0]), 4, 40) := by kernel_rfl
theorem news_node {w : World} {g : Nat} {x : NodeV} (c0 : w.cell? ⟨g, 0, none⟩ = some (.int .i64 x.kind)) (c1 : w.cell? ⟨g, 1, none⟩ = some (.int .i64 x.num)) (c2 : w.cell? ⟨g, 2, none⟩ = some (.string x.name)) (c3 : w.cell? ⟨g, 3, none⟩ = some (.int .i64 x.kids)) : ∀ j u, ([.int .i64 x.kind, .int .i64 x.num, .string x.name, .int .i64 x.kids] : List Value)[j]? = some u → w.cell? ((⟨g, 0, none⟩ : Addr).add j) = some u := by
  intro j u hj
  match j, hj with
  | 0, hj => simp at hj; subst hj; simpa [Addr.add] using c0
  | 1, hj => simp at hj; subst hj; simpa [Addr.add] using c1
  | 2, hj => simp at hj; subst hj; simpa [Addr.add] using c2
  | 3, hj => simp at hj; subst hj; simpa [Addr.add] using c3
/-- one more node, which lies in a block of its own -/
theorem wpList_ndAppend {w : World} {ops : Array Oper} {rest : List Oper} {o : Oper} {a : Act} {Q : Exit → Act → World → Prop} (hgd : o.guard = none) (s x : Operand)
    (ho : o.op = .call { callee := .builtin .append, args := #[s, x], argTypes := #[31, 31] }) (B : Nat) (v : Value) (ns : List NodeV) (y : NodeV) (g : Nat) (hs : a.eval s = v) (hx : a.eval x = .slice (some ⟨g, 0, none⟩) 1 1)
    (hv : NdRow B w v ns) (c0 : w.cell? ⟨g, 0, none⟩ = some (.int .i64 y.kind)) (c1 : w.cell? ⟨g, 1, none⟩ = some (.int .i64 y.num)) (c2 : w.cell? ⟨g, 2, none⟩ = some (.string y.name)) (c3 : w.cell? ⟨g, 3, none⟩ = some (.int .i64 y.kids)) (hl : ns.length ≤ 1000000) (hB : B ≤ w.heap.size)
    (h : ∀ g' n c w', NdRow B w' (.slice (some ⟨g', 0, none⟩) n c) (ns ++ [y]) → w.grownBy w' v.ownBlock → (v.ownBlock = some g' ∨ g' = w.heap.size) → wpList Tryz.prog ops Q rest (a.put o.dst (.slice (some ⟨g', 0, none⟩) n c)) w') : wpList Tryz.prog ops Q (o :: rest) a w := by
  obtain ⟨i0, hi, hz0, hz1, hz2⟩ := info_parts1 infoNd
  refine wpList_append_lies w hgd s x 31 ho B 49 i0 _ 4 40 Tryz.underlying31 hi hz0 hz1 hz2 rfl (by decide) v ns.length (ndCells ns) hs hv ⟨g, 0, none⟩ 1 1 [.int .i64 y.kind, .int .i64 y.num, .string y.name, .int .i64 y.kids] hx rfl (news_node c0 c1 c2 c3) (by intro u hu; simp at hu; rcases hu with rfl | rfl | rfl | rfl <;> rfl) (by decide) (by unfold maxLen; omega) (by omega) hB w.heap.size rfl ?_
  intro g' cap w' h2 h3 h4 h5
  refine h g' _ cap w' ?_ h3 h4
  unfold NdRow
  rw [ndCells_snoc, List.length_append]
  exact h2
/-- more nodes, out of a list that is read: a run of append -/
theorem ndSpread_run (B : Nat) (w : World) (v : Value) (ns ys : List NodeV) (au : Option Addr) (cu : Nat) (hv : NdRow B w v ns) (hu : NodesIn w au ys) (hl : ns.length + ys.length ≤ 1000000) (hB : B ≤ w.heap.size) (ty : TypeId) :
    ∃ a c w', (Builtin.append_ #[31, 31] ty #[v, .slice au ys.length cu]).run Tryz.prog w = .ok (.slice a (ns.length + ys.length) c) w' ∧ NdRow B w' (.slice a (ns.length + ys.length) c) (ns ++ ys) ∧ w.grownBy w' v.ownBlock := by
  obtain ⟨i0, hi, hz0, hz1, hz2⟩ := info_parts1 infoNd
  by_cases h0 : ys = []
  · subst h0
    cases au with
    | none =>
      obtain ⟨a, c, rfl⟩ := hv.slice
      exact ⟨a, c, w, run_append_none B _ ty _ i0 4 cu Tryz.underlying31 hi _ _ _ hv, by simpa using hv, grown_self _ _⟩
    | some ad =>
      obtain ⟨a, c, rfl⟩ := hv.slice
      exact ⟨a, c, w, run_append_zero B _ ty _ i0 4 cu ad Tryz.underlying31 hi _ _ _ hv, by simpa using hv, grown_self _ _⟩
  · have hpos : 0 < ys.length := List.length_pos_iff.2 h0
    rcases hu with hx | ⟨g, off, rfl, hgl, hx⟩
    · exact absurd hx h0
    · obtain ⟨g', cap', w', h1, h2, h3, _, _⟩ := run_append_lies (P := Tryz.prog) (w := w) 31 ty B 49 i0 _ 4 40 Tryz.underlying31 hi hz0 hz1 hz2 rfl (by decide) v ns.length (ndCells ns) hv ⟨g, off, none⟩ ys.length cu (ndCells ys) (ndCells_len ys) (fun j x hj => by
        have hj' := (List.getElem?_eq_some_iff.1 hj).1
        rw [ndCells_len] at hj'
        obtain ⟨q, r, e, hr⟩ : ∃ q r, j = q * 4 + r ∧ r < 4 := ⟨j / 4, j % 4, by omega, by omega⟩
        have hq : q < ys.length := by omega
        obtain ⟨d0, d1, d2, d3⟩ := hx q hq
        obtain ⟨e0, e1, e2, e3⟩ := ndCells_get ys q hq
        have key : ∀ p u, j = q * 4 + p → (ndCells ys)[q * 4 + p]? = some u → w.cell? ⟨g, off + (q * 4 + p), none⟩ = some u → w.cell? ((⟨g, off, none⟩ : Addr).add j) = some x := fun p u h1 h2 h3 => by
          rw [h1, h2] at hj
          have hxu : u = x := Option.some.inj hj
          subst hxu
          rw [h1]
          generalize q * 4 + p = m at *
          by_cases hz : m = 0
          · subst hz; simpa [Addr.add] using h3
          · simpa [Addr.add, hz] using h3
        rcases (show r = 0 ∨ r = 1 ∨ r = 2 ∨ r = 3 by omega) with rfl | rfl | rfl | rfl
        · exact key 0 _ e e0 (by simpa using d0)
        · exact key 1 _ e e1 (by simpa [Nat.add_assoc] using d1)
        · exact key 2 _ e e2 (by simpa [Nat.add_assoc] using d2)
        · exact key 3 _ e e3 (by simpa [Nat.add_assoc] using d3)) (fun x hx' => by
        unfold ndCells at hx'
        obtain ⟨y, _, hy⟩ := List.mem_flatMap.1 hx'
        simp at hy
        rcases hy with rfl | rfl | rfl | rfl <;> rfl) hpos (by unfold maxLen; omega) (by omega) hB w.heap.size rfl
      refine ⟨some ⟨g', 0, none⟩, cap', w', h1, ?_, h3⟩
      unfold NdRow
      rw [List.length_append, ndCells_app]
      exact h2
theorem wpList_ndSpread {w : World} {ops : Array Oper} {rest : List Oper} {o : Oper} {a : Act} {Q : Exit → Act → World → Prop} (hgd : o.guard = none) (s x : Operand)
    (ho : o.op = .call { callee := .builtin .append, args := #[s, x], argTypes := #[31, 31] }) (B : Nat) (v : Value) (ns ys : List NodeV) (au : Option Addr) (cu : Nat) (hs : a.eval s = v) (hx : a.eval x = .slice au ys.length cu)
    (hv : NdRow B w v ns) (hu : NodesIn w au ys) (hl : ns.length + ys.length ≤ 1000000) (hB : B ≤ w.heap.size)
    (h : ∀ a' c w', NdRow B w' (.slice a' (ns.length + ys.length) c) (ns ++ ys) → w.grownBy w' v.ownBlock → wpList Tryz.prog ops Q rest (a.put o.dst (.slice a' (ns.length + ys.length) c)) w') : wpList Tryz.prog ops Q (o :: rest) a w := by
  obtain ⟨a', c, w', h1, h2, h3⟩ := ndSpread_run B w v ns ys au cu hv hu hl hB o.type
  refine wpList_plain hgd fun K hK => ?_
  unfold Oper.wp execOp
  simp only [ho, resolve, invoke, builtin, Sem.run_bind, Sem.run_pure, Result.andThen_ok, List.map_toArray, List.map_cons, List.map_nil, hs, hx, h1]
  exact hK _ _ (h a' _ w' h2 h3)
end Go.Proofs.YtjfebnplffpmoaaGreatDoor

set_option linter.unusedVariables false
namespace Go.Proofs.YtjfebnplffpmoaaGreatDoor
open Go.RowKit Go.Maps Go.Deep

theorem BoxF.triR {w : World} {g : Nat} {a b c : Value} (h : BoxF w g [a, b, c]) : (w.cell? ⟨g, 0, none⟩ = some a ∧ w.cell? ⟨g, 1, none⟩ = some b ∧ w.cell? ⟨g, 2, none⟩ = some c) ∧ (w.frozen? ⟨g, 0, none⟩ = false ∧ w.frozen? ⟨g, 1, none⟩ = false ∧ w.frozen? ⟨g, 2, none⟩ = false) :=
  ⟨⟨h.1.at 0 _ rfl, h.1.at 1 _ rfl, h.1.at 2 _ rfl⟩, h.2 0 (by simp), h.2 1 (by simp), h.2 2 (by simp)⟩
/-- the reader's box: the words, the place, and whether it has failed -/
structure PrS (ws : List WordV) (w : World) (pb : Nat) (a : Option Addr) (c n : Nat) (b : Bool) : Prop where
  box : BoxF w pb [.slice a ws.length c, .int .i64 (n : Int), .bool b]
  words : WordIn w a ws
  le : n ≤ ws.length
  len : ws.length ≤ 400000
  apart : ∀ g o, a = some ⟨g, o, none⟩ → g ≠ pb
theorem PrS.turn {ws : List WordV} {w w' : World} {pb : Nat} {a : Option Addr} {c n : Nat} {b : Bool} {S : List Nat} (h : PrS ws w pb a c n b) (t : Turn S w w') (h1 : pb ∉ S) (h2 : ∀ g o, a = some ⟨g, o, none⟩ → g ∉ S) : PrS ws w' pb a c n b := by
  refine ⟨h.box.turn t h1, ?_, h.le, h.len, h.apart⟩
  rcases h.words with h0 | ⟨g, o, e, hg, hc⟩
  · exact .inl h0
  · exact .inr ⟨g, o, e, Nat.lt_of_lt_of_le hg t.size, hc.turn t hg (h2 g o e)⟩
theorem PrS.up {ws : List WordV} {w w' : World} {pb : Nat} {a : Option Addr} {c n : Nat} {b : Bool} (h : PrS ws w pb a c n b) (t : Below w.heap.size w w') : PrS ws w' pb a c n b := h.turn (Turn.of_below (S := []) t) (by simp) (by simp)
/-- the words in memory, at the reader's place -/
theorem PrS.cell {ws : List WordV} {w : World} {pb : Nat} {a : Option Addr} {c n : Nat} {b : Bool} (h : PrS ws w pb a c n b) (hn : n < ws.length) : ∃ g o, a = some ⟨g, o, none⟩ ∧ g < w.heap.size ∧ w.cell? ⟨g, o + n * 3, none⟩ = some (.int .i64 ws[n].a0) ∧ w.cell? ⟨g, o + n * 3 + 1, none⟩ = some (.string ws[n].a1) ∧ w.cell? ⟨g, o + n * 3 + 2, none⟩ = some (.int .i64 ws[n].a2) := by
  rcases h.words with h0 | ⟨g, o, e, hg, hc⟩
  · rw [h0] at hn; simp at hn
  · obtain ⟨c0, c1, c2⟩ := hc n hn
    exact ⟨g, o, e, hg, c0, c1, c2⟩
def textB (ws : List WordV) (n : Nat) (b : Bool) : ByteArray := if b then ⟨#[]⟩ else txt ws n
/-- the box behind a step: the place, and whether it failed -/
theorem PrS.step {ws : List WordV} {w : World} {pb : Nat} {a : Option Addr} {c n : Nat} (h : PrS ws w pb a c n false) (hn : n < ws.length) : PrS ws (w.setCell ⟨pb, 1, none⟩ (.int .i64 ((n : Int) + 1))) pb a c (n + 1) false ∧ Turn [pb] w (w.setCell ⟨pb, 1, none⟩ (.int .i64 ((n : Int) + 1))) := by
  have t := (Turn.refl [pb] w).setCell (g := pb) (by simp) 1 (.int .i64 ((n : Int) + 1))
  refine ⟨⟨?_, ?_, hn, h.len, h.apart⟩, t⟩
  · have := h.box.set 1 (.int .i64 ((n : Int) + 1)) (by simp)
    simpa [List.set] using this
  · rcases h.words with h0 | ⟨g, o, e, hg, hc⟩
    · exact .inl h0
    · exact .inr ⟨g, o, e, Nat.lt_of_lt_of_le hg t.size, hc.turn t hg (by simpa using h.apart g o e)⟩
theorem PrS.fail {ws : List WordV} {w : World} {pb : Nat} {a : Option Addr} {c n : Nat} {b : Bool} (h : PrS ws w pb a c n b) : PrS ws (w.setCell ⟨pb, 2, none⟩ (.bool true)) pb a c n true ∧ Turn [pb] w (w.setCell ⟨pb, 2, none⟩ (.bool true)) := by
  have t := (Turn.refl [pb] w).setCell (g := pb) (by simp) 2 (.bool true)
  refine ⟨⟨?_, ?_, h.le, h.len, h.apart⟩, t⟩
  · have := h.box.set 2 (.bool true) (by simp)
    simpa [List.set] using this
  · rcases h.words with h0 | ⟨g, o, e, hg, hc⟩
    · exact .inl h0
    · exact .inr ⟨g, o, e, Nat.lt_of_lt_of_le hg t.size, hc.turn t hg (by simpa using h.apart g o e)⟩
theorem str_sameR (a b : ByteArray) : (a.toList == b.toList) = decide (a = b) := str_eq a b
/-- take: the box behind it -/
def takeB (ws : List WordV) (s : ByteArray) (n : Nat) (b : Bool) : Bool := !b && decide (txt ws n = s)
def takeN (ws : List WordV) (s : ByteArray) (n : Nat) (b : Bool) : Nat := if takeB ws s n b then n + 1 else n
end Go.Proofs.YtjfebnplffpmoaaGreatDoor

set_option linter.unusedVariables false
namespace Go.Proofs.YtjfebnplffpmoaaGreatDoor
open Go.RowKit Go.Maps Go.Deep

theorem str_litR (s : ByteArray) (l : List UInt8) : (s.toList == l) = decide (s = ⟨l.toArray⟩) := by
  have := str_sameR s ⟨l.toArray⟩
  rw [ByteArray.toList_eq ⟨l.toArray⟩] at this
  simpa using this
def nameO (ws : List WordV) (n : Nat) (b : Bool) : Option ByteArray := if b then none else match ws[n]? with
  | some x => if x.a0 = 2 then some x.a1 else none
  | none => none
theorem PrS.cellW {ws : List WordV} {w : World} {pb : Nat} {a : Option Addr} {c n m : Nat} {b : Bool} (h : PrS ws w pb a c m b) (hn : n < ws.length) : ∃ g o, a = some ⟨g, o, none⟩ ∧ g < w.heap.size ∧ w.cell? ⟨g, o + n * 3, none⟩ = some (.int .i64 ws[n].a0) ∧ w.cell? ⟨g, o + n * 3 + 1, none⟩ = some (.string ws[n].a1) ∧ w.cell? ⟨g, o + n * 3 + 2, none⟩ = some (.int .i64 ws[n].a2) := by
  rcases h.words with h0 | ⟨g, o, e, hg, hc⟩
  · rw [h0] at hn; simp at hn
  · obtain ⟨c0, c1, c2⟩ := hc n hn
    exact ⟨g, o, e, hg, c0, c1, c2⟩
def RetNm (ws : List WordV) (pb : Nat) (a : Option Addr) (c n : Nat) (o : Option ByteArray) (w : World) (e : Ending) (w' : World) : Prop := match o with
  | some s => e = .returned (.string s) ∧ Hid (PrS ws w' pb a c (n + 1) false) ∧ Hid (Turn [pb] w w')
  | none => e = .returned (.string ⟨#[]⟩) ∧ Hid (PrS ws w' pb a c n true) ∧ Hid (Turn [pb] w w')
theorem ndLit (w : World) (B : Nat) (hB : B ≤ w.heap.size) : NdRow B (w.alloc (.cells #[] 49)) (.slice (some ⟨w.heap.size, 0, none⟩) 0 0) [] :=
  World.ownsRow_lit (size := 4) w #[] 0 hB (by unfold maxLen; omega) rfl
def nodeAgg (x : NodeV) : Value := .agg #[.int .i64 x.kind, .int .i64 x.num, .string x.name, .int .i64 x.kids]
theorem boxF_newN (w : World) (a b c d : Value) (T : TypeId) : BoxF (w.alloc (.cells #[a, b, c, d] T)) w.heap.size [a, b, c, d] := boxF_new w [a, b, c, d] T
theorem BoxF.fourN {w : World} {g : Nat} {a b c d : Value} (h : BoxF w g [a, b, c, d]) : (w.cell? ⟨g, 0, none⟩ = some a ∧ w.cell? ⟨g, 1, none⟩ = some b ∧ w.cell? ⟨g, 2, none⟩ = some c ∧ w.cell? ⟨g, 3, none⟩ = some d) := ⟨h.1.at 0 _ rfl, h.1.at 1 _ rfl, h.1.at 2 _ rfl, h.1.at 3 _ rfl⟩
/-- a slice of nodes that is read -/
def NdIn (w : World) (v : Value) (ns : List NodeV) : Prop := ∃ a c, v = .slice a ns.length c ∧ NodesIn w a ns
theorem NodesIn.up {w w' : World} {a : Option Addr} {ns : List NodeV} (h : NodesIn w a ns) (b : Below w.heap.size w w') : NodesIn w' a ns := by
  rcases h with h | ⟨g, o, e, hg, hc⟩
  · exact .inl h
  · refine .inr ⟨g, o, e, Nat.lt_of_lt_of_le hg b.size, fun i hi => ?_⟩
    obtain ⟨h0, h1, h2, h3⟩ := hc i hi
    exact ⟨(b.cell (by exact hg)).trans h0, (b.cell (by exact hg)).trans h1, (b.cell (by exact hg)).trans h2, (b.cell (by exact hg)).trans h3⟩
theorem NdRow.in {B : Nat} {w : World} {v : Value} {ns : List NodeV} (h : NdRow B w v ns) : NdIn w v ns := h.rd
theorem NdIn.nil (w : World) : NdIn w (.slice none 0 0) [] := ⟨none, 0, rfl, .inl rfl⟩
theorem nd_len {B : Nat} {w : World} {a : Option Addr} {n c : Nat} {ns : List NodeV} (h : NdRow B w (.slice a n c) ns) : n = ns.length := by
  obtain ⟨_, _, e⟩ := h.slice
  injection e
theorem below_gr {B : Nat} {w w' : World} {b : Option Nat} (hb : w.grownBy w' b) (hB : B ≤ w.heap.size) (hx : ∀ y, b = some y → B ≤ y) : Below B w w' := (Below.refl B w).grown hb hB hx
theorem decVal_takeR (s : ByteArray) (k : Nat) (h : k < s.size) : numTextV.decVal (s.data.toList.take (k + 1)) = 10 * numTextV.decVal (s.data.toList.take k) + (s[k].toNat - 48) := by
  rw [List.take_succ_eq_append_getElem (by simpa using h), decVal_snoc]
  simp [ByteArray.getElem_eq_getElem_data]
end Go.Proofs.YtjfebnplffpmoaaGreatDoor
