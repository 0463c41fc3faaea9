/-
  One item for reading and of one's own, as an argument or an answer of a law.
-/
import Derived.Test.YtnnhdgaokifcoaaItemMarks
set_option linter.unusedVariables false
namespace Go.Proofs.Ytnnhdgaokifcoaa
open Go.RowKit Go.Maps Go.Deep

def ItemRd (w : World) (v : Value) (x : ItemV) : Prop := ∃ u, v = .agg #[.int .i64 x.a0, u] ∧ MarkSRd w u x.a1
def ItemOwn (S : List Nat) (w : World) (v : Value) (x : ItemV) : Prop := ∃ u, v = .agg #[.int .i64 x.a0, u] ∧ MarkSOwn S w u x.a1
theorem ItemRd.form {w : World} {v : Value} {x : ItemV} (h : ItemRd w v x) : ∃ z a n c, v = .agg #[.int .i64 z, .slice a n c] := by
  obtain ⟨u, rfl, h⟩ := h
  obtain ⟨a, n, c, rfl⟩ := h.form
  exact ⟨_, a, n, c, rfl⟩
theorem ItemRd.up {w w' : World} {v : Value} {x : ItemV} (h : ItemRd w v x) (hb : Below w.heap.size w w') : ItemRd w' v x := by
  obtain ⟨u, rfl, h⟩ := h
  exact ⟨u, rfl, h.up hb⟩
theorem ItemOwn.rd {S : List Nat} {w : World} {v : Value} {x : ItemV} (h : ItemOwn S w v x) : ItemRd w v x := by
  obtain ⟨u, rfl, h⟩ := h
  exact ⟨u, rfl, h.rd⟩
theorem ItemOwn.turn {S S' : List Nat} {w w' : World} {v : Value} {x : ItemV} (h : ItemOwn S w v x) (ht : Turn S' w w') (hS : ∀ k ∈ S, k ∉ S') : ItemOwn S w' v x := by
  obtain ⟨u, rfl, h⟩ := h
  exact ⟨u, rfl, h.turn ht hS⟩
theorem ItemOwn.up {S : List Nat} {w w' : World} {v : Value} {x : ItemV} (h : ItemOwn S w v x) (hb : Below w.heap.size w w') : ItemOwn S w' v x := by
  obtain ⟨u, rfl, h⟩ := h
  exact ⟨u, rfl, h.up hb⟩
theorem ItemOwn.lt {S : List Nat} {w : World} {v : Value} {x : ItemV} (h : ItemOwn S w v x) : ∀ k ∈ S, k < w.heap.size := by
  obtain ⟨u, rfl, h⟩ := h
  exact h.lt
def nItem (x : ItemV) : Nat := nMarkS x.a1
def marksItem (k : Nat) (x : ItemV) : ItemV := ⟨x.a0, marksMarkS k x.a1⟩
theorem nItem_le {x : ItemV} (h : SmallItem x) : nItem x ≤ 100000000 := nMarkS_le h.2
theorem eqItem_kit (x : ItemV) (v v' : Value) (w : World) (hs : SmallItem x) (h : ItemRd w v x) (h' : ItemRd w v' x) :
    Calls Try.prog 9 #[v, v'] w fun e w' => e = .returned (.bool true) ∧ Below w.heap.size w w' := by
  obtain ⟨u, rfl, h⟩ := h
  obtain ⟨u', rfl, h'⟩ := h'
  exact eqItem_any x.a0 u u' x.a1 w hs.2 h h'
theorem markItem_kit (S : List Nat) (x : ItemV) (v : Value) (w : World) (k n : Nat) (K : Int) (hK : K = (k : Int)) (hn : nItem x = n) (hk : k ≤ 100000000000000) (hs : SmallItem x) (h : ItemOwn S w v x) :
    Calls Try.prog 12 #[v, .int .i64 K] w fun e w' => e = .returned (.int .i64 (K + (n : Int))) ∧ Hid (ItemOwn S w' v (marksItem k x) ∧ Turn S w w') := by
  subst hK hn
  obtain ⟨u, rfl, h⟩ := h
  refine (markItem_any S x.a0 u x.a1 w k (by omega) hs.2 h).mono ?_
  rintro e w' ⟨rfl, h1, h2⟩
  exact ⟨rfl, hide ⟨⟨u, rfl, unhide h1⟩, h2⟩⟩
theorem heldItem_kit (x : ItemV) (v : Value) (w : World) (k n : Nat) (K : Int) (hK : K = (k : Int)) (hn : nItem x = n) (hk : k ≤ 100000000000000) (hs : SmallItem x) (h : ItemRd w v (marksItem k x)) :
    Calls Try.prog 13 #[v, .int .i64 K] w fun e w' => e = .returned (.int .i64 (K + (n : Int))) ∧ Below w.heap.size w w' := by
  subst hK hn
  obtain ⟨u, rfl, h⟩ := h
  exact heldItem_any x.a0 u x.a1 w k (by omega) hs.2 h
theorem szItem_kitL (x : ItemV) (v : Value) (left : Int) (w : World) (h0 : 0 ≤ left) (h1 : left ≤ 1048576) (hf : ItemFit x) (h : ItemRd w v x) :
    Calls Try.prog 14 #[v, .int .i64 left] w fun e w' => ∃ q : Int, e = .returned (.int .i64 q) ∧ q ≤ left ∧ Hid (0 ≤ q → SmallItem x) ∧ Below w.heap.size w w' := by
  obtain ⟨u, rfl, h⟩ := h
  refine (szItem_any x.a0 u x.a1 left w hf.2 h h0 h1).mono ?_
  rintro e w' ⟨r, rfl, h1, h2, h3⟩
  exact ⟨r, rfl, h1, hide (fun h => ⟨hf.1, unhide h2 h⟩), h3⟩
theorem toItem_kit (x : ItemV) (v : Value) (w : World) (hs : SmallItem x) (h : ItemRd w v x) :
    Calls Try.prog 16 #[v] w fun e w' => ∃ v S, e = .returned v ∧ Hid (ItemOwn S w' v x) ∧ Hid (∀ k ∈ S, w.heap.size ≤ k) ∧ Below w.heap.size w w' := by
  obtain ⟨u, rfl, h⟩ := h
  refine (toItem_any x.a0 u x.a1 w hs.2 h).mono ?_
  rintro e w' ⟨g, rfl, h1, h2, h3⟩
  exact ⟨_, [g], rfl, hide ⟨_, rfl, h2⟩, hide (by simpa using h1), h3⟩
abbrev SmallItemF := SmallItemS
theorem szItemF_kit (ns : List ItemV) (v : Value) (w : World) (hf : ItemSFit ns) (h : ItemSRd w v ns) :
    Calls Try.prog 5 #[v, .int .i64 1048576] w fun e w' => ∃ q : Int, e = .returned (.int .i64 q) ∧ Hid (0 ≤ q → SmallItemS ns) ∧ Below w.heap.size w w' := szItemS_kit ns v w hf h
theorem szItemF_kitL (ns : List ItemV) (v : Value) (left : Int) (w : World) (h0 : 0 ≤ left) (h1 : left ≤ 1048576) (hf : ItemSFit ns) (h : ItemSRd w v ns) :
    Calls Try.prog 5 #[v, .int .i64 left] w fun e w' => ∃ q : Int, e = .returned (.int .i64 q) ∧ q ≤ left ∧ Hid (0 ≤ q → SmallItemS ns) ∧ Below w.heap.size w w' := szItemS_kitL ns v left w h0 h1 hf h
theorem eqItemF_kit (ns : List ItemV) (v v' : Value) (w : World) (hs : SmallItemS ns) (h : ItemSRd w v ns) (h' : ItemSRd w v' ns) :
    Calls Try.prog 10 #[v, v'] w fun e w' => e = .returned (.bool true) ∧ Below w.heap.size w w' := eqItemS_kit ns v v' w hs h h'
end Go.Proofs.Ytnnhdgaokifcoaa
