/-
  Lists of rows of bytes: for reading and of one's own; the laws' helpers over them: compared, marked, held against their marks; the same of who listens.
-/
/-
  Three boxes of a call: two arguments and an answer.
-/
import Derived.Test.YtlgmmibncoedgaaBsRows
import Derived.Test.YtlgmmibncoedgaaMerged9
import Derived.Test.YtlgmmibncoedgaaMerged5
import Derived.Test.YtlgmmibncoedgaaBoxes
set_option linter.unusedVariables false
namespace Go.Proofs.Ytlgmmibncoedgaa
open Go.RowKit Go.Maps Go.Deep

def BssAt (w : World) (b off : Nat) (ns : List (List UInt8)) : Prop := ∀ i (h : i < ns.length), ∃ v, w.cell? ⟨b, off + i, none⟩ = some v ∧ ByRd w v ns[i]
def ByteSSRd (w : World) (v : Value) (ns : List (List UInt8)) : Prop := ∃ a c, v = .slice a ns.length c ∧ (ns = [] ∨ ∃ b off, a = some ⟨b, off, none⟩ ∧ b < w.heap.size ∧ BssAt w b off ns)
theorem BssAt.up {w w' : World} {b off : Nat} {ns : List (List UInt8)} (h : BssAt w b off ns) (hb : b < w.heap.size) (hB : Below w.heap.size w w') : BssAt w' b off ns := fun i hi => by
  obtain ⟨v, c, hv⟩ := h i hi
  exact ⟨v, (hB.cell (p := ⟨b, off + i, none⟩) hb).trans c, hv.up hB⟩
theorem ByteSSRd.up {w w' : World} {v : Value} {ns : List (List UInt8)} (h : ByteSSRd w v ns) (hb : Below w.heap.size w w') : ByteSSRd w' v ns := by
  obtain ⟨a, c, rfl, h⟩ := h
  rcases h with h | ⟨b, off, rfl, hl, h⟩
  · exact ⟨a, c, rfl, .inl h⟩
  · exact ⟨_, c, rfl, .inr ⟨b, off, rfl, Nat.lt_of_lt_of_le hl hb.size, h.up hl hb⟩⟩
theorem ByteSSRd.form {w : World} {v : Value} {ns : List (List UInt8)} (h : ByteSSRd w v ns) : ∃ a n c, v = .slice a n c := by
  obtain ⟨a, c, rfl, h⟩ := h
  exact ⟨a, _, c, rfl⟩
structure BssOwn (S : List Nat) (w : World) (b off n : Nat) (f : Nat → List UInt8) (G : Nat → List Nat) (vs : Nat → Value) : Prop where
  mem : b ∈ S
  sub : ∀ i, i < n → ∀ k ∈ G i, k ∈ S
  apart : ∀ i j, i < n → j < n → i ≠ j → ∀ k ∈ G i, k ∉ G j
  off' : ∀ i, i < n → b ∉ G i
  cell : ∀ i, i < n → w.cell? ⟨b, off + i, none⟩ = some (vs i)
  own : ∀ i, i < n → ByOwn (G i) w (vs i) (f i)
def ByteSSOwn (S : List Nat) (w : World) (v : Value) (ns : List (List UInt8)) : Prop :=
  ∃ a c, v = .slice a ns.length c ∧ (∀ k ∈ S, k < w.heap.size) ∧ (ns = [] ∨ ∃ b off G vs, a = some ⟨b, off, none⟩ ∧ BssOwn S w b off ns.length (fun i => ns.getD i []) G vs)
theorem getD_at (ns : List (List UInt8)) (i : Nat) (h : i < ns.length) : ns.getD i [] = ns[i] := by simp [h]
theorem BssOwn.turn {S S' : List Nat} {w w' : World} {b off n : Nat} {f : Nat → List UInt8} {G : Nat → List Nat} {vs : Nat → Value} (h : BssOwn S w b off n f G vs) (hl : ∀ k ∈ S, k < w.heap.size) (ht : Turn S' w w') (hS : ∀ k ∈ S, k ∉ S') : BssOwn S w' b off n f G vs :=
  ⟨h.mem, h.sub, h.apart, h.off', fun i hi => (ht.cell (hl b h.mem) (hS b h.mem)).trans (h.cell i hi), fun i hi => (h.own i hi).turn ht (fun k hk => hS k (h.sub i hi k hk))⟩
theorem ByteSSOwn.rd {S : List Nat} {w : World} {v : Value} {ns : List (List UInt8)} (h : ByteSSOwn S w v ns) : ByteSSRd w v ns := by
  obtain ⟨a, c, rfl, hl, h⟩ := h
  rcases h with h | ⟨b, off, G, vs, rfl, h⟩
  · exact ⟨a, c, rfl, .inl h⟩
  · refine ⟨_, c, rfl, .inr ⟨b, off, rfl, hl b h.mem, fun i hi => ⟨vs i, h.cell i hi, ?_⟩⟩⟩
    have := (h.own i hi).rd
    rwa [getD_at ns i hi] at this
theorem ByteSSOwn.lt {S : List Nat} {w : World} {v : Value} {ns : List (List UInt8)} (h : ByteSSOwn S w v ns) : ∀ k ∈ S, k < w.heap.size := by
  obtain ⟨a, c, rfl, hl, h⟩ := h
  exact hl
theorem ByteSSOwn.turn {S S' : List Nat} {w w' : World} {v : Value} {ns : List (List UInt8)} (h : ByteSSOwn S w v ns) (ht : Turn S' w w') (hS : ∀ k ∈ S, k ∉ S') : ByteSSOwn S w' v ns := by
  obtain ⟨a, c, rfl, hl, h⟩ := h
  refine ⟨a, c, rfl, fun k hk => Nat.lt_of_lt_of_le (hl k hk) ht.size, ?_⟩
  rcases h with h | ⟨b, off, G, vs, rfl, h⟩
  · exact .inl h
  · exact .inr ⟨b, off, G, vs, rfl, h.turn hl ht hS⟩
theorem ByteSSOwn.up {S : List Nat} {w w' : World} {v : Value} {ns : List (List UInt8)} (h : ByteSSOwn S w v ns) (hb : Below w.heap.size w w') : ByteSSOwn S w' v ns := h.turn (Turn.of_below (S := []) hb) (by simp)
def SmallByteSS (ns : List (List UInt8)) : Prop := ns.length ≤ 10000 ∧ ∀ x ∈ ns, x.length ≤ 260
def sumTo (ns : List (List UInt8)) (j : Nat) : Nat := ((ns.take j).map List.length).sum
def nByteSS (ns : List (List UInt8)) : Nat := sumTo ns ns.length
theorem sumTo_succ (ns : List (List UInt8)) (j : Nat) (h : j < ns.length) : sumTo ns (j + 1) = sumTo ns j + ns[j].length := by
  unfold sumTo
  rw [List.take_succ_eq_append_getElem h, List.map_append, List.sum_append]
  simp only [List.map_cons, List.map_nil, List.sum_cons, List.sum_nil, Nat.add_zero]
theorem sumTo_le {ns : List (List UInt8)} (h : SmallByteSS ns) : ∀ j, j ≤ ns.length → sumTo ns j ≤ j * 260 := by
  intro j
  induction j with
  | zero => intro _; simp [sumTo]
  | succ j ih =>
    intro hj
    have := ih (by omega)
    have h1 := h.2 ns[j] (List.getElem_mem (by omega))
    rw [sumTo_succ ns j (by omega)]
    omega
theorem nByteSS_le {ns : List (List UInt8)} (h : SmallByteSS ns) : nByteSS ns ≤ 100000000 := by
  have := sumTo_le h ns.length (Nat.le_refl _)
  have := h.1
  unfold nByteSS
  omega
end Go.Proofs.Ytlgmmibncoedgaa

set_option linter.unusedVariables false
namespace Go.Proofs.Ytlgmmibncoedgaa
open Go.RowKit Go.Maps

theorem boxes3 (w : World) (A B C : List Value) (TA TB TC : TypeId) :
    BoxF (((w.alloc (.cells A.toArray TA)).alloc (.cells B.toArray TB)).alloc (.cells C.toArray TC)) w.heap.size A ∧ BoxF (((w.alloc (.cells A.toArray TA)).alloc (.cells B.toArray TB)).alloc (.cells C.toArray TC)) (w.heap.size + 1) B ∧ BoxF (((w.alloc (.cells A.toArray TA)).alloc (.cells B.toArray TB)).alloc (.cells C.toArray TC)) (w.heap.size + 2) C ∧ Below w.heap.size w (((w.alloc (.cells A.toArray TA)).alloc (.cells B.toArray TB)).alloc (.cells C.toArray TC)) ∧ (((w.alloc (.cells A.toArray TA)).alloc (.cells B.toArray TB)).alloc (.cells C.toArray TC)).heap.size = w.heap.size + 3 := by
  have a1 := boxF_new w A TA
  have b1 := (Below.refl w.heap.size w).alloc (Nat.le_refl _) (.cells A.toArray TA)
  have z1 : (w.alloc (.cells A.toArray TA)).heap.size = w.heap.size + 1 := by simp
  generalize w.alloc (.cells A.toArray TA) = w1 at *
  have a2 := boxF_new w1 B TB
  have u2 := (Below.refl w1.heap.size w1).alloc (Nat.le_refl _) (.cells B.toArray TB)
  have z2 : (w1.alloc (.cells B.toArray TB)).heap.size = w1.heap.size + 1 := by simp
  generalize w1.alloc (.cells B.toArray TB) = w2 at *
  have a3 := boxF_new w2 C TC
  have u3 := (Below.refl w2.heap.size w2).alloc (Nat.le_refl _) (.cells C.toArray TC)
  have z3 : (w2.alloc (.cells C.toArray TC)).heap.size = w2.heap.size + 1 := by simp
  generalize w2.alloc (.cells C.toArray TC) = w3 at *
  refine ⟨(a1.up u2).up u3, ?_, ?_, (b1.trans (u2.mono (by omega))).trans (u3.mono (by omega)), by omega⟩
  · rw [← z1]; exact a2.up u3
  · rw [show w.heap.size + 2 = w2.heap.size by omega]; exact a3
end Go.Proofs.Ytlgmmibncoedgaa
