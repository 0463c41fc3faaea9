/-
  A list of nodes that comes in, opened: nil, or a row of nodes in memory. And the law's helpers over it.
-/
/-
  What may turn from one world to another: new blocks, and the listed ones.
-/
/-
  Lists of bytes in memory: for reading, and as rows of one's own; the laws' own helpers over them: how much they hold, how they are copied, compared, marked, and found marked again.
-/
import Derived.Test.YtldgffkippejiaaGreatDoorMerged5
import Derived.Deep.Slices
import Derived.ProofKit
import Derived.Test.YtldgffkippejiaaGreatDoorMerged3
import Derived.Deep.Draws
import Derived.Deep.RegionWith
import Derived.Deep.RegionHeld3
namespace Go.Proofs.YtldgffkippejiaaGreatDoor
open Go.RowKit Go.Maps Go.Deep

/-- a slice value leads to these nodes: empty, or a row of them -/
def NodesIn (w : World) (a : Option Addr) (ns : List NodeV) : Prop :=
  ns = [] ∨ ∃ b off, a = some ⟨b, off, none⟩ ∧ b < w.heap.size ∧ NodesAt w b off ns
def NamesOk (ns : List NodeV) : Prop := ∀ n ∈ ns, n.name.size ≤ maxLen

theorem NodesAt.below {w w' : World} {B b off : Nat} {ns : List NodeV} (h : NodesAt w b off ns) (hb : Below B w w') (hB : b < B) : NodesAt w' b off ns := by
  intro i hi
  obtain ⟨c0, c1, c2, c3⟩ := h i hi
  exact ⟨(hb.cell (by exact hB)).trans c0, (hb.cell (by exact hB)).trans c1, (hb.cell (by exact hB)).trans c2, (hb.cell (by exact hB)).trans c3⟩
theorem NodesIn.below {w w' : World} {a : Option Addr} {ns : List NodeV} (h : NodesIn w a ns) (hb : Below w.heap.size w w') : NodesIn w' a ns := by
  rcases h with h | ⟨b, off, e, hlt, hn⟩
  · exact .inl h
  · exact .inr ⟨b, off, e, Nat.lt_of_lt_of_le hlt hb.size, hn.below hb hlt⟩

theorem cells_int : Tryz.prog.cellsOf 3 = 1 := by kernel_rfl
theorem cells_str : Tryz.prog.cellsOf 9 = 1 := by kernel_rfl

theorem lt_of_cell {w : World} {b off : Nat} {v : Value} (h : w.cell? ⟨b, off, none⟩ = some v) : b < w.heap.size := by
  by_cases hb : b < w.heap.size
  · exact hb
  · exfalso
    have : w.heap[b]? = none := Array.getElem?_eq_none (by omega)
    simp [World.cell?, this] at h

end Go.Proofs.YtldgffkippejiaaGreatDoor

namespace Go.Proofs.YtldgffkippejiaaGreatDoor
open Go.RowKit Go.Maps

/-- new blocks, and writes into the listed blocks alone -/
structure Turn (S : List Nat) (w w' : World) : Prop where
  os : w'.os = w.os
  tape : w'.tape = w.tape
  output : w'.output = w.output
  size : w.heap.size ≤ w'.heap.size
  block : ∀ k, k < w.heap.size → k ∉ S → w'.heap[k]? = w.heap[k]?
theorem Turn.refl (S : List Nat) (w : World) : Turn S w w := ⟨rfl, rfl, rfl, Nat.le_refl _, fun _ _ _ => rfl⟩
theorem Turn.trans {S : List Nat} {a b c : World} (h : Turn S a b) (k : Turn S b c) : Turn S a c :=
  ⟨k.os.trans h.os, k.tape.trans h.tape, k.output.trans h.output, Nat.le_trans h.size k.size, fun i hi hS => (k.block i (Nat.lt_of_lt_of_le hi h.size) hS).trans (h.block i hi hS)⟩
theorem Turn.mono {S S' : List Nat} {a b : World} (h : Turn S a b) (hs : ∀ k ∈ S, k ∈ S' ∨ a.heap.size ≤ k) : Turn S' a b :=
  ⟨h.os, h.tape, h.output, h.size, fun k hk hS => h.block k hk (fun hm => (hs k hm).elim hS (fun e => by omega))⟩
theorem Turn.of_below {S : List Nat} {a b : World} (h : Below a.heap.size a b) : Turn S a b := ⟨h.os, h.tape, h.output, h.size, fun k hk _ => h.block k hk⟩
theorem Turn.below {S : List Nat} {a b : World} (h : Turn S a b) {B : Nat} (hB : B ≤ a.heap.size) (hS : ∀ k ∈ S, B ≤ k) : Below B a b :=
  ⟨h.os, h.tape, h.output, h.size, fun k hk => h.block k (by omega) (fun hm => by have := hS k hm; omega)⟩
theorem Turn.of_grown {S : List Nat} {a b : World} {row : Option Nat} (h : a.grownBy b row) (hr : ∀ k, row = some k → k ∈ S ∨ a.heap.size ≤ k) : Turn S a b :=
  ⟨h.os, h.tape, h.output, h.size, fun k hk hS => h.block k hk (fun e => (hr k e.symm).elim hS (fun e => by omega))⟩
theorem Turn.alloc {S : List Nat} {a b : World} (h : Turn S a b) (o : Obj) : Turn S a (b.alloc o) := h.trans (Turn.of_below ((Below.refl _ _).alloc (Nat.le_refl _) o))
theorem Turn.of_alloc (S : List Nat) (w : World) (o : Obj) : Turn S w (w.alloc o) := (Turn.refl S w).alloc o

theorem Turn.setCell {S : List Nat} {a b : World} (h : Turn S a b) {g : Nat} (hg : g ∈ S) (i : Nat) (v : Value) : Turn S a (b.setCell ⟨g, i, none⟩ v) :=
  h.trans ⟨rfl, rfl, rfl, by simp, fun k _ hS => Below.heap_setCell b ⟨g, i, none⟩ v k (fun e => hS (by rw [e]; exact hg))⟩
theorem Turn.dn {S : List Nat} {a b : World} (h : Turn S a b) (n : Nat) : Turn S a (b.drewN n) := h.trans ⟨rfl, rfl, rfl, Nat.le_refl _, fun _ _ _ => rfl⟩
theorem Turn.cell {S : List Nat} {a b : World} (h : Turn S a b) {g i : Nat} (hg : g < a.heap.size) (hS : g ∉ S) : b.cell? ⟨g, i, none⟩ = a.cell? ⟨g, i, none⟩ := World.cell?_of_block (w := a) (a := ⟨g, i, none⟩) (h.block g hg hS)
theorem Turn.frozen {S : List Nat} {a b : World} (h : Turn S a b) {g i : Nat} (hg : g < a.heap.size) (hS : g ∉ S) : b.frozen? ⟨g, i, none⟩ = a.frozen? ⟨g, i, none⟩ := World.frozen?_of_block (w := a) (a := ⟨g, i, none⟩) (h.block g hg hS)
theorem belowN (w : World) (n : Nat) : Below w.heap.size w (w.drewN n) := ⟨rfl, rfl, rfl, Nat.le_refl _, fun _ _ => rfl⟩
theorem vbox {w w2 : World} {x0 x1 : Value} {T : TypeId} (hb : Below (w.alloc (.cells #[x0, x1] T)).heap.size (w.alloc (.cells #[x0, x1] T)) w2) :
    w2.cell? ⟨w.heap.size, 0, none⟩ = some x0 ∧ w2.cell? ⟨w.heap.size, 1, none⟩ = some x1 := by
  refine ⟨?_, ?_⟩
  all_goals
    rw [hb.cell (by simp), World.cell?_alloc_at _ _ _ _ rfl]
    rfl

end Go.Proofs.YtldgffkippejiaaGreatDoor

set_option linter.unusedVariables false
namespace Go.Proofs.YtldgffkippejiaaGreatDoor
open Go.RowKit Go.Maps Go.Deep

def byV (c : UInt8) : Value := .int .u8 (c.toNat : Int)
/-- bytes lie one behind the other, from a place of a block on -/
def ByAt (w : World) (b off : Nat) (bs : List UInt8) : Prop := ∀ i (h : i < bs.length), w.cell? ⟨b, off + i, none⟩ = some (.int .u8 (bs[i].toNat : Int))
def ByIn (w : World) (a : Option Addr) (bs : List UInt8) : Prop := bs = [] ∨ ∃ b off, a = some ⟨b, off, none⟩ ∧ b < w.heap.size ∧ ByAt w b off bs
/-- a slice value that leads to these bytes, for reading -/
def ByRd (w : World) (v : Value) (bs : List UInt8) : Prop := ∃ a cap, v = .slice a bs.length cap ∧ ByIn w a bs ∧ bs.length ≤ cap
/-- a slice value of one's own with these bytes; S: its block, where it has one -/
def ByOwn (S : List Nat) (w : World) (v : Value) (bs : List UInt8) : Prop :=
  (S = [] ∧ bs = [] ∧ ∃ a cap, v = .slice a 0 cap) ∨ ∃ b off cap, S = [b] ∧ v = .slice (some ⟨b, off, none⟩) bs.length cap ∧ b < w.heap.size ∧ ByAt w b off bs ∧ (∀ i, i < bs.length → w.frozen? ⟨b, off + i, none⟩ = false) ∧ bs.length ≤ cap

theorem ByAt.below {w w' : World} {B b off : Nat} {bs : List UInt8} (h : ByAt w b off bs) (hb : Below B w w') (hB : b < B) : ByAt w' b off bs := fun i hi => (hb.cell (by exact hB)).trans (h i hi)
theorem ByAt.turn {w w' : World} {S : List Nat} {b off : Nat} {bs : List UInt8} (h : ByAt w b off bs) (ht : Turn S w w') (hb : b < w.heap.size) (hS : b ∉ S) : ByAt w' b off bs := fun i hi => (ht.cell hb hS).trans (h i hi)
theorem ByIn.below {w w' : World} {B : Nat} {a : Option Addr} {bs : List UInt8} (h : ByIn w a bs) (hb : Below B w w') (hB : ∀ x, a = some x → 1 ≤ bs.length → x.block < B) : ByIn w' a bs := by
  rcases h with h | ⟨b, off, e, hlt, hn⟩
  · exact .inl h
  · by_cases h0 : bs.length = 0
    · exact .inl (List.eq_nil_of_length_eq_zero h0)
    · exact .inr ⟨b, off, e, Nat.lt_of_lt_of_le hlt hb.size, hn.below hb (hB _ e (by omega))⟩
theorem ByIn.up {w w' : World} {a : Option Addr} {bs : List UInt8} (h : ByIn w a bs) (hb : Below w.heap.size w w') : ByIn w' a bs := by
  rcases h with h | ⟨b, off, e, hlt, hn⟩
  · exact .inl h
  · exact .inr ⟨b, off, e, Nat.lt_of_lt_of_le hlt hb.size, hn.below hb hlt⟩
theorem ByRd.up {w w' : World} {v : Value} {bs : List UInt8} (h : ByRd w v bs) (hb : Below w.heap.size w w') : ByRd w' v bs := by
  obtain ⟨a, cap, e, h, hc⟩ := h
  exact ⟨a, cap, e, h.up hb, hc⟩
theorem ByRd.nil (w : World) (a : Option Addr) (cap : Nat) : ByRd w (.slice a 0 cap) [] := ⟨a, cap, rfl, .inl rfl, Nat.zero_le _⟩
theorem ByOwn.nil (w : World) (a : Option Addr) (cap : Nat) : ByOwn [] w (.slice a 0 cap) [] := .inl ⟨rfl, rfl, a, cap, rfl⟩
theorem ByOwn.rd {S : List Nat} {w : World} {v : Value} {bs : List UInt8} (h : ByOwn S w v bs) : ByRd w v bs := by
  rcases h with ⟨_, rfl, a, cap, rfl⟩ | ⟨b, off, cap, _, rfl, hb, hc, _, hcap⟩
  · exact ByRd.nil _ _ _
  · exact ⟨_, cap, rfl, .inr ⟨b, off, rfl, hb, hc⟩, hcap⟩
theorem ByOwn.turn {S S' : List Nat} {w w' : World} {v : Value} {bs : List UInt8} (h : ByOwn S w v bs) (ht : Turn S' w w') (hS : ∀ k ∈ S, k ∉ S') : ByOwn S w' v bs := by
  rcases h with h | ⟨b, off, cap, rfl, rfl, hb, hc, hf, hcap⟩
  · exact .inl h
  · have hn := hS b (by simp)
    exact .inr ⟨b, off, cap, rfl, rfl, Nat.lt_of_lt_of_le hb ht.size, hc.turn ht hb hn, fun i hi => (ht.frozen hb hn).trans (hf i hi), hcap⟩
theorem ByOwn.up {S : List Nat} {w w' : World} {v : Value} {bs : List UInt8} (h : ByOwn S w v bs) (hb : Below w.heap.size w w') : ByOwn S w' v bs := h.turn (Turn.of_below (S := []) hb) (by simp)
theorem ByOwn.lt {S : List Nat} {w : World} {v : Value} {bs : List UInt8} (h : ByOwn S w v bs) : ∀ k ∈ S, k < w.heap.size := by
  rcases h with ⟨rfl, _⟩ | ⟨b, off, cap, rfl, rfl, hb, _⟩
  · simp
  · simpa using hb
theorem ByOwn.nodup {S : List Nat} {w : World} {v : Value} {bs : List UInt8} (h : ByOwn S w v bs) : S.Nodup := by
  rcases h with ⟨rfl, _⟩ | ⟨b, off, cap, rfl, _⟩ <;> simp
/-- a row that was made by appending is one's own -/
theorem ByOwn.of_row {w : World} {B : Nat} {v : Value} {bs : List UInt8} (h : w.ownsRow B 5 1 v bs.length (bs.map byV)) : ∃ S, ByOwn S w v bs ∧ ∀ k ∈ S, B ≤ k := by
  have hh := h
  rcases h with ⟨_, ⟨rfl, h0⟩ | ⟨g, cap, cur, rfl, hB, hg, hnc, _⟩⟩
  · have : bs = [] := List.eq_nil_of_length_eq_zero h0
    subst this
    exact ⟨[], ByOwn.nil _ _ _, by simp⟩
  · refine ⟨[g], .inr ⟨g, 0, cap, rfl, rfl, (Array.getElem?_eq_some_iff.1 hg).1, fun i hi => ?_, fun i hi => hh.frozenAt _, hnc⟩, by simpa using hB⟩
    rw [Nat.zero_add, hh.cellAt _ (by omega)]
    simp [byV, hi]
theorem ByRd.len {w : World} {v : Value} {bs : List UInt8} (h : ByRd w v bs) : ∃ a cap, v = .slice a bs.length cap := by
  obtain ⟨a, cap, e, _⟩ := h
  exact ⟨a, cap, e⟩

theorem infoByte : (Tryz.prog.info? 5).map (fun i => (i.zero, i.size, i.bytes)) = some (some (.int .u8 0), 1, 1) := by kernel_rfl
theorem info_parts1 {t : TypeId} {z : Value} {a b : Nat} (h : (Tryz.prog.info? t).map (fun i => (i.zero, i.size, i.bytes)) = some (some z, a, b)) : ∃ i, Tryz.prog.info? t = some i ∧ i.zero = some z ∧ i.size = a ∧ i.bytes = b := by
  cases hi : Tryz.prog.info? t with
  | none => rw [hi] at h; cases h
  | some i =>
    rw [hi] at h
    simp only [Option.map_some, Option.some.injEq, Prod.mk.injEq] at h
    exact ⟨i, rfl, h.1, h.2.1, h.2.2⟩


end Go.Proofs.YtldgffkippejiaaGreatDoor
