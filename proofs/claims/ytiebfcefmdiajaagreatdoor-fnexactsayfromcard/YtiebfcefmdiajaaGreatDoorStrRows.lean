/-
  Lists of texts in memory, and the law's own helpers over them: how much they hold, how they are copied, compared, marked, and how one that comes in is opened.
-/
import Derived.Test.YtiebfcefmdiajaaGreatDoorBytes
import Derived.Test.YtiebfcefmdiajaaGreatDoorByArg
import Derived.Test.YtiebfcefmdiajaaGreatDoorLater
import Derived.Deep.RegionHeld3
import Derived.Deep.RegionWith
import Derived.Deep.Slices
import Derived.ProofKit
import Derived.OpenShut
set_option linter.unusedVariables false
namespace Go.Proofs.YtiebfcefmdiajaaGreatDoor
open Go.RowKit Go.Maps Go.Deep Go.ChangeShapes Go.WideShapes Go.ChangeAt

def StrsAt (w : World) (b off : Nat) (ts : List ByteArray) : Prop := ∀ i (h : i < ts.length), w.cell? ⟨b, off + i, none⟩ = some (.string ts[i])
def StrsIn (w : World) (a : Option Addr) (ts : List ByteArray) : Prop := ts = [] ∨ ∃ b off, a = some ⟨b, off, none⟩ ∧ b < w.heap.size ∧ StrsAt w b off ts
def StrsOk (ts : List ByteArray) : Prop := ∀ t ∈ ts, t.size ≤ maxLen
def StringSRd (w : World) (v : Value) (ts : List ByteArray) : Prop := ∃ a c, v = .slice a ts.length c ∧ StrsIn w a ts
def StringSOwn (S : List Nat) (w : World) (v : Value) (ts : List ByteArray) : Prop :=
  (S = [] ∧ ts = [] ∧ ∃ a c, v = .slice a 0 c) ∨ ∃ b off cap, S = [b] ∧ v = .slice (some ⟨b, off, none⟩) ts.length cap ∧ b < w.heap.size ∧ StrsAt w b off ts ∧ ∀ i, i < ts.length → w.frozen? ⟨b, off + i, none⟩ = false
theorem StrsAt.below {w w' : World} {B b off : Nat} {ts : List ByteArray} (h : StrsAt w b off ts) (hb : Below B w w') (hB : b < B) : StrsAt w' b off ts := fun i hi => (hb.cell (by exact hB)).trans (h i hi)
theorem StrsAt.turn {w w' : World} {S : List Nat} {b off : Nat} {ts : List ByteArray} (h : StrsAt w b off ts) (ht : Turn S w w') (hb : b < w.heap.size) (hS : b ∉ S) : StrsAt w' b off ts := fun i hi => (ht.cell hb hS).trans (h i hi)
theorem StrsIn.below {w w' : World} {a : Option Addr} {ts : List ByteArray} (h : StrsIn w a ts) (hb : Below w.heap.size w w') : StrsIn w' a ts := by
  rcases h with h | ⟨b, off, e, hb', hc⟩
  · exact .inl h
  · exact .inr ⟨b, off, e, Nat.lt_of_lt_of_le hb' hb.size, hc.below hb hb'⟩
theorem StringSRd.up {w w' : World} {v : Value} {ts : List ByteArray} (h : StringSRd w v ts) (hb : Below w.heap.size w w') : StringSRd w' v ts := by
  obtain ⟨a, c, e, h⟩ := h
  exact ⟨a, c, e, h.below hb⟩
theorem StringSRd.form {w : World} {v : Value} {ts : List ByteArray} (h : StringSRd w v ts) : ∃ a n c, v = .slice a n c := by
  obtain ⟨a, c, e, _⟩ := h
  exact ⟨a, _, c, e⟩
theorem StringSOwn.rd {S : List Nat} {w : World} {v : Value} {ts : List ByteArray} (h : StringSOwn S w v ts) : StringSRd w v ts := by
  rcases h with ⟨_, rfl, a, c, rfl⟩ | ⟨b, off, cap, _, rfl, hb, hc, _⟩
  · exact ⟨a, c, rfl, .inl rfl⟩
  · exact ⟨_, cap, rfl, .inr ⟨b, off, rfl, hb, hc⟩⟩
theorem StringSOwn.turn {S S' : List Nat} {w w' : World} {v : Value} {ts : List ByteArray} (h : StringSOwn S w v ts) (ht : Turn S' w w') (hS : ∀ k ∈ S, k ∉ S') : StringSOwn S w' v ts := by
  rcases h with h | ⟨b, off, cap, rfl, rfl, hb, hc, hf⟩
  · exact .inl h
  · have hn := hS b (by simp)
    exact .inr ⟨b, off, cap, rfl, rfl, Nat.lt_of_lt_of_le hb ht.size, hc.turn ht hb hn, fun i hi => (ht.frozen hb hn).trans (hf i hi)⟩
theorem StringSOwn.up {S : List Nat} {w w' : World} {v : Value} {ts : List ByteArray} (h : StringSOwn S w v ts) (hb : Below w.heap.size w w') : StringSOwn S w' v ts := h.turn (Turn.of_below (S := []) hb) (by simp)
theorem StringSOwn.lt {S : List Nat} {w : World} {v : Value} {ts : List ByteArray} (h : StringSOwn S w v ts) : ∀ k ∈ S, k < w.heap.size := by
  rcases h with ⟨rfl, _⟩ | ⟨b, off, cap, rfl, rfl, hb, _⟩
  · simp
  · simpa using hb
def SmallStringS (ts : List ByteArray) : Prop := ts.length ≤ 1048576 ∧ ∀ t ∈ ts, t.size ≤ 1048576
def StringSFit (ts : List ByteArray) : Prop := ts.length ≤ maxLen ∧ StrsOk ts
def nStringS (ts : List ByteArray) : Nat := ts.length
theorem nStringS_le {ts : List ByteArray} (h : SmallStringS ts) : nStringS ts ≤ 100000000 := by have := h.1; unfold nStringS; omega
theorem infoString : (Tryz.prog.info? 9).map (fun i => (i.zero, i.size, i.bytes)) = some (some (.string ByteArray.empty), 1, 16) := by kernel_rfl
end Go.Proofs.YtiebfcefmdiajaaGreatDoor
