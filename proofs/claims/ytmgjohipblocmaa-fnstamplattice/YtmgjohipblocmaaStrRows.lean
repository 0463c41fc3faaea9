/-
  Lists of texts in memory, and the law's own helpers over them: how much they hold, how they are copied, compared, marked, and how one that comes in is opened.
-/
import Derived.Test.YtmgjohipblocmaaBytes
import Derived.Test.YtmgjohipblocmaaByArg
import Derived.Test.YtmgjohipblocmaaMarkText
import Derived.Test.YtmgjohipblocmaaLater
import Derived.Deep.RegionHeld3
import Derived.Deep.RegionWith
import Derived.Deep.Slices
import Derived.ProofKit
import Derived.OpenShut
set_option linter.unusedVariables false
namespace Go.Proofs.Ytmgjohipblocmaa
open Go.RowKit Go.Maps Go.Deep Go.ChangeShapes Go.WideShapes Go.ChangeAt

def StrsAt (w : World) (b off : Nat) (ts : List ByteArray) : Prop := ∀ i (h : i < ts.length), w.cell? ⟨b, off + i, none⟩ = some (.string ts[i])
def StrsIn (w : World) (a : Option Addr) (ts : List ByteArray) : Prop := ts = [] ∨ ∃ b off, a = some ⟨b, off, none⟩ ∧ b < w.heap.size ∧ StrsAt w b off ts
def StrsOk (ts : List ByteArray) : Prop := ∀ t ∈ ts, t.size ≤ maxLen
def StringSRd (w : World) (v : Value) (ts : List ByteArray) : Prop := ∃ a c, v = .slice a ts.length c ∧ StrsIn w a ts
def StringSOwn (S : List Nat) (w : World) (v : Value) (ts : List ByteArray) : Prop :=
  (S = [] ∧ ts = [] ∧ ∃ a c, v = .slice a 0 c) ∨ ∃ b off cap, S = [b] ∧ v = .slice (some ⟨b, off, none⟩) ts.length cap ∧ b < w.heap.size ∧ StrsAt w b off ts ∧ ∀ i, i < ts.length → w.frozen? ⟨b, off + i, none⟩ = false
theorem StrsAt.below {w w' : World} {B b off : Nat} {ts : List ByteArray} (h : StrsAt w b off ts) (hb : Below B w w') (hB : b < B) : StrsAt w' b off ts := fun i hi => (hb.cell (by exact hB)).trans (h i hi)
theorem StrsAt.turn {w w' : World} {S : List Nat} {b off : Nat} {ts : List ByteArray} (h : StrsAt w b off ts) (ht : Turn S w w') (hb : b < w.heap.size) (hS : b ∉ S) : StrsAt w' b off ts := fun i hi => (ht.cell hb hS).trans (h i hi)
theorem StrsIn.below {w w' : World} {a : Option Addr} {ts : List ByteArray} (h : StrsIn w a ts) (hb : Below w.heap.size w w') : StrsIn w' a ts := by
  rcases h with h | ⟨b, off, e, hb', hc⟩
  · exact .inl h
  · exact .inr ⟨b, off, e, Nat.lt_of_lt_of_le hb' hb.size, hc.below hb hb'⟩
theorem StringSRd.up {w w' : World} {v : Value} {ts : List ByteArray} (h : StringSRd w v ts) (hb : Below w.heap.size w w') : StringSRd w' v ts := by
  obtain ⟨a, c, e, h⟩ := h
  exact ⟨a, c, e, h.below hb⟩
theorem StringSRd.form {w : World} {v : Value} {ts : List ByteArray} (h : StringSRd w v ts) : ∃ a n c, v = .slice a n c := by
  obtain ⟨a, c, e, _⟩ := h
  exact ⟨a, _, c, e⟩
theorem StringSOwn.rd {S : List Nat} {w : World} {v : Value} {ts : List ByteArray} (h : StringSOwn S w v ts) : StringSRd w v ts := by
  rcases h with ⟨_, rfl, a, c, rfl⟩ | ⟨b, off, cap, _, rfl, hb, hc, _⟩
  · exact ⟨a, c, rfl, .inl rfl⟩
  · exact ⟨_, cap, rfl, .inr ⟨b, off, rfl, hb, hc⟩⟩
theorem StringSOwn.turn {S S' : List Nat} {w w' : World} {v : Value} {ts : List ByteArray} (h : StringSOwn S w v ts) (ht : Turn S' w w') (hS : ∀ k ∈ S, k ∉ S') : StringSOwn S w' v ts := by
  rcases h with h | ⟨b, off, cap, rfl, rfl, hb, hc, hf⟩
  · exact .inl h
  · have hn := hS b (by simp)
    exact .inr ⟨b, off, cap, rfl, rfl, Nat.lt_of_lt_of_le hb ht.size, hc.turn ht hb hn, fun i hi => (ht.frozen hb hn).trans (hf i hi)⟩
theorem StringSOwn.up {S : List Nat} {w w' : World} {v : Value} {ts : List ByteArray} (h : StringSOwn S w v ts) (hb : Below w.heap.size w w') : StringSOwn S w' v ts := h.turn (Turn.of_below (S := []) hb) (by simp)
theorem StringSOwn.lt {S : List Nat} {w : World} {v : Value} {ts : List ByteArray} (h : StringSOwn S w v ts) : ∀ k ∈ S, k < w.heap.size := by
  rcases h with ⟨rfl, _⟩ | ⟨b, off, cap, rfl, rfl, hb, _⟩
  · simp
  · simpa using hb
def SmallStringS (ts : List ByteArray) : Prop := ts.length ≤ 1048576 ∧ ∀ t ∈ ts, t.size ≤ 1048576
def StringSFit (ts : List ByteArray) : Prop := ts.length ≤ maxLen ∧ StrsOk ts
def nStringS (ts : List ByteArray) : Nat := ts.length
theorem nStringS_le {ts : List ByteArray} (h : SmallStringS ts) : nStringS ts ≤ 100000000 := by have := h.1; unfold nStringS; omega
theorem infoString : (Try.prog.info? 9).map (fun i => (i.zero, i.size, i.bytes)) = some (some (.string ByteArray.empty), 1, 16) := by kernel_rfl
theorem strRow_cell {w : World} {B g n : Nat} {xs : List Value} (h : w.ownsRow B 9 1 (.slice (some ⟨g, 0, none⟩) n n) n xs) (k : Nat) (hk : k < n) : ∃ v0, w.cell? ⟨g, k, none⟩ = some v0 ∧ w.frozen? ⟨g, k, none⟩ = false := by
  have hx := h.1
  refine ⟨xs[k]'(by omega), ?_, h.frozenAt _⟩
  rw [h.cellAt _ (by omega)]
  exact List.getElem?_eq_getElem _
/-- the marks from k on -/
def marksStringS (k : Nat) (ts : List ByteArray) : List ByteArray := (List.range ts.length).map fun j => mText ((k + j : Nat) : Int)
def mtStr (ts : List ByteArray) (k j : Nat) : List ByteArray := ((List.range j).map fun j => mText ((k + j : Nat) : Int)) ++ ts.drop j
theorem mtStr_len (ts : List ByteArray) (k j : Nat) (h : j ≤ ts.length) : (mtStr ts k j).length = ts.length := by simp [mtStr]; omega
theorem mtStr_step (ts : List ByteArray) (k j : Nat) (h : j < ts.length) : (mtStr ts k j).set j (mText ((k + j : Nat) : Int)) = mtStr ts k (j + 1) := by
  unfold mtStr
  rw [List.range_succ, List.map_append, List.set_append_right _ _ (by simp)]
  simp only [List.length_map, List.length_range, Nat.sub_self]
  rw [List.append_assoc]
  congr 1
  rw [List.drop_eq_getElem_cons h]
  rfl
theorem mtStr_all (ts : List ByteArray) (k : Nat) : mtStr ts k ts.length = marksStringS k ts := by simp [mtStr, marksStringS]
theorem marksStringS_len (k : Nat) (ts : List ByteArray) : (marksStringS k ts).length = ts.length := by simp [marksStringS]
theorem StrsAt.set {w : World} {b off : Nat} {ts : List ByteArray} (h : StrsAt w b off ts) (j : Nat) (hj : j < ts.length) (t : ByteArray) : StrsAt (w.setCell ⟨b, off + j, none⟩ (.string t)) b off (ts.set j t) := by
  intro i hi
  have hi' : i < ts.length := by simpa using hi
  by_cases e : i = j
  · subst e
    rw [List.getElem_set_self]
    exact World.cell?_setCell_same _ _ _ (h i hi')
  · rw [List.getElem_set_ne (fun h => e h.symm)]
    exact (World.cell?_setCell_other _ _ _ _ (by intro e'; have := congrArg Addr.off e'; simp only at this; omega)).trans (h i hi')
theorem cells_string : Try.prog.cellsOf 9 = 1 := by kernel_rfl
theorem openStringS {H : Type} {enc : TypeId × Value → H} {w : World} {base : Nat} {spare : Nat → Bool} {held : Bool} {a : Option Addr} {len cap : Nat} {d : DataW H} {p : List MemPlace}
    (h : DataW.Trod enc Try.prog w base spare held 54 (.slice a len cap) d p) :
    ∃ ts : List ByteArray, ts.length = len ∧ len ≤ maxLen ∧ StrsIn w a ts ∧ StrsOk ts := by
  obtain ⟨fuel, hf⟩ := h
  rcases open_slice Try.underlying54 hf with ⟨hcs, _⟩ | ⟨a', len', cap', m, n, D, Pl, hcs, hb, hl, hm, hmm, _, hx⟩
  · simp [Value.cells] at hcs
    obtain ⟨rfl, rfl, rfl⟩ := hcs
    exact ⟨[], rfl, by unfold maxLen; omega, .inl rfl, fun _ h => by cases h⟩
  · simp [Value.cells] at hcs
    obtain ⟨rfl, rfl, rfl⟩ := hcs
    have hlm : len ≤ m := by rw [hmm]; split <;> omega
    have each : ∀ i, i < len → ∃ q : ByteArray, w.cell? (a'.add i) = some (.string q) ∧ q.size ≤ maxLen := by
      intro i hi
      obtain ⟨cs', h1, h2⟩ := hx i (by omega)
      rw [cells_string] at h1
      obtain ⟨_, hlen, hcell⟩ := World.cells?_some h1
      match cs', hlen with
      | [v0], _ =>
        obtain ⟨n0, e0, _, hs0⟩ := DataW.trod_string Try.underlying9 h2
        simp at e0
        subst e0
        have c0 := hcell 0 (by omega)
        rw [Nat.mul_one] at c0
        exact ⟨n0, by simpa [Addr.add] using c0, hs0⟩
    have hin : Inhabited ByteArray := ⟨ByteArray.empty⟩
    obtain ⟨q, hq⟩ := choose_lt each
    refine ⟨(List.range len).map q, by simp, by omega, ?_, ?_⟩
    · by_cases h0 : len = 0
      · subst h0; exact .inl (by simp)
      · have hc0 := (hq 0 (by omega)).1
        obtain ⟨b, off, spot⟩ := a'
        have hspot : spot = none := by simpa [Addr.add] using World.cell?_spot hc0
        subst hspot
        refine .inr ⟨b, off, rfl, lt_of_cell0 (by simpa [Addr.add] using hc0), ?_⟩
        intro i hi
        have hi' : i < len := by simpa using hi
        obtain ⟨c0, _⟩ := hq i hi'
        simp only [List.getElem_map, List.getElem_range]
        have hadd : (⟨b, off, none⟩ : Addr).add i = ⟨b, off + i, none⟩ := by unfold Addr.add; split <;> simp_all
        rw [hadd] at c0
        exact c0
    · intro x hx
      simp at hx
      obtain ⟨i, hi, rfl⟩ := hx
      exact (hq i hi).2
end Go.Proofs.Ytmgjohipblocmaa
