/-
  Lists of bytes in memory: for reading, and as rows of one's own; the laws' own helpers over them: how much they hold, how they are copied, compared, marked, and found marked again.
-/
import Derived.Test.YtpekcpjlappkgaaDoorTurns
import Derived.Deep.RegionWith
import Derived.Deep.RegionHeld3
import Derived.Deep.Slices
import Derived.ProofKit
set_option linter.unusedVariables false
namespace Go.Proofs.YtpekcpjlappkgaaDoor
open Go.RowKit Go.Maps Go.Deep

def byV (c : UInt8) : Value := .int .u8 (c.toNat : Int)
/-- bytes lie one behind the other, from a place of a block on -/
def ByAt (w : World) (b off : Nat) (bs : List UInt8) : Prop := ∀ i (h : i < bs.length), w.cell? ⟨b, off + i, none⟩ = some (.int .u8 (bs[i].toNat : Int))
def ByIn (w : World) (a : Option Addr) (bs : List UInt8) : Prop := bs = [] ∨ ∃ b off, a = some ⟨b, off, none⟩ ∧ b < w.heap.size ∧ ByAt w b off bs
/-- a slice value that leads to these bytes, for reading -/
def ByRd (w : World) (v : Value) (bs : List UInt8) : Prop := ∃ a cap, v = .slice a bs.length cap ∧ ByIn w a bs ∧ bs.length ≤ cap
/-- a slice value of one's own with these bytes; S: its block, where it has one -/
def ByOwn (S : List Nat) (w : World) (v : Value) (bs : List UInt8) : Prop :=
  (S = [] ∧ bs = [] ∧ ∃ a cap, v = .slice a 0 cap) ∨ ∃ b off cap, S = [b] ∧ v = .slice (some ⟨b, off, none⟩) bs.length cap ∧ b < w.heap.size ∧ ByAt w b off bs ∧ (∀ i, i < bs.length → w.frozen? ⟨b, off + i, none⟩ = false) ∧ bs.length ≤ cap

theorem ByAt.below {w w' : World} {B b off : Nat} {bs : List UInt8} (h : ByAt w b off bs) (hb : Below B w w') (hB : b < B) : ByAt w' b off bs := fun i hi => (hb.cell (by exact hB)).trans (h i hi)
theorem ByAt.turn {w w' : World} {S : List Nat} {b off : Nat} {bs : List UInt8} (h : ByAt w b off bs) (ht : Turn S w w') (hb : b < w.heap.size) (hS : b ∉ S) : ByAt w' b off bs := fun i hi => (ht.cell hb hS).trans (h i hi)
theorem ByIn.below {w w' : World} {B : Nat} {a : Option Addr} {bs : List UInt8} (h : ByIn w a bs) (hb : Below B w w') (hB : ∀ x, a = some x → 1 ≤ bs.length → x.block < B) : ByIn w' a bs := by
  rcases h with h | ⟨b, off, e, hlt, hn⟩
  · exact .inl h
  · by_cases h0 : bs.length = 0
    · exact .inl (List.eq_nil_of_length_eq_zero h0)
    · exact .inr ⟨b, off, e, Nat.lt_of_lt_of_le hlt hb.size, hn.below hb (hB _ e (by omega))⟩
theorem ByIn.up {w w' : World} {a : Option Addr} {bs : List UInt8} (h : ByIn w a bs) (hb : Below w.heap.size w w') : ByIn w' a bs := by
  rcases h with h | ⟨b, off, e, hlt, hn⟩
  · exact .inl h
  · exact .inr ⟨b, off, e, Nat.lt_of_lt_of_le hlt hb.size, hn.below hb hlt⟩
theorem ByRd.up {w w' : World} {v : Value} {bs : List UInt8} (h : ByRd w v bs) (hb : Below w.heap.size w w') : ByRd w' v bs := by
  obtain ⟨a, cap, e, h, hc⟩ := h
  exact ⟨a, cap, e, h.up hb, hc⟩
theorem ByRd.nil (w : World) (a : Option Addr) (cap : Nat) : ByRd w (.slice a 0 cap) [] := ⟨a, cap, rfl, .inl rfl, Nat.zero_le _⟩
theorem ByOwn.nil (w : World) (a : Option Addr) (cap : Nat) : ByOwn [] w (.slice a 0 cap) [] := .inl ⟨rfl, rfl, a, cap, rfl⟩
theorem ByOwn.rd {S : List Nat} {w : World} {v : Value} {bs : List UInt8} (h : ByOwn S w v bs) : ByRd w v bs := by
  rcases h with ⟨_, rfl, a, cap, rfl⟩ | ⟨b, off, cap, _, rfl, hb, hc, _, hcap⟩
  · exact ByRd.nil _ _ _
  · exact ⟨_, cap, rfl, .inr ⟨b, off, rfl, hb, hc⟩, hcap⟩
theorem ByOwn.turn {S S' : List Nat} {w w' : World} {v : Value} {bs : List UInt8} (h : ByOwn S w v bs) (ht : Turn S' w w') (hS : ∀ k ∈ S, k ∉ S') : ByOwn S w' v bs := by
  rcases h with h | ⟨b, off, cap, rfl, rfl, hb, hc, hf, hcap⟩
  · exact .inl h
  · have hn := hS b (by simp)
    exact .inr ⟨b, off, cap, rfl, rfl, Nat.lt_of_lt_of_le hb ht.size, hc.turn ht hb hn, fun i hi => (ht.frozen hb hn).trans (hf i hi), hcap⟩
theorem ByOwn.up {S : List Nat} {w w' : World} {v : Value} {bs : List UInt8} (h : ByOwn S w v bs) (hb : Below w.heap.size w w') : ByOwn S w' v bs := h.turn (Turn.of_below (S := []) hb) (by simp)
theorem ByOwn.lt {S : List Nat} {w : World} {v : Value} {bs : List UInt8} (h : ByOwn S w v bs) : ∀ k ∈ S, k < w.heap.size := by
  rcases h with ⟨rfl, _⟩ | ⟨b, off, cap, rfl, rfl, hb, _⟩
  · simp
  · simpa using hb
theorem ByOwn.nodup {S : List Nat} {w : World} {v : Value} {bs : List UInt8} (h : ByOwn S w v bs) : S.Nodup := by
  rcases h with ⟨rfl, _⟩ | ⟨b, off, cap, rfl, _⟩ <;> simp
/-- a row that was made by appending is one's own -/
theorem ByOwn.of_row {w : World} {B : Nat} {v : Value} {bs : List UInt8} (h : w.ownsRow B 5 1 v bs.length (bs.map byV)) : ∃ S, ByOwn S w v bs ∧ ∀ k ∈ S, B ≤ k := by
  have hh := h
  rcases h with ⟨_, ⟨rfl, h0⟩ | ⟨g, cap, cur, rfl, hB, hg, hnc, _⟩⟩
  · have : bs = [] := List.eq_nil_of_length_eq_zero h0
    subst this
    exact ⟨[], ByOwn.nil _ _ _, by simp⟩
  · refine ⟨[g], .inr ⟨g, 0, cap, rfl, rfl, (Array.getElem?_eq_some_iff.1 hg).1, fun i hi => ?_, fun i hi => hh.frozenAt _, hnc⟩, by simpa using hB⟩
    rw [Nat.zero_add, hh.cellAt _ (by omega)]
    simp [byV, hi]
theorem ByRd.len {w : World} {v : Value} {bs : List UInt8} (h : ByRd w v bs) : ∃ a cap, v = .slice a bs.length cap := by
  obtain ⟨a, cap, e, _⟩ := h
  exact ⟨a, cap, e⟩

theorem infoByte : (Tryd.prog.info? 5).map (fun i => (i.zero, i.size, i.bytes)) = some (some (.int .u8 0), 1, 1) := by kernel_rfl
theorem info_parts1 {t : TypeId} {z : Value} {a b : Nat} (h : (Tryd.prog.info? t).map (fun i => (i.zero, i.size, i.bytes)) = some (some z, a, b)) : ∃ i, Tryd.prog.info? t = some i ∧ i.zero = some z ∧ i.size = a ∧ i.bytes = b := by
  cases hi : Tryd.prog.info? t with
  | none => rw [hi] at h; cases h
  | some i =>
    rw [hi] at h
    simp only [Option.map_some, Option.some.injEq, Prod.mk.injEq] at h
    exact ⟨i, rfl, h.1, h.2.1, h.2.2⟩


end Go.Proofs.YtpekcpjlappkgaaDoor
