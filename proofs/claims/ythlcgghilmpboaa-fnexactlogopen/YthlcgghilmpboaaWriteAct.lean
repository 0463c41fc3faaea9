/-
  The closure that DiskWrite attempts: a step and an append for each byte.
-/
import Derived.Test.YthlcgghilmpboaaAttemptRun
import Derived.Test.YthlcgghilmpboaaDiskCut
set_option linter.unusedVariables false
namespace Go.Proofs.Ythlcgghilmpboaa
open Go.RowKit Go.Maps Go.Deep

def fz (f : Int) (k : Nat) : Int := if f < 0 then f else f - k
def atD (d : DiskV) (bs : List UInt8) (k : Nat) : DiskV := ⟨d.safe, d.soft ++ bs.take k, fz d.fuse k, d.down⟩
def goneB (d : DiskV) (bs : List UInt8) : Bool := decide (0 ≤ d.fuse) && decide (d.fuse < (bs.length : Int))
theorem atD_zero (d : DiskV) (bs : List UInt8) : atD d bs 0 = d := by
  cases d
  simp [atD, fz]
theorem atD_next {d : DiskV} {bs : List UInt8} {k : Nat} (h : k < bs.length) (hk : d.fuse < 0 ∨ (k : Int) ≤ d.fuse) (h0 : fz d.fuse k ≠ 0) :
    (⟨(atD d bs k).safe, (atD d bs k).soft ++ [bs[k]], burnI (atD d bs k).fuse, (atD d bs k).down⟩ : DiskV) = atD d bs (k + 1) ∧ (d.fuse < 0 ∨ ((k + 1 : Nat) : Int) ≤ d.fuse) := by
  unfold fz at h0
  have hb : burnI (fz d.fuse k) = fz d.fuse (k + 1) := by
    unfold burnI fz
    by_cases h1 : d.fuse < 0
    · rw [if_pos h1, if_neg (by omega), if_pos h1]
    · rw [if_neg h1, if_neg h1] 
      rw [if_neg h1] at h0
      rw [if_pos (by omega)]
      omega
  refine ⟨?_, ?_⟩
  · simp only [atD]
    rw [hb, List.take_succ_eq_append_getElem h, List.append_assoc]
  · by_cases h1 : d.fuse < 0
    · exact .inl h1
    · rw [if_neg h1] at h0
      exact .inr (by omega)
theorem fz_range {f : Int} {k : Nat} (h1 : -1 ≤ f) (h2 : f ≤ 400) (hk : f < 0 ∨ (k : Int) ≤ f) : -1 ≤ fz f k ∧ fz f k ≤ 400 := by
  unfold fz
  split <;> omega
theorem Turn.on {S S2 : List Nat} {a b c : World} (h : Turn S a b) (h2 : Turn S2 b c) (hs : ∀ k ∈ S2, k ∈ S ∨ a.heap.size ≤ k) : Turn S a c :=
  ⟨h2.os.trans h.os, h2.tape.trans h.tape, h2.output.trans h.output, Nat.le_trans h.size h2.size, fun k hk hS => (h2.block k (Nat.lt_of_lt_of_le hk h.size) (fun hm => (hs k hm).elim hS (fun hh => by omega))).trans (h.block k hk hS)⟩
def gs (g : Nat) (v : Value) : List Nat := g :: v.ownBlock.toList
theorem gs_own {g k : Nat} {v : Value} (h : v.ownBlock = some k) : k ∈ gs g v := by simp [gs, h]
theorem byCellW (w : World) (c : UInt8) : ByRd (w.alloc (.cells #[.int .u8 (c.toNat : Int)] 5)) (.slice (some ⟨w.heap.size, 0, none⟩) 1 1) [c] := by
  refine ⟨_, 1, rfl, .inr ⟨w.heap.size, 0, rfl, by simp, fun i hi => ?_⟩, Nat.le_refl _⟩
  obtain rfl : i = 0 := by simpa using hi
  rw [World.cell?_alloc_at _ _ _ _ (by simp)]
  rfl
theorem Drive.grow {B : Nat} {wa w2 : World} {g : Nat} {v0 v1 v2 : Value} {D : DiskV} {bs : List UInt8} (h : Drive B wa g v0 v1 D) (G : wa.grownBy w2 v1.ownBlock) (R : ByRow B w2 v2 bs) (O : v2.ownBlock = v1.ownBlock ∨ ∀ k, v2.ownBlock = some k → wa.heap.size ≤ k) :
    Drive B (w2.setCell ⟨g, 1, none⟩ v2) g v0 v2 ⟨D.safe, bs, D.fuse, D.down⟩ ∧ Turn (gs g v1) wa (w2.setCell ⟨g, 1, none⟩ v2) := by
  have hb : w2.heap[g]? = wa.heap[g]? := G.block g h.lt (fun e => h.n1 g e.symm rfl)
  have hcell : ∀ i, w2.cell? ⟨g, i, none⟩ = wa.cell? ⟨g, i, none⟩ := fun i => World.cell?_of_block (w := wa) (a := ⟨g, i, none⟩) hb
  have hfr : ∀ i, w2.frozen? ⟨g, i, none⟩ = wa.frozen? ⟨g, i, none⟩ := fun i => World.frozen?_of_block (w := wa) (a := ⟨g, i, none⟩) hb
  have ht : Turn [g] w2 (w2.setCell ⟨g, 1, none⟩ v2) := (Turn.refl [g] w2).setCell (by simp) 1 _
  have ne : ∀ i, i ≠ 1 → (w2.setCell ⟨g, 1, none⟩ v2).cell? ⟨g, i, none⟩ = w2.cell? ⟨g, i, none⟩ := fun i h => World.cell?_setCell_other _ _ _ _ (by intro e; have := congrArg Addr.off e; simp only at this; omega)
  have hg := h.lt
  have hz : wa.heap.size ≤ w2.heap.size := G.size
  have hne : ∀ k, v2.ownBlock = some k → k ≠ g := by
    intro k hk
    rcases O with O | O
    · exact h.n1 k (O ▸ hk)
    · have := O k hk
      omega
  refine ⟨⟨h.le, Nat.lt_of_lt_of_le (Nat.lt_of_lt_of_le hg hz) ht.size, ((ne 0 (by omega)).trans (hcell 0)).trans h.c0, World.cell?_setCell_same _ _ _ ((hcell 1).trans h.c1), ((ne 2 (by omega)).trans (hcell 2)).trans h.c2, ((ne 3 (by omega)).trans (hcell 3)).trans h.c3, fun i hi => by rw [World.frozen?_setCell, hfr]; exact h.soft i hi, ?_, R.turn ht (fun k hk hm => hne k hk (by simpa using hm)), h.n0, hne, ?_⟩, ?_⟩
  · exact (h.r0.keep (fun k hk => G.block k (h.r0.lt k hk) (fun e => h.n01 k hk e.symm))).turn ht (fun k hk hm => h.n0 k hk (by simpa using hm))
  · intro k hk e
    rcases O with O | O
    · exact h.n01 k hk (O ▸ e)
    · have := O k e
      have := h.r0.lt k hk
      omega
  · exact (Turn.of_grown G (fun k hk => .inl (gs_own hk))).setCell (by simp [gs]) 1 _
/-- the closure behind its last byte, or at its panic -/
def ActOut (B g : Nat) (v0 v1 : Value) (d : DiskV) (bs : List UInt8) (w : World) (e : Ending) (w' : World) : Prop :=
  (goneB d bs = false ∧ e = .returned (.tuple #[]) ∧ Hid (∃ v, Drive B w' g v0 v (atD d bs bs.length) ∧ Turn (gs g v1) w w')) ∨ (goneB d bs = true ∧ e = .panicked fallenChain ∧ Hid (∃ v, Drive B w' g v0 v (atD d bs d.fuse.toNat) ∧ Turn (gs g v1) w w'))
end Go.Proofs.Ythlcgghilmpboaa
