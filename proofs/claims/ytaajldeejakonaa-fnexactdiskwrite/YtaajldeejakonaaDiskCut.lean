/-
  DiskCut of the program: the closure that is attempted, the attempt, the face.
-/
import Derived.Test.YtaajldeejakonaaAttempts
import Derived.Deep.RegionHeld3
set_option linter.unusedVariables false
namespace Go.Proofs.Ytaajldeejakonaa
open Go.RowKit Go.Maps Go.Deep

theorem ByRow.prefix {B : Nat} {w : World} {a : Option Addr} {n c : Nat} {bs : List UInt8} (h : ByRow B w (.slice a n c) bs) (k : Nat) (hk : k ≤ bs.length) : ByRow B w (.slice a k c) (bs.take k) := by
  rcases h with ⟨hx, ⟨e, h0⟩ | ⟨g, cap, cur, e, hB, hg, hnc, hcm, hs, ht⟩⟩
  · simp only [Value.slice.injEq] at e
    obtain ⟨rfl, rfl, rfl⟩ := e
    have : bs = [] := List.eq_nil_of_length_eq_zero h0
    subst this
    have : k = 0 := by simpa using hk
    subst this
    exact ByRow.nil _ _
  · simp only [Value.slice.injEq] at e
    obtain ⟨rfl, rfl, rfl⟩ := e
    have hl : (bs.take k).length = k := by simp [Nat.min_eq_left hk]
    refine ⟨by simp, .inr ⟨g, c, cur, by rw [hl], hB, hg, by omega, hcm, hs, ?_⟩⟩
    rw [hl, List.map_take, ← ht, List.take_take]
    congr 1
    omega
theorem row_room {B : Nat} {w : World} {a : Option Addr} {n c : Nat} {bs : List UInt8} {k : Nat} (h : ByRow B w (.slice a n c) bs) (hk : (k : Int) ≤ (bs.length : Int)) : (k : Int) ≤ (c : Int) := by
  rcases h with ⟨hx, ⟨e, h0⟩ | ⟨g, cap, cur, e, hB, hg, hnc, hcm, hs, ht⟩⟩
  · simp only [Value.slice.injEq] at e
    omega
  · simp only [Value.slice.injEq] at e
    omega
def burnI (x : Int) : Int := if 0 < x then x - 1 else x
def cutD (d : DiskV) (at' : Nat) : DiskV := ⟨(d.safe ++ d.soft).take at', [], burnI d.fuse, d.down⟩
/-- the step that is done -/
theorem step_done (B : Nat) (w : World) (g gw : Nat) (v0 v1 : Value) (d : DiskV) (h : Drive B w g v0 v1 d) (hw : w.cell? ⟨gw, 0, none⟩ = some (.pointer (some ⟨g, 0, none⟩))) (hf : d.fuse ≠ 0) (hf1 : -1 ≤ d.fuse) (hf2 : d.fuse ≤ 400) :
    Calls Try.prog 30 #[.pointer (some ⟨gw, 0, none⟩)] w fun e w' => e = .returned (.tuple #[]) ∧ Hid (Drive B w' g v0 v1 { d with fuse := burnI d.fuse } ∧ Turn [g] w w') := by
  by_cases h0 : d.fuse = -1
  · refine (step_none B w g gw v0 v1 d h hw h0).mono ?_
    rintro e w' ⟨rfl, rfl⟩
    refine ⟨rfl, hide ⟨?_, Turn.refl _ _⟩⟩
    have : burnI d.fuse = d.fuse := by unfold burnI; rw [if_neg (by omega)]
    rw [this]
    exact h
  · refine (step_burn B w g gw v0 v1 d h hw (by omega) hf2).mono ?_
    rintro e w' ⟨rfl, rfl⟩
    have : burnI d.fuse = d.fuse - 1 := by unfold burnI; rw [if_pos (by omega)]
    rw [this]
    exact ⟨rfl, hide ⟨h.fuse _, (Turn.refl _ _).setCell (by simp) _ _⟩⟩
theorem cut_drive {B : Nat} {w1 w2 : World} {g : Nat} {v0 v1 : Value} {D : DiskV} {a : Option Addr} {k c : Nat} {bs : List UInt8} (h : Drive B w1 g v0 v1 D) (hB : B ≤ w1.heap.size) (b2 : Below w1.heap.size w1 w2) (r : ByRow w1.heap.size w2 (.slice a k c) bs) :
    Drive B ((w2.setCell ⟨g, 0, none⟩ (.slice a k c)).setCell ⟨g, 1, none⟩ (.slice none 0 0)) g (.slice a k c) (.slice none 0 0) ⟨bs, [], D.fuse, D.down⟩ ∧ Turn [g] w1 ((w2.setCell ⟨g, 0, none⟩ (.slice a k c)).setCell ⟨g, 1, none⟩ (.slice none 0 0)) := by
  have ht : Turn [g] w2 ((w2.setCell ⟨g, 0, none⟩ (.slice a k c)).setCell ⟨g, 1, none⟩ (.slice none 0 0)) := ((Turn.refl [g] w2).setCell (by simp) 0 _).setCell (by simp) 1 _
  have h2 := h.up b2
  have ne : ∀ (X : World) (i j : Nat) (v : Value), i ≠ j → (X.setCell ⟨g, j, none⟩ v).cell? ⟨g, i, none⟩ = X.cell? ⟨g, i, none⟩ := fun X i j v h => World.cell?_setCell_other _ _ _ _ (by intro e; have := congrArg Addr.off e; simp only at this; omega)
  have hg := h.lt
  have hk : ∀ x, (Value.slice a k c).ownBlock = some x → x ≠ g := fun x hx => by have := r.ge x hx; omega
  refine ⟨⟨h.le, Nat.lt_of_lt_of_le h2.lt ht.size, ?_, ?_, ?_, ?_, fun i hi => ?_, (r.mono hB).turn ht (fun x hx hm => hk x hx (by simpa using hm)), ByRow.nil _ _, hk, by simp [Value.ownBlock], by simp [Value.ownBlock]⟩, (Turn.of_below b2).trans ht⟩
  · rw [ne _ 0 1 _ (by omega)]; exact World.cell?_setCell_same _ _ _ h2.c0
  · exact World.cell?_setCell_same _ _ _ (by rw [ne _ 1 0 _ (by omega)]; exact h2.c1)
  · rw [ne _ 2 1 _ (by omega), ne _ 2 0 _ (by omega)]; exact h2.c2
  · rw [ne _ 3 1 _ (by omega), ne _ 3 0 _ (by omega)]; exact h2.c3
  · rw [World.frozen?_setCell, World.frozen?_setCell]; exact h2.soft i hi
end Go.Proofs.Ytaajldeejakonaa
