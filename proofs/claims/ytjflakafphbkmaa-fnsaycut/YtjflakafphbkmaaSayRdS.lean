/-
  The specification's reader of words: a number, a name; where it stands, and whether once there were too few bytes.
-/
import Derived.Test.YtjflakafphbkmaaSayReadM
import Derived.Test.YtjflakafphbkmaaByReader
import Derived.Test.YtjflakafphbkmaaBoxes
import Derived.Test.YtjflakafphbkmaaNumU
import Derived.Handy
import Derived.BigQuiet
import Derived.Deep.QuietTactic
set_option linter.unusedVariables false
namespace Go.Proofs.Ytjflakafphbkmaa
open Go.RowKit Go.Maps Go.Deep

structure SR (B g : Nat) (w : World) (v : Value) (bs : List UInt8) (p : Nat) (bad : Bool) : Prop where
  le : B ≤ g
  box : BoxF w g [v, .int .i64 (p : Int), .bool bad]
  by' : ByRd w v bs
  away : AwayFrom B v bs
  at' : p ≤ bs.length
theorem BoxF.three' {w : World} {g : Nat} {a b c : Value} (h : BoxF w g [a, b, c]) : (w.cell? ⟨g, 0, none⟩ = some a ∧ w.cell? ⟨g, 1, none⟩ = some b ∧ w.cell? ⟨g, 2, none⟩ = some c) ∧ (w.frozen? ⟨g, 0, none⟩ = false ∧ w.frozen? ⟨g, 1, none⟩ = false ∧ w.frozen? ⟨g, 2, none⟩ = false) :=
  ⟨⟨h.1.2 0 _ rfl, h.1.2 1 _ rfl, h.1.2 2 _ rfl⟩, h.2 0 (by simp), h.2 1 (by simp), h.2 2 (by simp)⟩
theorem SR.bad {B g : Nat} {w : World} {v : Value} {bs : List UInt8} {p : Nat} {bad : Bool} (h : SR B g w v bs p bad) : SR B g (w.setCell ⟨g, 2, none⟩ (.bool true)) v bs p true :=
  ⟨h.le, by simpa using h.box.set 2 (.bool true) (by simp), ByIn.set h.by' h.away h.le, h.away, h.at'⟩
theorem SR.go {B g : Nat} {w : World} {v : Value} {bs : List UInt8} {p : Nat} {bad : Bool} (h : SR B g w v bs p bad) (q : Nat) (hq : q ≤ bs.length) : SR B g (w.setCell ⟨g, 1, none⟩ (.int .i64 (q : Int))) v bs q bad :=
  ⟨h.le, by simpa using h.box.set 1 (.int .i64 (q : Int)) (by simp), ByIn.set h.by' h.away h.le, h.away, hq⟩
theorem SR.turn {B g : Nat} {S : List Nat} {w w' : World} {v : Value} {bs : List UInt8} {p : Nat} {bad : Bool} (h : SR B g w v bs p bad) (t : Turn S w w') (hg : g ∉ S) (hS : ∀ k ∈ S, B ≤ k) : SR B g w' v bs p bad := by
  refine ⟨h.le, h.box.turn t hg, ?_, h.away, h.at'⟩
  obtain ⟨a, c, rfl, hin, hc⟩ := h.by'
  refine ⟨a, c, rfl, ?_, hc⟩
  rcases hin with h0 | ⟨b, off, rfl, hb, hx⟩
  · exact .inl h0
  · by_cases h0 : bs.length = 0
    · exact .inl (List.eq_nil_of_length_eq_zero h0)
    · have h5 : b < B := h.away _ _ _ rfl (by omega)
      exact .inr ⟨b, off, rfl, Nat.lt_of_lt_of_le hb t.size, fun j hj => (t.cell hb (fun hm => by have := hS b hm; omega)).trans (hx j hj)⟩
def StepN (bs : List UInt8) (p : Nat) (bad : Bool) (n : Nat) (x : Int) (p' : Nat) (bad' : Bool) : Prop :=
  (bad = false ∧ p + n ≤ bs.length ∧ x = numL ((bs.drop p).take n) ∧ p' = p + n ∧ bad' = false) ∨ ((bad = true ∨ bs.length < p + n) ∧ x = 0 ∧ p' = p ∧ bad' = true)
def StepT (bs : List UInt8) (p : Nat) (bad : Bool) (s : ByteArray) (p' : Nat) (bad' : Bool) : Prop :=
  (bad = false ∧ ∃ k r, rdN 1 (bs.drop p) = some (k, r) ∧ rdB k.toNat r = some (s, bs.drop p') ∧ p' ≤ bs.length ∧ bad' = false) ∨ ((bad = true ∨ rdT (bs.drop p) = none) ∧ s = ⟨#[]⟩ ∧ p' ≤ bs.length ∧ bad' = true)
def RetSN (B g : Nat) (w : World) (v : Value) (bs : List UInt8) (p : Nat) (bad : Bool) (n : Nat) (e : Ending) (w' : World) : Prop := ∃ x p' bad', e = .returned (.int .i64 x) ∧ Hid (StepN bs p bad n x p' bad') ∧ Hid (SR B g w' v bs p' bad') ∧ Hid (Turn [g] w w')
theorem by_from {w : World} {a : Option Addr} {m c : Nat} {bs : List UInt8} (h : ByRd w (.slice a m c) bs) (k : Nat) (hk : k ≤ bs.length) : ByRd w (.slice (a.map (fun x => x.add k)) (m - k) (c - k)) (bs.drop k) ∧ (c = k → ByRd w (.slice a (m - k) 0) (bs.drop k)) ∧ m = bs.length ∧ m ≤ c := by
  obtain ⟨a', c', e, hin, hc⟩ := h
  simp only [Value.slice.injEq] at e
  obtain ⟨rfl, rfl, rfl⟩ := e
  refine ⟨cut_drop hin hc k _ rfl hk, fun e => ?_, rfl, hc⟩
  have h0 : bs.length - k = 0 := by omega
  have h1 : bs.drop k = [] := List.eq_nil_of_length_eq_zero (by simpa using h0)
  rw [h0, h1]
  exact ByRd.nil _ _ _
theorem SR.up {B g : Nat} {w w' : World} {v : Value} {bs : List UInt8} {p : Nat} {bad : Bool} (h : SR B g w v bs p bad) (b : Below w.heap.size w w') : SR B g w' v bs p bad := h.turn (Turn.of_below (S := []) b) (by simp) (by simp)
def RetST (B g : Nat) (w : World) (v : Value) (bs : List UInt8) (p : Nat) (bad : Bool) (e : Ending) (w' : World) : Prop := ∃ s p' bad', e = .returned (.string s) ∧ Hid (StepT bs p bad s p' bad') ∧ Hid (SR B g w' v bs p' bad') ∧ Hid (Turn [g] w w')
theorem rdN_few {n : Nat} {r : List UInt8} (h : r.length < n) : rdN n r = none := by unfold rdN; rw [if_neg (by omega)]
theorem rdN_much {n : Nat} {r : List UInt8} (h : n ≤ r.length) : rdN n r = some (numL (r.take n), r.drop n) := by unfold rdN; rw [if_pos h]
theorem by_mid {w : World} {a : Option Addr} {m c : Nat} {bs : List UInt8} (h : ByRd w (.slice a m c) bs) (p k : Nat) (hk : p + k ≤ bs.length) : ByRd w (.slice (a.map (fun x => x.add p)) k (c - p)) ((bs.drop p).take k) ∧ (c = p → ByRd w (.slice a k 0) ((bs.drop p).take k)) := by
  obtain ⟨h1, h2, h3, h4⟩ := by_from h p (by omega)
  obtain ⟨a', c', e, hin, hc⟩ := h1
  simp only [Value.slice.injEq] at e
  obtain ⟨rfl, e2, rfl⟩ := e
  refine ⟨cut_take hin hc k (by simp; omega), fun e => ?_⟩
  have hk0 : k = 0 := by omega
  subst hk0
  rw [List.take_zero]
  exact ByRd.nil _ _ _
end Go.Proofs.Ytjflakafphbkmaa
