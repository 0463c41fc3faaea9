/-
  A reader at work: where it stands at most, and that nothing older than the draw was written but the reader itself.
-/
import Derived.Test.YteonbigmggeneaaDoorReader
set_option linter.unusedVariables false
namespace Go.Proofs.YteonbigmggeneaaDoor
open Go.RowKit Go.Maps Go.Deep

structure Rdy (base g N : Nat) (w0 w : World) : Prop where
  lt : g < w0.heap.size
  rd : ∃ p, p ≤ N ∧ RdIn base w g p
  turn : Turn [g] w0 w
theorem Rdy.refl {base g p N : Nat} {w : World} (h : RdIn base w g p) (hp : p ≤ N) : Rdy base g N w w := ⟨h.lt, ⟨p, hp, h⟩, Turn.refl _ _⟩
theorem Rdy.more {base g N M : Nat} {w0 w : World} (h : Rdy base g N w0 w) (hN : N ≤ M) : Rdy base g M w0 w := ⟨h.lt, let ⟨p, h1, h2⟩ := h.rd; ⟨p, Nat.le_trans h1 hN, h2⟩, h.turn⟩
/-- from the world itself -/
theorem Rdy.self {base g N : Nat} {w0 w : World} (h : Rdy base g N w0 w) : Rdy base g N w w := ⟨Nat.lt_of_lt_of_le h.lt h.turn.size, h.rd, Turn.refl _ _⟩
theorem Rdy.on {base g N M : Nat} {w0 w w' : World} (h : Rdy base g N w0 w) (k : Rdy base g M w w') : Rdy base g M w0 w' := ⟨h.lt, k.rd, h.turn.trans k.turn⟩
/-- nothing old is written: S, if any, lies behind the draw's beginning -/
theorem Rdy.turns {base g N : Nat} {S : List Nat} {w0 w w' : World} (h : Rdy base g N w0 w) (t : Turn S w w') (hS : ∀ k ∈ S, w0.heap.size ≤ k) : Rdy base g N w0 w' := by
  obtain ⟨p, hp, hr⟩ := h.rd
  refine ⟨h.lt, ⟨p, hp, hr.turn t (fun hm => by have := hS _ hm; have := h.lt; omega) (fun k hk => by have := hS k hk; have := h.lt; have := hr.above; omega)⟩, ?_⟩
  have q1 : Turn ([g] ++ S) w0 w' := (h.turn.mono (fun k hk => .inl (by simp at hk; simp [hk]))).trans (t.mono (fun k hk => .inl (by simp [hk])))
  exact q1.mono (fun k hk => by
    rcases List.mem_append.1 hk with hk | hk
    · exact .inl hk
    · exact .inr (hS k hk))
theorem Rdy.up {base g N : Nat} {w0 w w' : World} (h : Rdy base g N w0 w) (b : Below w.heap.size w w') : Rdy base g N w0 w' := h.turns (Turn.of_below (S := []) b) (by simp)
theorem Rdy.alloc {base g N : Nat} {w0 w : World} (h : Rdy base g N w0 w) (o : Obj) : Rdy base g N w0 (w.alloc o) := h.up ((Below.refl _ _).alloc (Nat.le_refl _) o)
theorem Rdy.grown {base g N : Nat} {w0 w w' : World} {row : Option Nat} (h : Rdy base g N w0 w) (hg : w.grownBy w' row) (hr : ∀ k, row = some k → w0.heap.size ≤ k) : Rdy base g N w0 w' := by
  cases row with
  | none => exact h.turns (S := []) (Turn.of_grown hg (by simp)) (by simp)
  | some k => exact h.turns (S := [k]) (Turn.of_grown hg (by simp)) (by simpa using hr k rfl)
theorem Rdy.size {base g N : Nat} {w0 w : World} (h : Rdy base g N w0 w) : w0.heap.size ≤ w.heap.size := h.turn.size
def RetPk (base g N : Nat) (m : Int) (w0 w : World) (e : Ending) (w' : World) : Prop := ∃ v : Nat, e = .returned (.int .i64 (v : Int)) ∧ (v : Int) < m ∧ Hid (Rdy base g N w0 w') ∧ Hid (Turn [g] w w')
theorem pick_rdy (base g N : Nat) (m : Int) (w0 w : World) (h1 : 1 ≤ m) (h2 : m ≤ 1048576) (hN : N ≤ 1000000000) (h : Rdy base g N w0 w) :
    Calls Tryd.prog 25 #[.pointer (some ⟨g, 0, none⟩), .int .i64 m] w fun e w' => RetPk base g (N + 1) m w0 w e w' := by
  obtain ⟨p, hp, hr⟩ := h.rd
  refine (pick_any w base g p m h1 h2 (by omega) hr).mono ?_
  rintro e w' ⟨v, rfl, h3, h4, h5, h6⟩
  obtain ⟨n, rfl⟩ := Int.eq_ofNat_of_zero_le h3
  exact ⟨n, rfl, h4, hide ⟨h.lt, ⟨p + 1, by omega, h5⟩, h.turn.trans h6⟩, hide h6⟩
end Go.Proofs.YteonbigmggeneaaDoor
