/-
  The specification's SayRead. (Made by wip/mksayread.py.)
-/
import Derived.Test.YtjflakafphbkmaaSayTrack
import Derived.Test.YtjflakafphbkmaaSayBytesS
import Derived.Test.YtjflakafphbkmaaVerApp
import Derived.Test.YtjflakafphbkmaaLess
set_option linter.unusedVariables false
namespace Go.Proofs.Ytjflakafphbkmaa
open Go.RowKit Go.Maps Go.Deep

def RetRdS (bs : List UInt8) (w : World) (e : Ending) (w' : World) : Prop := ∃ v, e = .returned (.tuple #[v, .bool (sayRd bs).isSome]) ∧ Hid (SayRd w' v ((sayRd bs).getD noSay)) ∧ Below w.heap.size w w'
theorem BoxF.six {w : World} {g : Nat} {a b c d e f : Value} (h : BoxF w g [a, b, c, d, e, f]) : (w.cell? ⟨g, 0, none⟩ = some a ∧ w.cell? ⟨g, 1, none⟩ = some b ∧ w.cell? ⟨g, 2, none⟩ = some c ∧ w.cell? ⟨g, 3, none⟩ = some d ∧ w.cell? ⟨g, 4, none⟩ = some e ∧ w.cell? ⟨g, 5, none⟩ = some f) ∧ (w.frozen? ⟨g, 0, none⟩ = false ∧ w.frozen? ⟨g, 1, none⟩ = false ∧ w.frozen? ⟨g, 2, none⟩ = false ∧ w.frozen? ⟨g, 3, none⟩ = false ∧ w.frozen? ⟨g, 4, none⟩ = false ∧ w.frozen? ⟨g, 5, none⟩ = false) :=
  ⟨h.1.six, h.2 0 (by simp), h.2 1 (by simp), h.2 2 (by simp), h.2 3 (by simp), h.2 4 (by simp), h.2 5 (by simp)⟩
theorem fill6 {w : World} {g : Nat} {z0 z1 z2 z3 z4 z5 : Value} (h : BoxF w g [z0, z1, z2, z3, z4, z5]) (a b c d e f : Value) :
    BoxF ((((((w.setCell ⟨g, 0, none⟩ a).setCell ⟨g, 1, none⟩ b).setCell ⟨g, 2, none⟩ c).setCell ⟨g, 3, none⟩ d).setCell ⟨g, 4, none⟩ e).setCell ⟨g, 5, none⟩ f) g [a, b, c, d, e, f] ∧ Turn [g] w ((((((w.setCell ⟨g, 0, none⟩ a).setCell ⟨g, 1, none⟩ b).setCell ⟨g, 2, none⟩ c).setCell ⟨g, 3, none⟩ d).setCell ⟨g, 4, none⟩ e).setCell ⟨g, 5, none⟩ f) := by
  have h0 := h.set 0 a (by simp)
  have h1 := h0.set 1 b (by simp)
  have h2 := h1.set 2 c (by simp)
  have h3 := h2.set 3 d (by simp)
  have h4 := h3.set 4 e (by simp)
  have h5 := h4.set 5 f (by simp)
  simp only [List.set] at h5
  exact ⟨h5, ((((((Turn.refl _ _).setCell (by simp) _ _).setCell (by simp) _ _).setCell (by simp) _ _).setCell (by simp) _ _).setCell (by simp) _ _).setCell (by simp) _ _⟩
theorem ret_noS {bs : List UInt8} {w W : World} (h : sayRd bs = none) (b : Below w.heap.size w W) : RetRdS bs w (.returned (.tuple #[.agg #[.int .i64 0, .int .i64 0, .int .i64 0, .string ⟨#[]⟩, .int .i64 0, .slice none 0 0], .bool false])) W :=
  ⟨_, by rw [h]; rfl, hide (by rw [h]; exact ⟨_, rfl, none, 0, rfl, .inl rfl⟩), b⟩
theorem bytes_neq {s t : ByteArray} (h : s ≠ t) : (s.toList == t.toList) = false := by
  rw [str_same]
  exact decide_eq_false h
/-- a list of versions that no turned block holds -/
def NotIn (g : Nat) (v : Value) : Prop := ∀ a n c, v = .slice (some a) n c → a.block ≠ g
theorem ver_turn {w w' : World} {v : Value} {vs : List VerV} {g : Nat} (h : VerRd w v vs) (t : Turn [g] w w') (hn : NotIn g v) : VerRd w' v vs := by
  obtain ⟨a, c, rfl, hin⟩ := h
  refine ⟨a, c, rfl, ?_⟩
  rcases hin with h0 | ⟨b, off, rfl, hb, hx⟩
  · exact .inl h0
  · have hne : b ≠ g := hn _ _ _ rfl
    exact .inr ⟨b, off, rfl, Nat.lt_of_lt_of_le hb t.size, hx.turn t hb (by simpa using hne)⟩
theorem bfTwo {w : World} {g : Nat} {a b : Value} (h : BoxF w g [a, b]) : (w.cell? ⟨g, 0, none⟩ = some a ∧ w.cell? ⟨g, 1, none⟩ = some b) ∧ (w.frozen? ⟨g, 0, none⟩ = false ∧ w.frozen? ⟨g, 1, none⟩ = false) :=
  ⟨h.1.two, h.2 0 (by simp), h.2 1 (by simp)⟩
theorem sr_new {w W : World} {v : Value} {bs : List UInt8} (h : ByRd w v bs) (b : Below w.heap.size w W) (hb : BoxF W (w.heap.size + 1) [v, .int .i64 0, .bool false]) : SR w.heap.size (w.heap.size + 1) W v bs 0 false :=
  ⟨by omega, hb, h.up b, fun a m c e h1 => by
    obtain ⟨a', c', e', hin, _⟩ := h
    rw [e'] at e
    simp only [Value.slice.injEq] at e
    rcases hin with h0 | ⟨b, off, e2, hb, _⟩
    · rw [h0] at h1; simp at h1
    · have e3 := e.1.symm.trans e2
      simp only [Option.some.injEq] at e3
      rw [e3]
      exact hb, by omega⟩
end Go.Proofs.Ytjflakafphbkmaa
