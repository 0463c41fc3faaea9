/-
  Lists of Mark in memory, and the law's own helpers over them: how much they hold, how they are copied, how two lists are compared, and how one that comes in is opened. (Made by wip/mkrows.py.)
-/
import Derived.Test.YtiebfcefmdiajaaGreatDoorBytes
import Derived.Deep.RegionWith
import Derived.Deep.Slices
import Derived.ProofKit
import Derived.OpenShut
set_option linter.unusedVariables false
namespace Go.Proofs.YtiebfcefmdiajaaGreatDoor
open Go.RowKit Go.Maps Go.Deep

structure MarkV where
  a0 : ByteArray
  a1 : Int

/-- they lie one behind the other, from a place of a block on -/
def MarkAt (w : World) (b off : Nat) (ns : List MarkV) : Prop :=
  ∀ i (h : i < ns.length), w.cell? ⟨b, off + i * 2, none⟩ = some (.string (ns[i].a0)) ∧ w.cell? ⟨b, off + i * 2 + 1, none⟩ = some (.int .i64 (ns[i].a1))
def MarkFit (x : MarkV) : Prop := x.a0.size ≤ maxLen ∧ (-9223372036854775808 ≤ x.a1 ∧ x.a1 ≤ 9223372036854775807)
def MarkOk (ns : List MarkV) : Prop := ∀ x ∈ ns, MarkFit x
/-- what the bound gives where it is not passed -/
def MarkSmall (ns : List MarkV) : Prop := ns.length ≤ 1048576 ∧ ∀ x ∈ ns, x.a0.size ≤ 1048576

/-- what is left, or less than nothing -/
def MarkSLeft (n0 : Nat) (left r : Int) : Prop := r ≤ left ∧ (0 ≤ r → (n0 : Int) ≤ left)
def RetMarkSz (ns : List MarkV) (left0 : Int) (e : Ending) : Prop := ∃ r : Int, e = .returned (.int .i64 r) ∧ r ≤ left0 ∧ (0 ≤ r → MarkSmall ns)
def MarkTo (xs : List Value) (ns : List MarkV) (k : Nat) : Prop :=
  ∀ i (h : i < ns.length), i < k → xs[i * 2]? = some (.string (ns[i].a0)) ∧ xs[i * 2 + 1]? = some (.int .i64 (ns[i].a1))
theorem markTo_step (xs : List Value) (ns : List MarkV) (k : Nat) (hk : k < ns.length) (hx : xs.length = ns.length * 2) (h : MarkTo xs ns k) :
    MarkTo ((xs.set (k * 2) (.string (ns[k].a0))).set (k * 2 + 1) (.int .i64 (ns[k].a1))) ns (k + 1) := by
  intro i hi hik
  by_cases e : i = k
  · subst e
    simp [List.getElem?_set, hx]
    omega
  · obtain ⟨c0, c1⟩ := h i hi (by omega)
    refine ⟨?_, ?_⟩ <;> (repeat rw [List.getElem?_set_ne (by omega)]) <;> assumption

theorem ownsRowMark_below {w w' : World} {base B : Nat} {e : TypeId} {size : Nat} {g n cap : Nat} {xs : List Value} (h : w.ownsRow base e size (.slice (some ⟨g, 0, none⟩) n cap) n xs) (hb : Below B w w') (hg : g < B) :
    w'.ownsRow base e size (.slice (some ⟨g, 0, none⟩) n cap) n xs := by
  refine ⟨h.1, ?_⟩
  rcases h.2 with ⟨h', _⟩ | ⟨g', cap', cur, h', h1, h2, h3⟩
  · simp at h'
  · refine .inr ⟨g', cap', cur, h', h1, ?_, h3⟩
    simp only [Value.slice.injEq, Option.some.injEq, Addr.mk.injEq, and_true, true_and] at h'
    obtain ⟨rfl, rfl⟩ := h'
    rw [hb.block g hg]; exact h2
theorem markCells {w : World} {base : Nat} {e : TypeId} {g n cap : Nat} {xs : List Value} (h : w.ownsRow base e 2 (.slice (some ⟨g, 0, none⟩) n cap) n xs) (k : Nat) (hk : k < n) :
    ∃ v0 v1, w.cell? ⟨g, k * 2, none⟩ = some v0 ∧ w.cell? ⟨g, k * 2 + 1, none⟩ = some v1 ∧ w.frozen? ⟨g, k * 2, none⟩ = false ∧ w.frozen? ⟨g, k * 2 + 1, none⟩ = false := by
  have hx := h.1
  refine ⟨xs[k * 2]'(by omega), xs[k * 2 + 1]'(by omega), ?_, ?_, h.frozenAt _, h.frozenAt _⟩
  all_goals
    rw [h.cellAt _ (by omega)]
    exact List.getElem?_eq_getElem _
theorem markStore {w : World} {base : Nat} {e : TypeId} {g n cap : Nat} {xs : List Value} (h : w.ownsRow base e 2 (.slice (some ⟨g, 0, none⟩) n cap) n xs) (k : Nat) (v0 v1 : Value) :
    (((w.setCell ⟨g, k * 2, none⟩ v0).setCell ⟨g, k * 2 + 1, none⟩ v1)).ownsRow base e 2 (.slice (some ⟨g, 0, none⟩) n cap) n ((xs.set (k * 2) v0).set (k * 2 + 1) v1) :=
  ((h.stored (k * 2) v0).1.stored (k * 2 + 1) v1).1
theorem markOfRow {w : World} {base : Nat} {e : TypeId} {g n cap : Nat} {xs : List Value} {ns : List MarkV} (h : w.ownsRow base e 2 (.slice (some ⟨g, 0, none⟩) n cap) n xs) (hn : ns.length = n) (ht : MarkTo xs ns n) : MarkAt w g 0 ns := by
  intro i hi
  obtain ⟨c0, c1⟩ := ht i hi (by omega)
  refine ⟨?_, ?_⟩
  all_goals
    rw [Nat.zero_add, h.cellAt _ (by omega)]
    assumption

/-- a slice value leads to these: empty, or a row of them -/
def MarkIn (w : World) (a : Option Addr) (ns : List MarkV) : Prop :=
  ns = [] ∨ ∃ b off, a = some ⟨b, off, none⟩ ∧ b < w.heap.size ∧ MarkAt w b off ns
theorem MarkAt.below {w w' : World} {B b off : Nat} {ns : List MarkV} (h : MarkAt w b off ns) (hb : Below B w w') (hB : b < B) : MarkAt w' b off ns := by
  intro i hi
  obtain ⟨c0, c1⟩ := h i hi
  exact ⟨(hb.cell (by exact hB)).trans c0, (hb.cell (by exact hB)).trans c1⟩
theorem MarkIn.below {w w' : World} {a : Option Addr} {ns : List MarkV} (h : MarkIn w a ns) (hb : Below w.heap.size w w') : MarkIn w' a ns := by
  rcases h with h | ⟨b, off, e, hlt, hn⟩
  · exact .inl h
  · exact .inr ⟨b, off, e, Nat.lt_of_lt_of_le hlt hb.size, hn.below hb hlt⟩
theorem cellsIMark : Tryz.prog.cellsOf 3 = 1 := by kernel_rfl
theorem cellsSMark : Tryz.prog.cellsOf 9 = 1 := by kernel_rfl
theorem lt_of_cellMark {w : World} {b off : Nat} {v : Value} (h : w.cell? ⟨b, off, none⟩ = some v) : b < w.heap.size := by
  by_cases hb : b < w.heap.size
  · exact hb
  · exfalso
    have : w.heap[b]? = none := Array.getElem?_eq_none (by omega)
    simp [World.cell?, this] at h
theorem markRange {k : Int} (h : (Lit.int .i64 k).wf = true) : -9223372036854775808 ≤ k ∧ k ≤ 9223372036854775807 := bounds_i64 h
end Go.Proofs.YtiebfcefmdiajaaGreatDoor
