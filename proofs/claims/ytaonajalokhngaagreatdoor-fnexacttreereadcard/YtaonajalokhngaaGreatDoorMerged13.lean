/-
  Lists of Word in memory, and the law's own helpers over them: how much they hold, how they are copied, how two lists are compared, and how one that comes in is opened. (Made by wip/mkrows.py.)
-/
/-
  Lists of Word for reading and of one's own: copied, compared, marked, and found marked again. (Made by wip/mkrows.py.)
-/
import Derived.Test.YtaonajalokhngaaGreatDoorMerged10
import Derived.Test.YtaonajalokhngaaGreatDoorBodyM
import Derived.Deep.RegionWith
import Derived.Deep.Slices
import Derived.ProofKit
import Derived.OpenShut
import Derived.Deep.RegionHeld3
set_option linter.unusedVariables false
namespace Go.Proofs.YtaonajalokhngaaGreatDoor
open Go.RowKit Go.Maps Go.Deep


/-- they lie one behind the other, from a place of a block on -/
def WordAt (w : World) (b off : Nat) (ns : List WordV) : Prop :=
  ∀ i (h : i < ns.length), w.cell? ⟨b, off + i * 3, none⟩ = some (.int .i64 (ns[i].a0)) ∧ w.cell? ⟨b, off + i * 3 + 1, none⟩ = some (.string (ns[i].a1)) ∧ w.cell? ⟨b, off + i * 3 + 2, none⟩ = some (.int .i64 (ns[i].a2))
def WordOk (ns : List WordV) : Prop := ∀ x ∈ ns, WordFit x
/-- what the bound gives where it is not passed -/
def WordSmall (ns : List WordV) : Prop := ns.length ≤ 1048576 ∧ ∀ x ∈ ns, x.a1.size ≤ 1048576

/-- what is left, or less than nothing -/
def WordSLeft (n1 : Nat) (left r : Int) : Prop := r ≤ left ∧ (0 ≤ r → (n1 : Int) ≤ left)
def RetWordSz (ns : List WordV) (left0 : Int) (e : Ending) : Prop := ∃ r : Int, e = .returned (.int .i64 r) ∧ r ≤ left0 ∧ (0 ≤ r → WordSmall ns)
theorem infoWord : (Tryz.prog.info? 39).map (fun i => (i.zero, i.size, i.bytes)) = some (some (.agg #[.int .i64 0, .string ByteArray.empty, .int .i64 0]), 3, 32) := by kernel_rfl

def WordTo (xs : List Value) (ns : List WordV) (k : Nat) : Prop :=
  ∀ i (h : i < ns.length), i < k → xs[i * 3]? = some (.int .i64 (ns[i].a0)) ∧ xs[i * 3 + 1]? = some (.string (ns[i].a1)) ∧ xs[i * 3 + 2]? = some (.int .i64 (ns[i].a2))
theorem wordTo_step (xs : List Value) (ns : List WordV) (k : Nat) (hk : k < ns.length) (hx : xs.length = ns.length * 3) (h : WordTo xs ns k) :
    WordTo (((xs.set (k * 3) (.int .i64 (ns[k].a0))).set (k * 3 + 1) (.string (ns[k].a1))).set (k * 3 + 2) (.int .i64 (ns[k].a2))) ns (k + 1) := by
  intro i hi hik
  by_cases e : i = k
  · subst e
    simp [List.getElem?_set, hx]
    omega
  · obtain ⟨c0, c1, c2⟩ := h i hi (by omega)
    refine ⟨?_, ?_, ?_⟩ <;> (repeat rw [List.getElem?_set_ne (by omega)]) <;> assumption

theorem ownsRowWord_below {w w' : World} {base B : Nat} {e : TypeId} {size : Nat} {g n cap : Nat} {xs : List Value} (h : w.ownsRow base e size (.slice (some ⟨g, 0, none⟩) n cap) n xs) (hb : Below B w w') (hg : g < B) :
    w'.ownsRow base e size (.slice (some ⟨g, 0, none⟩) n cap) n xs := by
  refine ⟨h.1, ?_⟩
  rcases h.2 with ⟨h', _⟩ | ⟨g', cap', cur, h', h1, h2, h3⟩
  · simp at h'
  · refine .inr ⟨g', cap', cur, h', h1, ?_, h3⟩
    simp only [Value.slice.injEq, Option.some.injEq, Addr.mk.injEq, and_true, true_and] at h'
    obtain ⟨rfl, rfl⟩ := h'
    rw [hb.block g hg]; exact h2
theorem wordCells {w : World} {base : Nat} {e : TypeId} {g n cap : Nat} {xs : List Value} (h : w.ownsRow base e 3 (.slice (some ⟨g, 0, none⟩) n cap) n xs) (k : Nat) (hk : k < n) :
    ∃ v0 v1 v2, w.cell? ⟨g, k * 3, none⟩ = some v0 ∧ w.cell? ⟨g, k * 3 + 1, none⟩ = some v1 ∧ w.cell? ⟨g, k * 3 + 2, none⟩ = some v2 ∧ w.frozen? ⟨g, k * 3, none⟩ = false ∧ w.frozen? ⟨g, k * 3 + 1, none⟩ = false ∧ w.frozen? ⟨g, k * 3 + 2, none⟩ = false := by
  have hx := h.1
  refine ⟨xs[k * 3]'(by omega), xs[k * 3 + 1]'(by omega), xs[k * 3 + 2]'(by omega), ?_, ?_, ?_, h.frozenAt _, h.frozenAt _, h.frozenAt _⟩
  all_goals
    rw [h.cellAt _ (by omega)]
    exact List.getElem?_eq_getElem _
theorem wordStore {w : World} {base : Nat} {e : TypeId} {g n cap : Nat} {xs : List Value} (h : w.ownsRow base e 3 (.slice (some ⟨g, 0, none⟩) n cap) n xs) (k : Nat) (v0 v1 v2 : Value) :
    ((((w.setCell ⟨g, k * 3, none⟩ v0).setCell ⟨g, k * 3 + 1, none⟩ v1).setCell ⟨g, k * 3 + 2, none⟩ v2)).ownsRow base e 3 (.slice (some ⟨g, 0, none⟩) n cap) n (((xs.set (k * 3) v0).set (k * 3 + 1) v1).set (k * 3 + 2) v2) :=
  (((h.stored (k * 3) v0).1.stored (k * 3 + 1) v1).1.stored (k * 3 + 2) v2).1
theorem wordOfRow {w : World} {base : Nat} {e : TypeId} {g n cap : Nat} {xs : List Value} {ns : List WordV} (h : w.ownsRow base e 3 (.slice (some ⟨g, 0, none⟩) n cap) n xs) (hn : ns.length = n) (ht : WordTo xs ns n) : WordAt w g 0 ns := by
  intro i hi
  obtain ⟨c0, c1, c2⟩ := ht i hi (by omega)
  refine ⟨?_, ?_, ?_⟩
  all_goals
    rw [Nat.zero_add, h.cellAt _ (by omega)]
    assumption

/-- a slice value leads to these: empty, or a row of them -/
def WordIn (w : World) (a : Option Addr) (ns : List WordV) : Prop :=
  ns = [] ∨ ∃ b off, a = some ⟨b, off, none⟩ ∧ b < w.heap.size ∧ WordAt w b off ns
theorem WordAt.below {w w' : World} {B b off : Nat} {ns : List WordV} (h : WordAt w b off ns) (hb : Below B w w') (hB : b < B) : WordAt w' b off ns := by
  intro i hi
  obtain ⟨c0, c1, c2⟩ := h i hi
  exact ⟨(hb.cell (by exact hB)).trans c0, (hb.cell (by exact hB)).trans c1, (hb.cell (by exact hB)).trans c2⟩
theorem WordIn.below {w w' : World} {a : Option Addr} {ns : List WordV} (h : WordIn w a ns) (hb : Below w.heap.size w w') : WordIn w' a ns := by
  rcases h with h | ⟨b, off, e, hlt, hn⟩
  · exact .inl h
  · exact .inr ⟨b, off, e, Nat.lt_of_lt_of_le hlt hb.size, hn.below hb hlt⟩
theorem cellsIWord : Tryz.prog.cellsOf 3 = 1 := by kernel_rfl
theorem cellsSWord : Tryz.prog.cellsOf 9 = 1 := by kernel_rfl
theorem lt_of_cellWord {w : World} {b off : Nat} {v : Value} (h : w.cell? ⟨b, off, none⟩ = some v) : b < w.heap.size := by
  by_cases hb : b < w.heap.size
  · exact hb
  · exfalso
    have : w.heap[b]? = none := Array.getElem?_eq_none (by omega)
    simp [World.cell?, this] at h
theorem wordRange {k : Int} (h : (Lit.int .i64 k).wf = true) : -9223372036854775808 ≤ k ∧ k ≤ 9223372036854775807 := bounds_i64 h
end Go.Proofs.YtaonajalokhngaaGreatDoor

set_option linter.unusedVariables false
namespace Go.Proofs.YtaonajalokhngaaGreatDoor
open Go.RowKit Go.Maps Go.Deep

def WordSRd (w : World) (v : Value) (ns : List WordV) : Prop := ∃ a c, v = .slice a ns.length c ∧ WordIn w a ns
def WordSOwn (S : List Nat) (w : World) (v : Value) (ns : List WordV) : Prop :=
  (S = [] ∧ ns = [] ∧ ∃ a c, v = .slice a 0 c) ∨ ∃ b off cap, S = [b] ∧ v = .slice (some ⟨b, off, none⟩) ns.length cap ∧ b < w.heap.size ∧ WordAt w b off ns ∧ ∀ i, i < ns.length * 3 → w.frozen? ⟨b, off + i, none⟩ = false
theorem WordAt.turn {w w' : World} {S : List Nat} {b off : Nat} {ns : List WordV} (h : WordAt w b off ns) (ht : Turn S w w') (hb : b < w.heap.size) (hS : b ∉ S) : WordAt w' b off ns := by
  intro i hi
  obtain ⟨c0, c1, c2⟩ := h i hi
  exact ⟨(ht.cell hb hS).trans c0, (ht.cell hb hS).trans c1, (ht.cell hb hS).trans c2⟩
theorem WordSRd.up {w w' : World} {v : Value} {ns : List WordV} (h : WordSRd w v ns) (hb : Below w.heap.size w w') : WordSRd w' v ns := by
  obtain ⟨a, c, e, h⟩ := h
  exact ⟨a, c, e, h.below hb⟩
theorem WordSRd.len {w : World} {v : Value} {ns : List WordV} (h : WordSRd w v ns) : ∃ a c, v = .slice a ns.length c := by
  obtain ⟨a, c, e, _⟩ := h
  exact ⟨a, c, e⟩
theorem WordSRd.form {w : World} {v : Value} {ns : List WordV} (h : WordSRd w v ns) : ∃ a n c, v = .slice a n c := by
  obtain ⟨a, c, e⟩ := h.len
  exact ⟨a, _, c, e⟩
theorem WordSOwn.rd {S : List Nat} {w : World} {v : Value} {ns : List WordV} (h : WordSOwn S w v ns) : WordSRd w v ns := by
  rcases h with ⟨_, rfl, a, c, rfl⟩ | ⟨b, off, cap, _, rfl, hb, hc, _⟩
  · exact ⟨a, c, rfl, .inl rfl⟩
  · exact ⟨_, cap, rfl, .inr ⟨b, off, rfl, hb, hc⟩⟩
theorem WordSOwn.turn {S S' : List Nat} {w w' : World} {v : Value} {ns : List WordV} (h : WordSOwn S w v ns) (ht : Turn S' w w') (hS : ∀ k ∈ S, k ∉ S') : WordSOwn S w' v ns := by
  rcases h with h | ⟨b, off, cap, rfl, rfl, hb, hc, hf⟩
  · exact .inl h
  · have hn := hS b (by simp)
    exact .inr ⟨b, off, cap, rfl, rfl, Nat.lt_of_lt_of_le hb ht.size, hc.turn ht hb hn, fun i hi => (ht.frozen hb hn).trans (hf i hi)⟩
theorem WordSOwn.up {S : List Nat} {w w' : World} {v : Value} {ns : List WordV} (h : WordSOwn S w v ns) (hb : Below w.heap.size w w') : WordSOwn S w' v ns := h.turn (Turn.of_below (S := []) hb) (by simp)
theorem WordSOwn.lt {S : List Nat} {w : World} {v : Value} {ns : List WordV} (h : WordSOwn S w v ns) : ∀ k ∈ S, k < w.heap.size := by
  rcases h with ⟨rfl, _⟩ | ⟨b, off, cap, rfl, rfl, hb, _⟩
  · simp
  · simpa using hb
def SmallWordS (ns : List WordV) : Prop := WordSmall ns ∧ WordOk ns
def WordSFit (ns : List WordV) : Prop := ns.length ≤ maxLen ∧ WordOk ns
def nWordS (ns : List WordV) : Nat := 3 * ns.length
theorem nWordS_le {ns : List WordV} (h : SmallWordS ns) : nWordS ns ≤ 100000000 := by have := h.1.1; unfold nWordS; omega
end Go.Proofs.YtaonajalokhngaaGreatDoor
