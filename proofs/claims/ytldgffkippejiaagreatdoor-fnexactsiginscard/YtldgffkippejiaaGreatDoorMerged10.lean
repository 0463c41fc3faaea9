/-
  Lists of Word in memory, and the law's own helpers over them: how much they hold, how they are copied, how two lists are compared, and how one that comes in is opened. (Made by wip/mkrows.py.)
-/
/-
  Lists of Word for reading and of one's own: copied, compared, marked, and found marked again. (Made by wip/mkrows.py.)
-/
/-
  Boxed variables in memory: what a block of cells holds, kept from world to world.
-/
import Derived.Test.YtldgffkippejiaaGreatDoorMerged8
import Derived.Test.YtldgffkippejiaaGreatDoorBodyM
import Derived.Deep.RegionWith
import Derived.Deep.Slices
import Derived.ProofKit
import Derived.OpenShut
import Derived.Deep.RegionHeld3
set_option linter.unusedVariables false
namespace Go.Proofs.YtldgffkippejiaaGreatDoor
open Go.RowKit Go.Maps Go.Deep


/-- they lie one behind the other, from a place of a block on -/
def WordAt (w : World) (b off : Nat) (ns : List WordV) : Prop :=
  ∀ i (h : i < ns.length), w.cell? ⟨b, off + i * 3, none⟩ = some (.int .i64 (ns[i].a0)) ∧ w.cell? ⟨b, off + i * 3 + 1, none⟩ = some (.string (ns[i].a1)) ∧ w.cell? ⟨b, off + i * 3 + 2, none⟩ = some (.int .i64 (ns[i].a2))
def WordOk (ns : List WordV) : Prop := ∀ x ∈ ns, WordFit x
/-- what the bound gives where it is not passed -/
def WordSmall (ns : List WordV) : Prop := ns.length ≤ 1048576 ∧ ∀ x ∈ ns, x.a1.size ≤ 1048576

/-- what is left, or less than nothing -/
def WordSLeft (n1 : Nat) (left r : Int) : Prop := r ≤ left ∧ (0 ≤ r → (n1 : Int) ≤ left)
def RetWordSz (ns : List WordV) (left0 : Int) (e : Ending) : Prop := ∃ r : Int, e = .returned (.int .i64 r) ∧ r ≤ left0 ∧ (0 ≤ r → WordSmall ns)
theorem infoWord : (Tryz.prog.info? 54).map (fun i => (i.zero, i.size, i.bytes)) = some (some (.agg #[.int .i64 0, .string ByteArray.empty, .int .i64 0]), 3, 32) := by kernel_rfl

def WordTo (xs : List Value) (ns : List WordV) (k : Nat) : Prop :=
  ∀ i (h : i < ns.length), i < k → xs[i * 3]? = some (.int .i64 (ns[i].a0)) ∧ xs[i * 3 + 1]? = some (.string (ns[i].a1)) ∧ xs[i * 3 + 2]? = some (.int .i64 (ns[i].a2))
theorem wordTo_step (xs : List Value) (ns : List WordV) (k : Nat) (hk : k < ns.length) (hx : xs.length = ns.length * 3) (h : WordTo xs ns k) :
    WordTo (((xs.set (k * 3) (.int .i64 (ns[k].a0))).set (k * 3 + 1) (.string (ns[k].a1))).set (k * 3 + 2) (.int .i64 (ns[k].a2))) ns (k + 1) := by
  intro i hi hik
  by_cases e : i = k
  · subst e
    simp [List.getElem?_set, hx]
    omega
  · obtain ⟨c0, c1, c2⟩ := h i hi (by omega)
    refine ⟨?_, ?_, ?_⟩ <;> (repeat rw [List.getElem?_set_ne (by omega)]) <;> assumption

theorem ownsRowWord_below {w w' : World} {base B : Nat} {e : TypeId} {size : Nat} {g n cap : Nat} {xs : List Value} (h : w.ownsRow base e size (.slice (some ⟨g, 0, none⟩) n cap) n xs) (hb : Below B w w') (hg : g < B) :
    w'.ownsRow base e size (.slice (some ⟨g, 0, none⟩) n cap) n xs := by
  refine ⟨h.1, ?_⟩
  rcases h.2 with ⟨h', _⟩ | ⟨g', cap', cur, h', h1, h2, h3⟩
  · simp at h'
  · refine .inr ⟨g', cap', cur, h', h1, ?_, h3⟩
    simp only [Value.slice.injEq, Option.some.injEq, Addr.mk.injEq, and_true, true_and] at h'
    obtain ⟨rfl, rfl⟩ := h'
    rw [hb.block g hg]; exact h2
theorem wordCells {w : World} {base : Nat} {e : TypeId} {g n cap : Nat} {xs : List Value} (h : w.ownsRow base e 3 (.slice (some ⟨g, 0, none⟩) n cap) n xs) (k : Nat) (hk : k < n) :
    ∃ v0 v1 v2, w.cell? ⟨g, k * 3, none⟩ = some v0 ∧ w.cell? ⟨g, k * 3 + 1, none⟩ = some v1 ∧ w.cell? ⟨g, k * 3 + 2, none⟩ = some v2 ∧ w.frozen? ⟨g, k * 3, none⟩ = false ∧ w.frozen? ⟨g, k * 3 + 1, none⟩ = false ∧ w.frozen? ⟨g, k * 3 + 2, none⟩ = false := by
  have hx := h.1
  refine ⟨xs[k * 3]'(by omega), xs[k * 3 + 1]'(by omega), xs[k * 3 + 2]'(by omega), ?_, ?_, ?_, h.frozenAt _, h.frozenAt _, h.frozenAt _⟩
  all_goals
    rw [h.cellAt _ (by omega)]
    exact List.getElem?_eq_getElem _
theorem wordStore {w : World} {base : Nat} {e : TypeId} {g n cap : Nat} {xs : List Value} (h : w.ownsRow base e 3 (.slice (some ⟨g, 0, none⟩) n cap) n xs) (k : Nat) (v0 v1 v2 : Value) :
    ((((w.setCell ⟨g, k * 3, none⟩ v0).setCell ⟨g, k * 3 + 1, none⟩ v1).setCell ⟨g, k * 3 + 2, none⟩ v2)).ownsRow base e 3 (.slice (some ⟨g, 0, none⟩) n cap) n (((xs.set (k * 3) v0).set (k * 3 + 1) v1).set (k * 3 + 2) v2) :=
  (((h.stored (k * 3) v0).1.stored (k * 3 + 1) v1).1.stored (k * 3 + 2) v2).1
theorem wordOfRow {w : World} {base : Nat} {e : TypeId} {g n cap : Nat} {xs : List Value} {ns : List WordV} (h : w.ownsRow base e 3 (.slice (some ⟨g, 0, none⟩) n cap) n xs) (hn : ns.length = n) (ht : WordTo xs ns n) : WordAt w g 0 ns := by
  intro i hi
  obtain ⟨c0, c1, c2⟩ := ht i hi (by omega)
  refine ⟨?_, ?_, ?_⟩
  all_goals
    rw [Nat.zero_add, h.cellAt _ (by omega)]
    assumption

/-- a slice value leads to these: empty, or a row of them -/
def WordIn (w : World) (a : Option Addr) (ns : List WordV) : Prop :=
  ns = [] ∨ ∃ b off, a = some ⟨b, off, none⟩ ∧ b < w.heap.size ∧ WordAt w b off ns
theorem WordAt.below {w w' : World} {B b off : Nat} {ns : List WordV} (h : WordAt w b off ns) (hb : Below B w w') (hB : b < B) : WordAt w' b off ns := by
  intro i hi
  obtain ⟨c0, c1, c2⟩ := h i hi
  exact ⟨(hb.cell (by exact hB)).trans c0, (hb.cell (by exact hB)).trans c1, (hb.cell (by exact hB)).trans c2⟩
theorem WordIn.below {w w' : World} {a : Option Addr} {ns : List WordV} (h : WordIn w a ns) (hb : Below w.heap.size w w') : WordIn w' a ns := by
  rcases h with h | ⟨b, off, e, hlt, hn⟩
  · exact .inl h
  · exact .inr ⟨b, off, e, Nat.lt_of_lt_of_le hlt hb.size, hn.below hb hlt⟩
theorem cellsIWord : Tryz.prog.cellsOf 3 = 1 := by kernel_rfl
theorem cellsSWord : Tryz.prog.cellsOf 9 = 1 := by kernel_rfl
theorem lt_of_cellWord {w : World} {b off : Nat} {v : Value} (h : w.cell? ⟨b, off, none⟩ = some v) : b < w.heap.size := by
  by_cases hb : b < w.heap.size
  · exact hb
  · exfalso
    have : w.heap[b]? = none := Array.getElem?_eq_none (by omega)
    simp [World.cell?, this] at h
theorem wordRange {k : Int} (h : (Lit.int .i64 k).wf = true) : -9223372036854775808 ≤ k ∧ k ≤ 9223372036854775807 := bounds_i64 h
end Go.Proofs.YtldgffkippejiaaGreatDoor

set_option linter.unusedVariables false
namespace Go.Proofs.YtldgffkippejiaaGreatDoor
open Go.RowKit Go.Maps Go.Deep

def WordSRd (w : World) (v : Value) (ns : List WordV) : Prop := ∃ a c, v = .slice a ns.length c ∧ WordIn w a ns
def WordSOwn (S : List Nat) (w : World) (v : Value) (ns : List WordV) : Prop :=
  (S = [] ∧ ns = [] ∧ ∃ a c, v = .slice a 0 c) ∨ ∃ b off cap, S = [b] ∧ v = .slice (some ⟨b, off, none⟩) ns.length cap ∧ b < w.heap.size ∧ WordAt w b off ns ∧ ∀ i, i < ns.length * 3 → w.frozen? ⟨b, off + i, none⟩ = false
theorem WordAt.turn {w w' : World} {S : List Nat} {b off : Nat} {ns : List WordV} (h : WordAt w b off ns) (ht : Turn S w w') (hb : b < w.heap.size) (hS : b ∉ S) : WordAt w' b off ns := by
  intro i hi
  obtain ⟨c0, c1, c2⟩ := h i hi
  exact ⟨(ht.cell hb hS).trans c0, (ht.cell hb hS).trans c1, (ht.cell hb hS).trans c2⟩
theorem WordSRd.up {w w' : World} {v : Value} {ns : List WordV} (h : WordSRd w v ns) (hb : Below w.heap.size w w') : WordSRd w' v ns := by
  obtain ⟨a, c, e, h⟩ := h
  exact ⟨a, c, e, h.below hb⟩
theorem WordSRd.len {w : World} {v : Value} {ns : List WordV} (h : WordSRd w v ns) : ∃ a c, v = .slice a ns.length c := by
  obtain ⟨a, c, e, _⟩ := h
  exact ⟨a, c, e⟩
theorem WordSRd.form {w : World} {v : Value} {ns : List WordV} (h : WordSRd w v ns) : ∃ a n c, v = .slice a n c := by
  obtain ⟨a, c, e⟩ := h.len
  exact ⟨a, _, c, e⟩
theorem WordSOwn.rd {S : List Nat} {w : World} {v : Value} {ns : List WordV} (h : WordSOwn S w v ns) : WordSRd w v ns := by
  rcases h with ⟨_, rfl, a, c, rfl⟩ | ⟨b, off, cap, _, rfl, hb, hc, _⟩
  · exact ⟨a, c, rfl, .inl rfl⟩
  · exact ⟨_, cap, rfl, .inr ⟨b, off, rfl, hb, hc⟩⟩
theorem WordSOwn.turn {S S' : List Nat} {w w' : World} {v : Value} {ns : List WordV} (h : WordSOwn S w v ns) (ht : Turn S' w w') (hS : ∀ k ∈ S, k ∉ S') : WordSOwn S w' v ns := by
  rcases h with h | ⟨b, off, cap, rfl, rfl, hb, hc, hf⟩
  · exact .inl h
  · have hn := hS b (by simp)
    exact .inr ⟨b, off, cap, rfl, rfl, Nat.lt_of_lt_of_le hb ht.size, hc.turn ht hb hn, fun i hi => (ht.frozen hb hn).trans (hf i hi)⟩
theorem WordSOwn.up {S : List Nat} {w w' : World} {v : Value} {ns : List WordV} (h : WordSOwn S w v ns) (hb : Below w.heap.size w w') : WordSOwn S w' v ns := h.turn (Turn.of_below (S := []) hb) (by simp)
theorem WordSOwn.lt {S : List Nat} {w : World} {v : Value} {ns : List WordV} (h : WordSOwn S w v ns) : ∀ k ∈ S, k < w.heap.size := by
  rcases h with ⟨rfl, _⟩ | ⟨b, off, cap, rfl, rfl, hb, _⟩
  · simp
  · simpa using hb
def SmallWordS (ns : List WordV) : Prop := WordSmall ns ∧ WordOk ns
def WordSFit (ns : List WordV) : Prop := ns.length ≤ maxLen ∧ WordOk ns
def nWordS (ns : List WordV) : Nat := 3 * ns.length
theorem nWordS_le {ns : List WordV} (h : SmallWordS ns) : nWordS ns ≤ 100000000 := by have := h.1.1; unfold nWordS; omega
end Go.Proofs.YtldgffkippejiaaGreatDoor

set_option linter.unusedVariables false
namespace Go.Proofs.YtldgffkippejiaaGreatDoor
open Go.RowKit Go.Maps

def BoxIs (w : World) (g : Nat) (xs : List Value) : Prop := g < w.heap.size ∧ ∀ i v, xs[i]? = some v → w.cell? ⟨g, i, none⟩ = some v
theorem BoxIs.up {w w' : World} {g : Nat} {xs : List Value} (h : BoxIs w g xs) (hb : Below w.heap.size w w') : BoxIs w' g xs :=
  ⟨Nat.lt_of_lt_of_le h.1 hb.size, fun i v hv => (hb.cell (by exact h.1)).trans (h.2 i v hv)⟩
theorem BoxIs.turn {S : List Nat} {w w' : World} {g : Nat} {xs : List Value} (h : BoxIs w g xs) (ht : Turn S w w') (hS : g ∉ S) : BoxIs w' g xs :=
  ⟨Nat.lt_of_lt_of_le h.1 ht.size, fun i v hv => (ht.cell h.1 hS).trans (h.2 i v hv)⟩
theorem BoxIs.at {w : World} {g : Nat} {xs : List Value} (h : BoxIs w g xs) (i : Nat) (v : Value) (hv : xs[i]? = some v) : w.cell? ⟨g, i, none⟩ = some v := h.2 i v hv
theorem BoxIs.four {w : World} {g : Nat} {a b c d : Value} (h : BoxIs w g [a, b, c, d]) : w.cell? ⟨g, 0, none⟩ = some a ∧ w.cell? ⟨g, 1, none⟩ = some b ∧ w.cell? ⟨g, 2, none⟩ = some c ∧ w.cell? ⟨g, 3, none⟩ = some d :=
  ⟨h.2 0 _ rfl, h.2 1 _ rfl, h.2 2 _ rfl, h.2 3 _ rfl⟩
theorem boxMade (w : World) (xs : List Value) (T : TypeId) : BoxIs (w.alloc (.cells xs.toArray T)) w.heap.size xs :=
  ⟨by simp, fun i v hv => by rw [World.cell?_alloc_at _ _ _ _ rfl]; simpa using hv⟩
theorem boxMade4 (w : World) (a b c d : Value) (T : TypeId) : BoxIs (w.alloc (.cells #[a, b, c, d] T)) w.heap.size [a, b, c, d] := boxMade w [a, b, c, d] T
/-- a new variable, filled cell by cell -/
theorem boxStored4 (w : World) (z0 z1 z2 z3 a b c d : Value) (T : TypeId) :
    BoxIs (((((w.alloc (.cells #[z0, z1, z2, z3] T)).setCell ⟨w.heap.size, 0, none⟩ a).setCell ⟨w.heap.size, 1, none⟩ b).setCell ⟨w.heap.size, 2, none⟩ c).setCell ⟨w.heap.size, 3, none⟩ d) w.heap.size [a, b, c, d] ∧
    Below w.heap.size w (((((w.alloc (.cells #[z0, z1, z2, z3] T)).setCell ⟨w.heap.size, 0, none⟩ a).setCell ⟨w.heap.size, 1, none⟩ b).setCell ⟨w.heap.size, 2, none⟩ c).setCell ⟨w.heap.size, 3, none⟩ d) := by
  obtain ⟨_, hc⟩ := boxMade4 w z0 z1 z2 z3 T
  have c0 := hc 0 _ rfl
  have c1 := hc 1 _ rfl
  have c2 := hc 2 _ rfl
  have c3 := hc 3 _ rfl
  refine ⟨⟨by simp, ?_⟩, (((((Below.refl _ _).alloc (Nat.le_refl _) _).setCell (Nat.le_refl _) _).setCell (Nat.le_refl _) _).setCell (Nat.le_refl _) _).setCell (Nat.le_refl _) _⟩
  generalize w.alloc (.cells #[z0, z1, z2, z3] T) = W at *
  generalize w.heap.size = g at *
  have ne : ∀ (X : World) (i j : Nat) (v : Value), i ≠ j → (X.setCell ⟨g, j, none⟩ v).cell? ⟨g, i, none⟩ = X.cell? ⟨g, i, none⟩ := fun X i j v h => World.cell?_setCell_other _ _ _ _ (by intro e; have := congrArg Addr.off e; simp only at this; omega)
  intro i v hv
  match i, hv with
  | 0, hv =>
    simp at hv; subst hv
    rw [ne _ 0 3 _ (by omega), ne _ 0 2 _ (by omega), ne _ 0 1 _ (by omega)]
    exact World.cell?_setCell_same _ _ _ c0
  | 1, hv =>
    simp at hv; subst hv
    rw [ne _ 1 3 _ (by omega), ne _ 1 2 _ (by omega)]
    exact World.cell?_setCell_same _ _ _ (by rw [ne _ 1 0 _ (by omega)]; exact c1)
  | 2, hv =>
    simp at hv; subst hv
    rw [ne _ 2 3 _ (by omega)]
    exact World.cell?_setCell_same _ _ _ (by rw [ne _ 2 1 _ (by omega), ne _ 2 0 _ (by omega)]; exact c2)
  | 3, hv =>
    simp at hv; subst hv
    exact World.cell?_setCell_same _ _ _ (by rw [ne _ 3 2 _ (by omega), ne _ 3 1 _ (by omega), ne _ 3 0 _ (by omega)]; exact c3)
  | i + 4, hv => simp at hv
theorem boxNew4 (w : World) (a b c d : Value) (T : TypeId) : BoxIs (w.alloc (.cells #[a, b, c, d] T)) w.heap.size [a, b, c, d] ∧ Below w.heap.size w (w.alloc (.cells #[a, b, c, d] T)) ∧ w.heap.size < (w.alloc (.cells #[a, b, c, d] T)).heap.size :=
  ⟨boxMade4 w a b c d T, (Below.refl _ _).alloc (Nat.le_refl _) _, by simp⟩
theorem boxFill4 (w : World) (z0 z1 z2 z3 a b c d : Value) (T : TypeId) :
    BoxIs (((((w.alloc (.cells #[z0, z1, z2, z3] T)).setCell ⟨w.heap.size, 0, none⟩ a).setCell ⟨w.heap.size, 1, none⟩ b).setCell ⟨w.heap.size, 2, none⟩ c).setCell ⟨w.heap.size, 3, none⟩ d) w.heap.size [a, b, c, d] ∧
    Below w.heap.size w (((((w.alloc (.cells #[z0, z1, z2, z3] T)).setCell ⟨w.heap.size, 0, none⟩ a).setCell ⟨w.heap.size, 1, none⟩ b).setCell ⟨w.heap.size, 2, none⟩ c).setCell ⟨w.heap.size, 3, none⟩ d) ∧
    w.heap.size < (((((w.alloc (.cells #[z0, z1, z2, z3] T)).setCell ⟨w.heap.size, 0, none⟩ a).setCell ⟨w.heap.size, 1, none⟩ b).setCell ⟨w.heap.size, 2, none⟩ c).setCell ⟨w.heap.size, 3, none⟩ d).heap.size := by
  obtain ⟨h1, h2⟩ := boxStored4 w z0 z1 z2 z3 a b c d T
  exact ⟨h1, h2, h1.1⟩
theorem BoxIs.two {w : World} {g : Nat} {a b : Value} (h : BoxIs w g [a, b]) : w.cell? ⟨g, 0, none⟩ = some a ∧ w.cell? ⟨g, 1, none⟩ = some b := ⟨h.2 0 _ rfl, h.2 1 _ rfl⟩
theorem BoxIs.six {w : World} {g : Nat} {a b c d e f : Value} (h : BoxIs w g [a, b, c, d, e, f]) : w.cell? ⟨g, 0, none⟩ = some a ∧ w.cell? ⟨g, 1, none⟩ = some b ∧ w.cell? ⟨g, 2, none⟩ = some c ∧ w.cell? ⟨g, 3, none⟩ = some d ∧ w.cell? ⟨g, 4, none⟩ = some e ∧ w.cell? ⟨g, 5, none⟩ = some f :=
  ⟨h.2 0 _ rfl, h.2 1 _ rfl, h.2 2 _ rfl, h.2 3 _ rfl, h.2 4 _ rfl, h.2 5 _ rfl⟩
theorem boxNew2 (w : World) (a b : Value) (T : TypeId) : BoxIs (w.alloc (.cells #[a, b] T)) w.heap.size [a, b] ∧ Below w.heap.size w (w.alloc (.cells #[a, b] T)) ∧ w.heap.size < (w.alloc (.cells #[a, b] T)).heap.size :=
  ⟨boxMade w [a, b] T, (Below.refl _ _).alloc (Nat.le_refl _) _, by simp⟩
theorem boxNew6 (w : World) (a b c d e f : Value) (T : TypeId) : BoxIs (w.alloc (.cells #[a, b, c, d, e, f] T)) w.heap.size [a, b, c, d, e, f] ∧ Below w.heap.size w (w.alloc (.cells #[a, b, c, d, e, f] T)) ∧ w.heap.size < (w.alloc (.cells #[a, b, c, d, e, f] T)).heap.size :=
  ⟨boxMade w [a, b, c, d, e, f] T, (Below.refl _ _).alloc (Nat.le_refl _) _, by simp⟩
def IntFit (n : Int) : Prop := -9223372036854775808 ≤ n ∧ n ≤ 9223372036854775807
/-- four cells of a block, filled -/
theorem fill4 (w : World) (g : Nat) (a b c d : Value) (hc : ∀ i, i < 4 → ∃ x, w.cell? ⟨g, i, none⟩ = some x) :
    let W := (((w.setCell ⟨g, 0, none⟩ a).setCell ⟨g, 1, none⟩ b).setCell ⟨g, 2, none⟩ c).setCell ⟨g, 3, none⟩ d
    W.cell? ⟨g, 0, none⟩ = some a ∧ W.cell? ⟨g, 1, none⟩ = some b ∧ W.cell? ⟨g, 2, none⟩ = some c ∧ W.cell? ⟨g, 3, none⟩ = some d ∧ (∀ i, W.frozen? ⟨g, i, none⟩ = w.frozen? ⟨g, i, none⟩) ∧ Turn [g] w W := by
  obtain ⟨x0, c0⟩ := hc 0 (by omega)
  obtain ⟨x1, c1⟩ := hc 1 (by omega)
  obtain ⟨x2, c2⟩ := hc 2 (by omega)
  obtain ⟨x3, c3⟩ := hc 3 (by omega)
  have ne : ∀ (X : World) (i j : Nat) (v : Value), i ≠ j → (X.setCell ⟨g, j, none⟩ v).cell? ⟨g, i, none⟩ = X.cell? ⟨g, i, none⟩ := fun X i j v h => World.cell?_setCell_other _ _ _ _ (by intro e; have := congrArg Addr.off e; simp only at this; omega)
  refine ⟨?_, ?_, ?_, ?_, fun i => ?_, ((((Turn.refl _ _).setCell (by simp) _ _).setCell (by simp) _ _).setCell (by simp) _ _).setCell (by simp) _ _⟩
  · rw [ne _ 0 3 _ (by omega), ne _ 0 2 _ (by omega), ne _ 0 1 _ (by omega)]
    exact World.cell?_setCell_same _ _ _ c0
  · rw [ne _ 1 3 _ (by omega), ne _ 1 2 _ (by omega)]
    exact World.cell?_setCell_same _ _ _ (by rw [ne _ 1 0 _ (by omega)]; exact c1)
  · rw [ne _ 2 3 _ (by omega)]
    exact World.cell?_setCell_same _ _ _ (by rw [ne _ 2 1 _ (by omega), ne _ 2 0 _ (by omega)]; exact c2)
  · exact World.cell?_setCell_same _ _ _ (by rw [ne _ 3 2 _ (by omega), ne _ 3 1 _ (by omega), ne _ 3 0 _ (by omega)]; exact c3)
  · rw [World.frozen?_setCell, World.frozen?_setCell, World.frozen?_setCell, World.frozen?_setCell]
/-- a block of cells that may be written -/
def BoxF (w : World) (g : Nat) (xs : List Value) : Prop := BoxIs w g xs ∧ ∀ i, i < xs.length → w.frozen? ⟨g, i, none⟩ = false
theorem BoxF.up {w w' : World} {g : Nat} {xs : List Value} (h : BoxF w g xs) (hb : Below w.heap.size w w') : BoxF w' g xs := ⟨h.1.up hb, fun i hi => (hb.frozen (by exact h.1.1)).trans (h.2 i hi)⟩
theorem BoxF.turn {S : List Nat} {w w' : World} {g : Nat} {xs : List Value} (h : BoxF w g xs) (ht : Turn S w w') (hS : g ∉ S) : BoxF w' g xs := ⟨h.1.turn ht hS, fun i hi => (ht.frozen h.1.1 hS).trans (h.2 i hi)⟩
theorem BoxF.set {w : World} {g : Nat} {xs : List Value} (h : BoxF w g xs) (i : Nat) (v : Value) (hi : i < xs.length) : BoxF (w.setCell ⟨g, i, none⟩ v) g (xs.set i v) := by
  refine ⟨⟨by simpa using h.1.1, fun j x hx => ?_⟩, fun j hj => ?_⟩
  · by_cases e : j = i
    · subst e
      rw [List.getElem?_set_self hi] at hx
      cases hx
      exact World.cell?_setCell_same _ _ _ (h.1.2 j _ (List.getElem?_eq_getElem hi))
    · rw [List.getElem?_set_ne (fun q => e q.symm)] at hx
      rw [World.cell?_setCell_other _ _ _ _ (by intro q; have := congrArg Addr.off q; simp only at this; omega)]
      exact h.1.2 j x hx
  · rw [World.frozen?_setCell]
    exact h.2 j (by simpa using hj)
theorem BoxF.far {w : World} {g g' : Nat} {xs : List Value} (h : BoxF w g xs) (i : Nat) (v : Value) (hg : g ≠ g') : BoxF (w.setCell ⟨g', i, none⟩ v) g xs := h.turn ((Turn.refl [g'] w).setCell (by simp) i v) (by simpa using hg)
theorem boxF_new (w : World) (xs : List Value) (T : TypeId) : BoxF (w.alloc (.cells xs.toArray T)) w.heap.size xs := by
  refine ⟨boxMade w xs T, fun i hi => ?_⟩
  simp
theorem boxF_new4 (w : World) (a b c d : Value) (T : TypeId) : BoxF (w.alloc (.cells #[a, b, c, d] T)) w.heap.size [a, b, c, d] := boxF_new w [a, b, c, d] T
theorem BoxF.four {w : World} {g : Nat} {a b c d : Value} (h : BoxF w g [a, b, c, d]) : (w.cell? ⟨g, 0, none⟩ = some a ∧ w.cell? ⟨g, 1, none⟩ = some b ∧ w.cell? ⟨g, 2, none⟩ = some c ∧ w.cell? ⟨g, 3, none⟩ = some d) ∧ (w.frozen? ⟨g, 0, none⟩ = false ∧ w.frozen? ⟨g, 1, none⟩ = false ∧ w.frozen? ⟨g, 2, none⟩ = false ∧ w.frozen? ⟨g, 3, none⟩ = false) :=
  ⟨h.1.four, h.2 0 (by simp), h.2 1 (by simp), h.2 2 (by simp), h.2 3 (by simp)⟩
end Go.Proofs.YtldgffkippejiaaGreatDoor
