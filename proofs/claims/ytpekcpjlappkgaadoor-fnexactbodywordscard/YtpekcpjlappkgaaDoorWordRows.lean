/-
  Lists of Word in memory, and the law's own helpers over them: how much they hold, how they are copied, how two lists are compared, and how one that comes in is opened. (Made by wip/mkrows.py.)
-/
import Derived.Test.YtpekcpjlappkgaaDoorBytes
import Derived.Test.YtpekcpjlappkgaaDoorBodyM
import Derived.Deep.RegionWith
import Derived.Deep.Slices
import Derived.ProofKit
import Derived.OpenShut
set_option linter.unusedVariables false
namespace Go.Proofs.YtpekcpjlappkgaaDoor
open Go.RowKit Go.Maps Go.Deep


/-- they lie one behind the other, from a place of a block on -/
def WordAt (w : World) (b off : Nat) (ns : List WordV) : Prop :=
  ∀ i (h : i < ns.length), w.cell? ⟨b, off + i * 3, none⟩ = some (.int .i64 (ns[i].a0)) ∧ w.cell? ⟨b, off + i * 3 + 1, none⟩ = some (.string (ns[i].a1)) ∧ w.cell? ⟨b, off + i * 3 + 2, none⟩ = some (.int .i64 (ns[i].a2))
def WordOk (ns : List WordV) : Prop := ∀ x ∈ ns, WordFit x
/-- what the bound gives where it is not passed -/
def WordSmall (ns : List WordV) : Prop := ns.length ≤ 1048576 ∧ ∀ x ∈ ns, x.a1.size ≤ 1048576

/-- what is left, or less than nothing -/
def WordSLeft (n1 : Nat) (left r : Int) : Prop := r ≤ left ∧ (0 ≤ r → (n1 : Int) ≤ left)
def RetWordSz (ns : List WordV) (left0 : Int) (e : Ending) : Prop := ∃ r : Int, e = .returned (.int .i64 r) ∧ r ≤ left0 ∧ (0 ≤ r → WordSmall ns)
theorem infoWord : (Tryd.prog.info? 32).map (fun i => (i.zero, i.size, i.bytes)) = some (some (.agg #[.int .i64 0, .string ByteArray.empty, .int .i64 0]), 3, 32) := by kernel_rfl

def WordTo (xs : List Value) (ns : List WordV) (k : Nat) : Prop :=
  ∀ i (h : i < ns.length), i < k → xs[i * 3]? = some (.int .i64 (ns[i].a0)) ∧ xs[i * 3 + 1]? = some (.string (ns[i].a1)) ∧ xs[i * 3 + 2]? = some (.int .i64 (ns[i].a2))
theorem wordTo_step (xs : List Value) (ns : List WordV) (k : Nat) (hk : k < ns.length) (hx : xs.length = ns.length * 3) (h : WordTo xs ns k) :
    WordTo (((xs.set (k * 3) (.int .i64 (ns[k].a0))).set (k * 3 + 1) (.string (ns[k].a1))).set (k * 3 + 2) (.int .i64 (ns[k].a2))) ns (k + 1) := by
  intro i hi hik
  by_cases e : i = k
  · subst e
    simp [List.getElem?_set, hx]
    omega
  · obtain ⟨c0, c1, c2⟩ := h i hi (by omega)
    refine ⟨?_, ?_, ?_⟩ <;> (repeat rw [List.getElem?_set_ne (by omega)]) <;> assumption

theorem ownsRowWord_below {w w' : World} {base B : Nat} {e : TypeId} {size : Nat} {g n cap : Nat} {xs : List Value} (h : w.ownsRow base e size (.slice (some ⟨g, 0, none⟩) n cap) n xs) (hb : Below B w w') (hg : g < B) :
    w'.ownsRow base e size (.slice (some ⟨g, 0, none⟩) n cap) n xs := by
  refine ⟨h.1, ?_⟩
  rcases h.2 with ⟨h', _⟩ | ⟨g', cap', cur, h', h1, h2, h3⟩
  · simp at h'
  · refine .inr ⟨g', cap', cur, h', h1, ?_, h3⟩
    simp only [Value.slice.injEq, Option.some.injEq, Addr.mk.injEq, and_true, true_and] at h'
    obtain ⟨rfl, rfl⟩ := h'
    rw [hb.block g hg]; exact h2
theorem wordCells {w : World} {base : Nat} {e : TypeId} {g n cap : Nat} {xs : List Value} (h : w.ownsRow base e 3 (.slice (some ⟨g, 0, none⟩) n cap) n xs) (k : Nat) (hk : k < n) :
    ∃ v0 v1 v2, w.cell? ⟨g, k * 3, none⟩ = some v0 ∧ w.cell? ⟨g, k * 3 + 1, none⟩ = some v1 ∧ w.cell? ⟨g, k * 3 + 2, none⟩ = some v2 ∧ w.frozen? ⟨g, k * 3, none⟩ = false ∧ w.frozen? ⟨g, k * 3 + 1, none⟩ = false ∧ w.frozen? ⟨g, k * 3 + 2, none⟩ = false := by
  have hx := h.1
  refine ⟨xs[k * 3]'(by omega), xs[k * 3 + 1]'(by omega), xs[k * 3 + 2]'(by omega), ?_, ?_, ?_, h.frozenAt _, h.frozenAt _, h.frozenAt _⟩
  all_goals
    rw [h.cellAt _ (by omega)]
    exact List.getElem?_eq_getElem _
theorem wordStore {w : World} {base : Nat} {e : TypeId} {g n cap : Nat} {xs : List Value} (h : w.ownsRow base e 3 (.slice (some ⟨g, 0, none⟩) n cap) n xs) (k : Nat) (v0 v1 v2 : Value) :
    ((((w.setCell ⟨g, k * 3, none⟩ v0).setCell ⟨g, k * 3 + 1, none⟩ v1).setCell ⟨g, k * 3 + 2, none⟩ v2)).ownsRow base e 3 (.slice (some ⟨g, 0, none⟩) n cap) n (((xs.set (k * 3) v0).set (k * 3 + 1) v1).set (k * 3 + 2) v2) :=
  (((h.stored (k * 3) v0).1.stored (k * 3 + 1) v1).1.stored (k * 3 + 2) v2).1
theorem wordOfRow {w : World} {base : Nat} {e : TypeId} {g n cap : Nat} {xs : List Value} {ns : List WordV} (h : w.ownsRow base e 3 (.slice (some ⟨g, 0, none⟩) n cap) n xs) (hn : ns.length = n) (ht : WordTo xs ns n) : WordAt w g 0 ns := by
  intro i hi
  obtain ⟨c0, c1, c2⟩ := ht i hi (by omega)
  refine ⟨?_, ?_, ?_⟩
  all_goals
    rw [Nat.zero_add, h.cellAt _ (by omega)]
    assumption

set_option maxHeartbeats 800000 in
theorem eqWord_same (z0 : Int) (z1 : ByteArray) (z2 : Int) (w : World) :
    Calls Tryd.prog 13 #[.agg #[.int .i64 z0, .string z1, .int .i64 z2], .agg #[.int .i64 z0, .string z1, .int .i64 z2]] w fun e w' => e = .returned (.bool true) ∧ Below w.heap.size w w' := by
  go_enter Tryd.func13, Tryd.ntmps13
  go_wp2
  go_ret
  exact ⟨rfl, ((Below.refl _ _).alloc (Nat.le_refl _) _).alloc (by simp) _⟩

set_option maxHeartbeats 1600000 in
theorem eqWordS_same (w : World) (b off cap b' off' cap' : Nat) (ns : List WordV) (hl : ns.length ≤ 281474976710656) (hc : WordAt w b off ns) (hc' : WordAt w b' off' ns) (hb : b < w.heap.size) (hb' : b' < w.heap.size) :
    Calls Tryd.prog 6 #[.slice (some ⟨b, off, none⟩) ns.length cap, .slice (some ⟨b', off', none⟩) ns.length cap'] w fun e w' => e = .returned (.bool true) ∧ Below w.heap.size w w' := by
  go_enter Tryd.func6, Tryd.ntmps6
  go_wp2
  go_loopw [5] (fun i wr => ∃ (k : Nat), k ≤ ns.length ∧ i = .int .i64 k ∧ Below w.heap.size w wr) (fun i _ => ns.length - (intOf i).toNat)
  case atStart => exact ⟨0, Nat.zero_le _, rfl, Below.refl _ _⟩
  case round =>
    obtain ⟨k, hk, rfl, hbel⟩ := hrel
    by_cases hlt : k < ns.length
    · obtain ⟨c0, c1, c2⟩ := hc k hlt
      obtain ⟨d0, d1, d2⟩ := hc' k hlt
      rw [← hbel.cell (by exact hb)] at c0 c1 c2
      rw [← hbel.cell (by exact hb')] at d0 d1 d2
      go_wp2
      go_region_with (go_at_call 13; refine (eqWord_same _ _ _ _).mono ?_; rintro e w2 ⟨rfl, hb2⟩)
      all_goals
        have hb3 : Below w.heap.size w w2 := hbel.drew.trans (hb2.mono hbel.size)
        clear c0 c1 c2 d0 d1 d2
        go_wp2
        go_roundw
        case rel => exact ⟨k + 1, by omega, by go_num, hb3⟩
        case measure => simp [intOf]; omega
    · go_wp2
      go_ret
      exact ⟨rfl, hbel⟩

/-- a slice value leads to these: empty, or a row of them -/
def WordIn (w : World) (a : Option Addr) (ns : List WordV) : Prop :=
  ns = [] ∨ ∃ b off, a = some ⟨b, off, none⟩ ∧ b < w.heap.size ∧ WordAt w b off ns
theorem WordAt.below {w w' : World} {B b off : Nat} {ns : List WordV} (h : WordAt w b off ns) (hb : Below B w w') (hB : b < B) : WordAt w' b off ns := by
  intro i hi
  obtain ⟨c0, c1, c2⟩ := h i hi
  exact ⟨(hb.cell (by exact hB)).trans c0, (hb.cell (by exact hB)).trans c1, (hb.cell (by exact hB)).trans c2⟩
theorem WordIn.below {w w' : World} {a : Option Addr} {ns : List WordV} (h : WordIn w a ns) (hb : Below w.heap.size w w') : WordIn w' a ns := by
  rcases h with h | ⟨b, off, e, hlt, hn⟩
  · exact .inl h
  · exact .inr ⟨b, off, e, Nat.lt_of_lt_of_le hlt hb.size, hn.below hb hlt⟩
theorem cellsIWord : Tryd.prog.cellsOf 3 = 1 := by kernel_rfl
theorem cellsSWord : Tryd.prog.cellsOf 9 = 1 := by kernel_rfl
theorem lt_of_cellWord {w : World} {b off : Nat} {v : Value} (h : w.cell? ⟨b, off, none⟩ = some v) : b < w.heap.size := by
  by_cases hb : b < w.heap.size
  · exact hb
  · exfalso
    have : w.heap[b]? = none := Array.getElem?_eq_none (by omega)
    simp [World.cell?, this] at h
theorem wordRange {k : Int} (h : (Lit.int .i64 k).wf = true) : -9223372036854775808 ≤ k ∧ k ≤ 9223372036854775807 := bounds_i64 h
end Go.Proofs.YtpekcpjlappkgaaDoor
