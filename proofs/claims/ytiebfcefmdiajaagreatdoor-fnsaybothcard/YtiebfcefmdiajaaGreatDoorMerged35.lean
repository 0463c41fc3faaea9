/-
  Lists of Mark in memory, and the law's own helpers over them: how much they hold, how they are copied, how two lists are compared, and how one that comes in is opened. (Made by wip/mkrows.py.)
-/
/-
  Stamps as values: which may be.
-/
/-
  The text of a stamp as a value.
-/
import Derived.Test.YtiebfcefmdiajaaGreatDoorMerged4
import Derived.Deep.RegionWith
import Derived.Deep.Slices
import Derived.ProofKit
import Derived.OpenShut
import Derived.Test.YtiebfcefmdiajaaGreatDoorMerged6
import Derived.Test.YtiebfcefmdiajaaGreatDoorMerged7
import Derived.Test.YtiebfcefmdiajaaGreatDoorMerged34
import Derived.Lib.Join
set_option linter.unusedVariables false
namespace Go.Proofs.YtiebfcefmdiajaaGreatDoor
open Go.RowKit Go.Maps Go.Deep

structure MarkV where
  a0 : ByteArray
  a1 : Int

/-- they lie one behind the other, from a place of a block on -/
def MarkAt (w : World) (b off : Nat) (ns : List MarkV) : Prop :=
  ∀ i (h : i < ns.length), w.cell? ⟨b, off + i * 2, none⟩ = some (.string (ns[i].a0)) ∧ w.cell? ⟨b, off + i * 2 + 1, none⟩ = some (.int .i64 (ns[i].a1))
def MarkFit (x : MarkV) : Prop := x.a0.size ≤ maxLen ∧ (-9223372036854775808 ≤ x.a1 ∧ x.a1 ≤ 9223372036854775807)
def MarkOk (ns : List MarkV) : Prop := ∀ x ∈ ns, MarkFit x
/-- what the bound gives where it is not passed -/
def MarkSmall (ns : List MarkV) : Prop := ns.length ≤ 1048576 ∧ ∀ x ∈ ns, x.a0.size ≤ 1048576

/-- what is left, or less than nothing -/
def MarkSLeft (n0 : Nat) (left r : Int) : Prop := r ≤ left ∧ (0 ≤ r → (n0 : Int) ≤ left)
def RetMarkSz (ns : List MarkV) (left0 : Int) (e : Ending) : Prop := ∃ r : Int, e = .returned (.int .i64 r) ∧ r ≤ left0 ∧ (0 ≤ r → MarkSmall ns)
def MarkTo (xs : List Value) (ns : List MarkV) (k : Nat) : Prop :=
  ∀ i (h : i < ns.length), i < k → xs[i * 2]? = some (.string (ns[i].a0)) ∧ xs[i * 2 + 1]? = some (.int .i64 (ns[i].a1))
theorem markTo_step (xs : List Value) (ns : List MarkV) (k : Nat) (hk : k < ns.length) (hx : xs.length = ns.length * 2) (h : MarkTo xs ns k) :
    MarkTo ((xs.set (k * 2) (.string (ns[k].a0))).set (k * 2 + 1) (.int .i64 (ns[k].a1))) ns (k + 1) := by
  intro i hi hik
  by_cases e : i = k
  · subst e
    simp [List.getElem?_set, hx]
    omega
  · obtain ⟨c0, c1⟩ := h i hi (by omega)
    refine ⟨?_, ?_⟩ <;> (repeat rw [List.getElem?_set_ne (by omega)]) <;> assumption

theorem ownsRowMark_below {w w' : World} {base B : Nat} {e : TypeId} {size : Nat} {g n cap : Nat} {xs : List Value} (h : w.ownsRow base e size (.slice (some ⟨g, 0, none⟩) n cap) n xs) (hb : Below B w w') (hg : g < B) :
    w'.ownsRow base e size (.slice (some ⟨g, 0, none⟩) n cap) n xs := by
  refine ⟨h.1, ?_⟩
  rcases h.2 with ⟨h', _⟩ | ⟨g', cap', cur, h', h1, h2, h3⟩
  · simp at h'
  · refine .inr ⟨g', cap', cur, h', h1, ?_, h3⟩
    simp only [Value.slice.injEq, Option.some.injEq, Addr.mk.injEq, and_true, true_and] at h'
    obtain ⟨rfl, rfl⟩ := h'
    rw [hb.block g hg]; exact h2
theorem markCells {w : World} {base : Nat} {e : TypeId} {g n cap : Nat} {xs : List Value} (h : w.ownsRow base e 2 (.slice (some ⟨g, 0, none⟩) n cap) n xs) (k : Nat) (hk : k < n) :
    ∃ v0 v1, w.cell? ⟨g, k * 2, none⟩ = some v0 ∧ w.cell? ⟨g, k * 2 + 1, none⟩ = some v1 ∧ w.frozen? ⟨g, k * 2, none⟩ = false ∧ w.frozen? ⟨g, k * 2 + 1, none⟩ = false := by
  have hx := h.1
  refine ⟨xs[k * 2]'(by omega), xs[k * 2 + 1]'(by omega), ?_, ?_, h.frozenAt _, h.frozenAt _⟩
  all_goals
    rw [h.cellAt _ (by omega)]
    exact List.getElem?_eq_getElem _
theorem markStore {w : World} {base : Nat} {e : TypeId} {g n cap : Nat} {xs : List Value} (h : w.ownsRow base e 2 (.slice (some ⟨g, 0, none⟩) n cap) n xs) (k : Nat) (v0 v1 : Value) :
    (((w.setCell ⟨g, k * 2, none⟩ v0).setCell ⟨g, k * 2 + 1, none⟩ v1)).ownsRow base e 2 (.slice (some ⟨g, 0, none⟩) n cap) n ((xs.set (k * 2) v0).set (k * 2 + 1) v1) :=
  ((h.stored (k * 2) v0).1.stored (k * 2 + 1) v1).1
theorem markOfRow {w : World} {base : Nat} {e : TypeId} {g n cap : Nat} {xs : List Value} {ns : List MarkV} (h : w.ownsRow base e 2 (.slice (some ⟨g, 0, none⟩) n cap) n xs) (hn : ns.length = n) (ht : MarkTo xs ns n) : MarkAt w g 0 ns := by
  intro i hi
  obtain ⟨c0, c1⟩ := ht i hi (by omega)
  refine ⟨?_, ?_⟩
  all_goals
    rw [Nat.zero_add, h.cellAt _ (by omega)]
    assumption

/-- a slice value leads to these: empty, or a row of them -/
def MarkIn (w : World) (a : Option Addr) (ns : List MarkV) : Prop :=
  ns = [] ∨ ∃ b off, a = some ⟨b, off, none⟩ ∧ b < w.heap.size ∧ MarkAt w b off ns
theorem MarkAt.below {w w' : World} {B b off : Nat} {ns : List MarkV} (h : MarkAt w b off ns) (hb : Below B w w') (hB : b < B) : MarkAt w' b off ns := by
  intro i hi
  obtain ⟨c0, c1⟩ := h i hi
  exact ⟨(hb.cell (by exact hB)).trans c0, (hb.cell (by exact hB)).trans c1⟩
theorem MarkIn.below {w w' : World} {a : Option Addr} {ns : List MarkV} (h : MarkIn w a ns) (hb : Below w.heap.size w w') : MarkIn w' a ns := by
  rcases h with h | ⟨b, off, e, hlt, hn⟩
  · exact .inl h
  · exact .inr ⟨b, off, e, Nat.lt_of_lt_of_le hlt hb.size, hn.below hb hlt⟩
theorem cellsIMark : Tryz.prog.cellsOf 3 = 1 := by kernel_rfl
theorem cellsSMark : Tryz.prog.cellsOf 9 = 1 := by kernel_rfl
theorem lt_of_cellMark {w : World} {b off : Nat} {v : Value} (h : w.cell? ⟨b, off, none⟩ = some v) : b < w.heap.size := by
  by_cases hb : b < w.heap.size
  · exact hb
  · exfalso
    have : w.heap[b]? = none := Array.getElem?_eq_none (by omega)
    simp [World.cell?, this] at h
theorem markRange {k : Int} (h : (Lit.int .i64 k).wf = true) : -9223372036854775808 ≤ k ∧ k ≤ 9223372036854775807 := bounds_i64 h
end Go.Proofs.YtiebfcefmdiajaaGreatDoor

set_option linter.unusedVariables false
namespace Go.Proofs.YtiebfcefmdiajaaGreatDoor
open Go.RowKit Go.Maps Go.Deep

def markB (x : MarkV) : Bool := plainB x.a0 && decide (1 ≤ x.a1) && decide (x.a1 ≤ 1099511627776)
/-- the first k are versions, and each stands behind the one ahead of it -/
def MStampTo (ns : List MarkV) (k : Nat) : Prop := ∀ i (h : i < ns.length), i < k → markB ns[i] = true ∧ (0 < i → lessS (ns[i - 1]'(by omega)).a0 ns[i].a0 = true)
instance (ns : List MarkV) (k : Nat) : Decidable (MStampTo ns k) := by unfold MStampTo; infer_instance
def mstampB (ns : List MarkV) : Bool := decide (ns.length ≤ 12) && decide (MStampTo ns ns.length)
theorem mstamp_zero (ns : List MarkV) : MStampTo ns 0 := fun i h hi => absurd hi (Nat.not_lt_zero _)
theorem mstamp_bad {ns : List MarkV} {k : Nat} (hk : k < ns.length) (h : markB ns[k] = false) : mstampB ns = false := by
  have : ¬ MStampTo ns ns.length := fun g => by
    have := (g k hk hk).1
    rw [h] at this
    cases this
  simp [mstampB, this]
theorem mstamp_down {ns : List MarkV} {k : Nat} (hk : k + 1 < ns.length) (h : lessS ns[k].a0 ns[k + 1].a0 = false) : mstampB ns = false := by
  have : ¬ MStampTo ns ns.length := fun g => by
    have := (g (k + 1) hk hk).2 (by omega)
    simp only [Nat.add_sub_cancel] at this
    rw [h] at this
    cases this
  simp [mstampB, this]
theorem mstamp_step0 {ns : List MarkV} (hk : 0 < ns.length) (h : markB ns[0] = true) : MStampTo ns 1 := by
  intro i hi hik
  obtain rfl : i = 0 := by omega
  exact ⟨h, fun h => absurd h (Nat.lt_irrefl _)⟩
theorem mstamp_step {ns : List MarkV} {k : Nat} (hk : k + 1 < ns.length) (hg : MStampTo ns (k + 1)) (h : markB ns[k + 1] = true) (hl : lessS ns[k].a0 ns[k + 1].a0 = true) : MStampTo ns (k + 2) := by
  intro i hi hik
  by_cases e : i = k + 1
  · subst e
    refine ⟨h, fun _ => ?_⟩
    simpa using hl
  · exact hg i hi (by omega)
theorem mstamp_good {ns : List MarkV} (h12 : ns.length ≤ 12) (h : MStampTo ns ns.length) : mstampB ns = true := by simp [mstampB, h12, h]
theorem mstamp_long {ns : List MarkV} (h12 : ¬ ns.length ≤ 12) : mstampB ns = false := by simp [mstampB, h12]
/-- what a version's test comes to -/
theorem mark_cases (x : MarkV) : (markB x = true ∧ plainB x.a0 = true ∧ ¬ x.a1 < 1 ∧ ¬ 1099511627776 < x.a1) ∨ (markB x = false ∧ (plainB x.a0 = false ∨ (plainB x.a0 = true ∧ x.a1 < 1) ∨ (plainB x.a0 = true ∧ ¬ x.a1 < 1 ∧ 1099511627776 < x.a1))) := by
  unfold markB
  cases plainB x.a0
  · right; simp
  · by_cases h1 : x.a1 < 1
    · right; simp; omega
    · by_cases h2 : 1099511627776 < x.a1
      · right; simp; omega
      · left; simp; omega
end Go.Proofs.YtiebfcefmdiajaaGreatDoor

set_option linter.unusedVariables false
namespace Go.Proofs.YtiebfcefmdiajaaGreatDoor
open Go.RowKit Go.Maps Go.Deep

/-- a mark's text -/
def markT (x : MarkV) : ByteArray := x.a0 ++ ⟨#[58]⟩ ++ itoaB x.a1
/-- texts with a blank between two -/
def joinB (ts : List ByteArray) : ByteArray := ⟨(Lib.join (ts.map (·.data.toList)) (⟨#[32]⟩ : ByteArray).data.toList).toArray⟩
def stampT (ns : List MarkV) : ByteArray := joinB (ns.map markT)
def textOut (ns : List MarkV) : ByteArray := if mstampB ns then (if ns.length = 0 then ⟨#[45]⟩ else stampT ns) else ⟨#[]⟩
theorem joinB_one (t : ByteArray) : joinB [t] = t := by
  unfold joinB
  rw [show [t].map (·.data.toList) = [t.data.toList] from rfl, Lib.join_one]
theorem joinB_snoc (ts : List ByteArray) (t : ByteArray) (h : ts ≠ []) : joinB (ts ++ [t]) = joinB ts ++ ⟨#[32]⟩ ++ t := by
  cases ts with
  | nil => exact absurd rfl h
  | cons a r =>
    unfold joinB
    apply ByteArray.ext
    apply Array.ext'
    simp [Lib.join_cons, Lib.joinTail]
theorem lens_le (r : List ByteArray) (N : Nat) (h : ∀ t ∈ r, t.size ≤ N) : Lib.lens (r.map (·.data.toList)) ≤ r.length * N := by
  induction r with
  | nil => simp [Lib.lens]
  | cons t r ih =>
    have ht := h t (by simp)
    have hi := ih (fun u hu => h u (by simp [hu]))
    have e : t.data.toList.length = t.size := Array.length_toList
    simp only [Lib.lens, List.map_cons, List.sum_cons, List.length_cons, Nat.add_mul] at hi ⊢
    omega
theorem joinB_len (ts : List ByteArray) (N : Nat) (h : ∀ t ∈ ts, t.size ≤ N) : (joinB ts).size ≤ ts.length * (N + 1) := by
  cases ts with
  | nil => simp [joinB, Lib.join, ByteArray.size]
  | cons t r =>
    have ht := h t (by simp)
    have hi := lens_le r N (fun u hu => h u (by simp [hu]))
    have e : t.data.toList.length = t.size := Array.length_toList
    unfold joinB
    rw [size_lit, List.map_cons, Lib.join_cons, List.length_append, Lib.joinTail_length, e, List.length_map]
    have e1 : (⟨#[32]⟩ : ByteArray).data.toList.length = 1 := rfl
    rw [e1, List.length_cons, Nat.add_mul, Nat.mul_add]
    omega
theorem mark_good {ns : List MarkV} (h : mstampB ns = true) : ns.length ≤ 12 ∧ ∀ x ∈ ns, x.a0.size ≤ 8 ∧ 1 ≤ x.a1 ∧ x.a1 ≤ 1099511627776 := by
  simp only [mstampB, Bool.and_eq_true, decide_eq_true_eq] at h
  refine ⟨h.1, fun x hx => ?_⟩
  obtain ⟨i, hi, rfl⟩ := List.getElem_of_mem hx
  have := (h.2 i hi hi).1
  simp only [markB, plainB, Bool.and_eq_true, decide_eq_true_eq] at this
  exact ⟨this.1.1.1.2, this.1.2, this.2⟩
theorem markT_size {x : MarkV} (h : x.a0.size ≤ 8 ∧ 1 ≤ x.a1 ∧ x.a1 ≤ 1099511627776) : (markT x).size ≤ 29 := by
  have := itoaB_size x.a1 (by omega) (by omega)
  have e : (⟨#[58]⟩ : ByteArray).size = 1 := rfl
  simp only [markT, ByteArray.size_append, e]
  omega
/-- the text of the first k marks -/
def textTo (ns : List MarkV) (k : Nat) : ByteArray := joinB ((ns.take k).map markT)
theorem textTo_zero (ns : List MarkV) : textTo ns 0 = ⟨#[]⟩ := rfl
theorem textTo_all (ns : List MarkV) : textTo ns ns.length = stampT ns := by unfold textTo stampT; rw [List.take_length]
theorem take_snoc (ns : List MarkV) (k : Nat) (h : k < ns.length) : (ns.take (k + 1)).map markT = (ns.take k).map markT ++ [markT ns[k]] := by
  rw [List.take_add_one, List.getElem?_eq_getElem h]
  simp only [Option.toList, List.map_append, List.map_cons, List.map_nil]
theorem textTo_first (ns : List MarkV) (h : 0 < ns.length) : textTo ns 1 = ⟨#[]⟩ ++ ns[0].a0 ++ ⟨#[58]⟩ ++ itoaB ns[0].a1 := by
  unfold textTo
  rw [take_snoc ns 0 h]
  simp only [List.take_zero, List.map_nil, List.nil_append, joinB_one, markT]
  apply ByteArray.ext
  simp
theorem textTo_next (ns : List MarkV) (k : Nat) (h : k < ns.length) (h0 : 0 < k) : textTo ns (k + 1) = textTo ns k ++ ⟨#[32]⟩ ++ ns[k].a0 ++ ⟨#[58]⟩ ++ itoaB ns[k].a1 := by
  unfold textTo
  rw [take_snoc ns k h, joinB_snoc _ _ (by
    intro e
    have := congrArg List.length e
    rw [List.length_map, List.length_take] at this
    simp only [List.length_nil] at this
    omega)]
  simp only [markT]
  apply ByteArray.ext
  simp
theorem textTo_size {ns : List MarkV} (h : mstampB ns = true) (k : Nat) : (textTo ns k).size ≤ 360 := by
  obtain ⟨h12, hx⟩ := mark_good h
  have := joinB_len ((ns.take k).map markT) 29 (fun t ht => by
    obtain ⟨x, hx', rfl⟩ := List.mem_map.1 ht
    exact markT_size (hx x (List.mem_of_mem_take hx')))
  have hl : ((ns.take k).map markT).length ≤ 12 := by simp; omega
  unfold textTo
  have : ((ns.take k).map markT).length * (29 + 1) ≤ 12 * 30 := Nat.mul_le_mul hl (Nat.le_refl _)
  omega
end Go.Proofs.YtiebfcefmdiajaaGreatDoor
