/-
  Lists of bytes in memory: for reading, and as rows of one's own; the laws' own helpers over them: how much they hold, how they are copied, compared, marked, and found marked again.
-/
/-
  Lists of Mark in memory, and the law's own helpers over them: how much they hold, how they are copied, how two lists are compared, and how one that comes in is opened. (Made by wip/mkrows.py.)
-/
import Derived.Test.YtlbhandkpnjgmaaMerged1
import Derived.Deep.RegionWith
import Derived.Deep.RegionHeld3
import Derived.Deep.Slices
import Derived.ProofKit
import Derived.OpenShut
set_option linter.unusedVariables false
namespace Go.Proofs.Ytlbhandkpnjgmaa
open Go.RowKit Go.Maps Go.Deep

def byV (c : UInt8) : Value := .int .u8 (c.toNat : Int)
/-- bytes lie one behind the other, from a place of a block on -/
def ByAt (w : World) (b off : Nat) (bs : List UInt8) : Prop := ∀ i (h : i < bs.length), w.cell? ⟨b, off + i, none⟩ = some (.int .u8 (bs[i].toNat : Int))
def ByIn (w : World) (a : Option Addr) (bs : List UInt8) : Prop := bs = [] ∨ ∃ b off, a = some ⟨b, off, none⟩ ∧ b < w.heap.size ∧ ByAt w b off bs
/-- a slice value that leads to these bytes, for reading -/
def ByRd (w : World) (v : Value) (bs : List UInt8) : Prop := ∃ a cap, v = .slice a bs.length cap ∧ ByIn w a bs ∧ bs.length ≤ cap
/-- a slice value of one's own with these bytes; S: its block, where it has one -/
def ByOwn (S : List Nat) (w : World) (v : Value) (bs : List UInt8) : Prop :=
  (S = [] ∧ bs = [] ∧ ∃ a cap, v = .slice a 0 cap) ∨ ∃ b off cap, S = [b] ∧ v = .slice (some ⟨b, off, none⟩) bs.length cap ∧ b < w.heap.size ∧ ByAt w b off bs ∧ (∀ i, i < bs.length → w.frozen? ⟨b, off + i, none⟩ = false) ∧ bs.length ≤ cap

theorem ByAt.below {w w' : World} {B b off : Nat} {bs : List UInt8} (h : ByAt w b off bs) (hb : Below B w w') (hB : b < B) : ByAt w' b off bs := fun i hi => (hb.cell (by exact hB)).trans (h i hi)
theorem ByAt.turn {w w' : World} {S : List Nat} {b off : Nat} {bs : List UInt8} (h : ByAt w b off bs) (ht : Turn S w w') (hb : b < w.heap.size) (hS : b ∉ S) : ByAt w' b off bs := fun i hi => (ht.cell hb hS).trans (h i hi)
theorem ByIn.below {w w' : World} {B : Nat} {a : Option Addr} {bs : List UInt8} (h : ByIn w a bs) (hb : Below B w w') (hB : ∀ x, a = some x → 1 ≤ bs.length → x.block < B) : ByIn w' a bs := by
  rcases h with h | ⟨b, off, e, hlt, hn⟩
  · exact .inl h
  · by_cases h0 : bs.length = 0
    · exact .inl (List.eq_nil_of_length_eq_zero h0)
    · exact .inr ⟨b, off, e, Nat.lt_of_lt_of_le hlt hb.size, hn.below hb (hB _ e (by omega))⟩
theorem ByIn.up {w w' : World} {a : Option Addr} {bs : List UInt8} (h : ByIn w a bs) (hb : Below w.heap.size w w') : ByIn w' a bs := by
  rcases h with h | ⟨b, off, e, hlt, hn⟩
  · exact .inl h
  · exact .inr ⟨b, off, e, Nat.lt_of_lt_of_le hlt hb.size, hn.below hb hlt⟩
theorem ByRd.up {w w' : World} {v : Value} {bs : List UInt8} (h : ByRd w v bs) (hb : Below w.heap.size w w') : ByRd w' v bs := by
  obtain ⟨a, cap, e, h, hc⟩ := h
  exact ⟨a, cap, e, h.up hb, hc⟩
theorem ByRd.nil (w : World) (a : Option Addr) (cap : Nat) : ByRd w (.slice a 0 cap) [] := ⟨a, cap, rfl, .inl rfl, Nat.zero_le _⟩
theorem ByOwn.nil (w : World) (a : Option Addr) (cap : Nat) : ByOwn [] w (.slice a 0 cap) [] := .inl ⟨rfl, rfl, a, cap, rfl⟩
theorem ByOwn.rd {S : List Nat} {w : World} {v : Value} {bs : List UInt8} (h : ByOwn S w v bs) : ByRd w v bs := by
  rcases h with ⟨_, rfl, a, cap, rfl⟩ | ⟨b, off, cap, _, rfl, hb, hc, _, hcap⟩
  · exact ByRd.nil _ _ _
  · exact ⟨_, cap, rfl, .inr ⟨b, off, rfl, hb, hc⟩, hcap⟩
theorem ByOwn.turn {S S' : List Nat} {w w' : World} {v : Value} {bs : List UInt8} (h : ByOwn S w v bs) (ht : Turn S' w w') (hS : ∀ k ∈ S, k ∉ S') : ByOwn S w' v bs := by
  rcases h with h | ⟨b, off, cap, rfl, rfl, hb, hc, hf, hcap⟩
  · exact .inl h
  · have hn := hS b (by simp)
    exact .inr ⟨b, off, cap, rfl, rfl, Nat.lt_of_lt_of_le hb ht.size, hc.turn ht hb hn, fun i hi => (ht.frozen hb hn).trans (hf i hi), hcap⟩
theorem ByOwn.up {S : List Nat} {w w' : World} {v : Value} {bs : List UInt8} (h : ByOwn S w v bs) (hb : Below w.heap.size w w') : ByOwn S w' v bs := h.turn (Turn.of_below (S := []) hb) (by simp)
theorem ByOwn.lt {S : List Nat} {w : World} {v : Value} {bs : List UInt8} (h : ByOwn S w v bs) : ∀ k ∈ S, k < w.heap.size := by
  rcases h with ⟨rfl, _⟩ | ⟨b, off, cap, rfl, rfl, hb, _⟩
  · simp
  · simpa using hb
theorem ByOwn.nodup {S : List Nat} {w : World} {v : Value} {bs : List UInt8} (h : ByOwn S w v bs) : S.Nodup := by
  rcases h with ⟨rfl, _⟩ | ⟨b, off, cap, rfl, _⟩ <;> simp
/-- a row that was made by appending is one's own -/
theorem ByOwn.of_row {w : World} {B : Nat} {v : Value} {bs : List UInt8} (h : w.ownsRow B 5 1 v bs.length (bs.map byV)) : ∃ S, ByOwn S w v bs ∧ ∀ k ∈ S, B ≤ k := by
  have hh := h
  rcases h with ⟨_, ⟨rfl, h0⟩ | ⟨g, cap, cur, rfl, hB, hg, hnc, _⟩⟩
  · have : bs = [] := List.eq_nil_of_length_eq_zero h0
    subst this
    exact ⟨[], ByOwn.nil _ _ _, by simp⟩
  · refine ⟨[g], .inr ⟨g, 0, cap, rfl, rfl, (Array.getElem?_eq_some_iff.1 hg).1, fun i hi => ?_, fun i hi => hh.frozenAt _, hnc⟩, by simpa using hB⟩
    rw [Nat.zero_add, hh.cellAt _ (by omega)]
    simp [byV, hi]
theorem ByRd.len {w : World} {v : Value} {bs : List UInt8} (h : ByRd w v bs) : ∃ a cap, v = .slice a bs.length cap := by
  obtain ⟨a, cap, e, _⟩ := h
  exact ⟨a, cap, e⟩

theorem infoByte : (Try.prog.info? 5).map (fun i => (i.zero, i.size, i.bytes)) = some (some (.int .u8 0), 1, 1) := by kernel_rfl
theorem info_parts1 {t : TypeId} {z : Value} {a b : Nat} (h : (Try.prog.info? t).map (fun i => (i.zero, i.size, i.bytes)) = some (some z, a, b)) : ∃ i, Try.prog.info? t = some i ∧ i.zero = some z ∧ i.size = a ∧ i.bytes = b := by
  cases hi : Try.prog.info? t with
  | none => rw [hi] at h; cases h
  | some i =>
    rw [hi] at h
    simp only [Option.map_some, Option.some.injEq, Prod.mk.injEq] at h
    exact ⟨i, rfl, h.1, h.2.1, h.2.2⟩


end Go.Proofs.Ytlbhandkpnjgmaa

set_option linter.unusedVariables false
namespace Go.Proofs.Ytlbhandkpnjgmaa
open Go.RowKit Go.Maps Go.Deep

structure MarkV where
  a0 : ByteArray
  a1 : Int

/-- they lie one behind the other, from a place of a block on -/
def MarkAt (w : World) (b off : Nat) (ns : List MarkV) : Prop :=
  ∀ i (h : i < ns.length), w.cell? ⟨b, off + i * 2, none⟩ = some (.string (ns[i].a0)) ∧ w.cell? ⟨b, off + i * 2 + 1, none⟩ = some (.int .i64 (ns[i].a1))
def MarkFit (x : MarkV) : Prop := x.a0.size ≤ maxLen ∧ (-9223372036854775808 ≤ x.a1 ∧ x.a1 ≤ 9223372036854775807)
def MarkOk (ns : List MarkV) : Prop := ∀ x ∈ ns, MarkFit x
/-- what the bound gives where it is not passed -/
def MarkSmall (ns : List MarkV) : Prop := ns.length ≤ 1048576 ∧ ∀ x ∈ ns, x.a0.size ≤ 1048576

/-- what is left, or less than nothing -/
def MarkSLeft (n0 : Nat) (left r : Int) : Prop := r ≤ left ∧ (0 ≤ r → (n0 : Int) ≤ left)
def RetMarkSz (ns : List MarkV) (left0 : Int) (e : Ending) : Prop := ∃ r : Int, e = .returned (.int .i64 r) ∧ r ≤ left0 ∧ (0 ≤ r → MarkSmall ns)
theorem infoMark : (Try.prog.info? 76).map (fun i => (i.zero, i.size, i.bytes)) = some (some (.agg #[.string ByteArray.empty, .int .i64 0]), 2, 24) := by kernel_rfl

def MarkTo (xs : List Value) (ns : List MarkV) (k : Nat) : Prop :=
  ∀ i (h : i < ns.length), i < k → xs[i * 2]? = some (.string (ns[i].a0)) ∧ xs[i * 2 + 1]? = some (.int .i64 (ns[i].a1))
theorem markTo_step (xs : List Value) (ns : List MarkV) (k : Nat) (hk : k < ns.length) (hx : xs.length = ns.length * 2) (h : MarkTo xs ns k) :
    MarkTo ((xs.set (k * 2) (.string (ns[k].a0))).set (k * 2 + 1) (.int .i64 (ns[k].a1))) ns (k + 1) := by
  intro i hi hik
  by_cases e : i = k
  · subst e
    simp [List.getElem?_set, hx]
    omega
  · obtain ⟨c0, c1⟩ := h i hi (by omega)
    refine ⟨?_, ?_⟩ <;> (repeat rw [List.getElem?_set_ne (by omega)]) <;> assumption

theorem ownsRowMark_below {w w' : World} {base B : Nat} {e : TypeId} {size : Nat} {g n cap : Nat} {xs : List Value} (h : w.ownsRow base e size (.slice (some ⟨g, 0, none⟩) n cap) n xs) (hb : Below B w w') (hg : g < B) :
    w'.ownsRow base e size (.slice (some ⟨g, 0, none⟩) n cap) n xs := by
  refine ⟨h.1, ?_⟩
  rcases h.2 with ⟨h', _⟩ | ⟨g', cap', cur, h', h1, h2, h3⟩
  · simp at h'
  · refine .inr ⟨g', cap', cur, h', h1, ?_, h3⟩
    simp only [Value.slice.injEq, Option.some.injEq, Addr.mk.injEq, and_true, true_and] at h'
    obtain ⟨rfl, rfl⟩ := h'
    rw [hb.block g hg]; exact h2
theorem markCells {w : World} {base : Nat} {e : TypeId} {g n cap : Nat} {xs : List Value} (h : w.ownsRow base e 2 (.slice (some ⟨g, 0, none⟩) n cap) n xs) (k : Nat) (hk : k < n) :
    ∃ v0 v1, w.cell? ⟨g, k * 2, none⟩ = some v0 ∧ w.cell? ⟨g, k * 2 + 1, none⟩ = some v1 ∧ w.frozen? ⟨g, k * 2, none⟩ = false ∧ w.frozen? ⟨g, k * 2 + 1, none⟩ = false := by
  have hx := h.1
  refine ⟨xs[k * 2]'(by omega), xs[k * 2 + 1]'(by omega), ?_, ?_, h.frozenAt _, h.frozenAt _⟩
  all_goals
    rw [h.cellAt _ (by omega)]
    exact List.getElem?_eq_getElem _
theorem markStore {w : World} {base : Nat} {e : TypeId} {g n cap : Nat} {xs : List Value} (h : w.ownsRow base e 2 (.slice (some ⟨g, 0, none⟩) n cap) n xs) (k : Nat) (v0 v1 : Value) :
    (((w.setCell ⟨g, k * 2, none⟩ v0).setCell ⟨g, k * 2 + 1, none⟩ v1)).ownsRow base e 2 (.slice (some ⟨g, 0, none⟩) n cap) n ((xs.set (k * 2) v0).set (k * 2 + 1) v1) :=
  ((h.stored (k * 2) v0).1.stored (k * 2 + 1) v1).1
theorem markOfRow {w : World} {base : Nat} {e : TypeId} {g n cap : Nat} {xs : List Value} {ns : List MarkV} (h : w.ownsRow base e 2 (.slice (some ⟨g, 0, none⟩) n cap) n xs) (hn : ns.length = n) (ht : MarkTo xs ns n) : MarkAt w g 0 ns := by
  intro i hi
  obtain ⟨c0, c1⟩ := ht i hi (by omega)
  refine ⟨?_, ?_⟩
  all_goals
    rw [Nat.zero_add, h.cellAt _ (by omega)]
    assumption

/-- a slice value leads to these: empty, or a row of them -/
def MarkIn (w : World) (a : Option Addr) (ns : List MarkV) : Prop :=
  ns = [] ∨ ∃ b off, a = some ⟨b, off, none⟩ ∧ b < w.heap.size ∧ MarkAt w b off ns
theorem MarkAt.below {w w' : World} {B b off : Nat} {ns : List MarkV} (h : MarkAt w b off ns) (hb : Below B w w') (hB : b < B) : MarkAt w' b off ns := by
  intro i hi
  obtain ⟨c0, c1⟩ := h i hi
  exact ⟨(hb.cell (by exact hB)).trans c0, (hb.cell (by exact hB)).trans c1⟩
theorem MarkIn.below {w w' : World} {a : Option Addr} {ns : List MarkV} (h : MarkIn w a ns) (hb : Below w.heap.size w w') : MarkIn w' a ns := by
  rcases h with h | ⟨b, off, e, hlt, hn⟩
  · exact .inl h
  · exact .inr ⟨b, off, e, Nat.lt_of_lt_of_le hlt hb.size, hn.below hb hlt⟩
theorem cellsIMark : Try.prog.cellsOf 3 = 1 := by kernel_rfl
theorem cellsSMark : Try.prog.cellsOf 9 = 1 := by kernel_rfl
theorem lt_of_cellMark {w : World} {b off : Nat} {v : Value} (h : w.cell? ⟨b, off, none⟩ = some v) : b < w.heap.size := by
  by_cases hb : b < w.heap.size
  · exact hb
  · exfalso
    have : w.heap[b]? = none := Array.getElem?_eq_none (by omega)
    simp [World.cell?, this] at h
theorem markRange {k : Int} (h : (Lit.int .i64 k).wf = true) : -9223372036854775808 ≤ k ∧ k ≤ 9223372036854775807 := bounds_i64 h
end Go.Proofs.Ytlbhandkpnjgmaa
