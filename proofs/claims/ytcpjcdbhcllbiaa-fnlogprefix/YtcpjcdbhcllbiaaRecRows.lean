/-
  Lists of Rec in memory, and the law's own helpers over them: how much they hold, how they are copied, how two lists are compared, and how one that comes in is opened. (Made by wip/mkrows.py.)
-/
import Derived.Test.YtcpjcdbhcllbiaaBytes
import Derived.Test.YtcpjcdbhcllbiaaRecs
import Derived.Deep.RegionWith
import Derived.Deep.Slices
import Derived.ProofKit
import Derived.OpenShut
set_option linter.unusedVariables false
namespace Go.Proofs.Ytcpjcdbhcllbiaa
open Go.RowKit Go.Maps Go.Deep


/-- they lie one behind the other, from a place of a block on -/
def RecAt (w : World) (b off : Nat) (ns : List RecV) : Prop :=
  ∀ i (h : i < ns.length), w.cell? ⟨b, off + i * 4, none⟩ = some (.int .i64 (ns[i].kind)) ∧ w.cell? ⟨b, off + i * 4 + 1, none⟩ = some (.string (ns[i].name)) ∧ w.cell? ⟨b, off + i * 4 + 2, none⟩ = some (.int .i64 (ns[i].num)) ∧ w.cell? ⟨b, off + i * 4 + 3, none⟩ = some (.string (ns[i].text))
def RecOk (ns : List RecV) : Prop := ∀ x ∈ ns, RecFit x
/-- what the bound gives where it is not passed -/
def RecSmall (ns : List RecV) : Prop := ns.length ≤ 1048576 ∧ ∀ x ∈ ns, x.name.size ≤ 1048576 ∧ x.text.size ≤ 1048576

/-- what is left, or less than nothing -/
def RecLeft (n1 n3 : Nat) (left r : Int) : Prop := r ≤ left ∧ (0 ≤ r → (n1 : Int) ≤ left ∧ (n3 : Int) ≤ left)
def RetRecSz (ns : List RecV) (left0 : Int) (e : Ending) : Prop := ∃ r : Int, e = .returned (.int .i64 r) ∧ r ≤ left0 ∧ (0 ≤ r → RecSmall ns)
theorem infoRec : (Try.prog.info? 32).map (fun i => (i.zero, i.size, i.bytes)) = some (some (.agg #[.int .i64 0, .string ByteArray.empty, .int .i64 0, .string ByteArray.empty]), 4, 48) := by kernel_rfl

def RecTo (xs : List Value) (ns : List RecV) (k : Nat) : Prop :=
  ∀ i (h : i < ns.length), i < k → xs[i * 4]? = some (.int .i64 (ns[i].kind)) ∧ xs[i * 4 + 1]? = some (.string (ns[i].name)) ∧ xs[i * 4 + 2]? = some (.int .i64 (ns[i].num)) ∧ xs[i * 4 + 3]? = some (.string (ns[i].text))
theorem recTo_step (xs : List Value) (ns : List RecV) (k : Nat) (hk : k < ns.length) (hx : xs.length = ns.length * 4) (h : RecTo xs ns k) :
    RecTo ((((xs.set (k * 4) (.int .i64 (ns[k].kind))).set (k * 4 + 1) (.string (ns[k].name))).set (k * 4 + 2) (.int .i64 (ns[k].num))).set (k * 4 + 3) (.string (ns[k].text))) ns (k + 1) := by
  intro i hi hik
  by_cases e : i = k
  · subst e
    simp [List.getElem?_set, hx]
    omega
  · obtain ⟨c0, c1, c2, c3⟩ := h i hi (by omega)
    refine ⟨?_, ?_, ?_, ?_⟩ <;> (repeat rw [List.getElem?_set_ne (by omega)]) <;> assumption

theorem ownsRowRec_below {w w' : World} {base B : Nat} {e : TypeId} {size : Nat} {g n cap : Nat} {xs : List Value} (h : w.ownsRow base e size (.slice (some ⟨g, 0, none⟩) n cap) n xs) (hb : Below B w w') (hg : g < B) :
    w'.ownsRow base e size (.slice (some ⟨g, 0, none⟩) n cap) n xs := by
  refine ⟨h.1, ?_⟩
  rcases h.2 with ⟨h', _⟩ | ⟨g', cap', cur, h', h1, h2, h3⟩
  · simp at h'
  · refine .inr ⟨g', cap', cur, h', h1, ?_, h3⟩
    simp only [Value.slice.injEq, Option.some.injEq, Addr.mk.injEq, and_true, true_and] at h'
    obtain ⟨rfl, rfl⟩ := h'
    rw [hb.block g hg]; exact h2
theorem recCells {w : World} {base : Nat} {e : TypeId} {g n cap : Nat} {xs : List Value} (h : w.ownsRow base e 4 (.slice (some ⟨g, 0, none⟩) n cap) n xs) (k : Nat) (hk : k < n) :
    ∃ v0 v1 v2 v3, w.cell? ⟨g, k * 4, none⟩ = some v0 ∧ w.cell? ⟨g, k * 4 + 1, none⟩ = some v1 ∧ w.cell? ⟨g, k * 4 + 2, none⟩ = some v2 ∧ w.cell? ⟨g, k * 4 + 3, none⟩ = some v3 ∧ w.frozen? ⟨g, k * 4, none⟩ = false ∧ w.frozen? ⟨g, k * 4 + 1, none⟩ = false ∧ w.frozen? ⟨g, k * 4 + 2, none⟩ = false ∧ w.frozen? ⟨g, k * 4 + 3, none⟩ = false := by
  have hx := h.1
  refine ⟨xs[k * 4]'(by omega), xs[k * 4 + 1]'(by omega), xs[k * 4 + 2]'(by omega), xs[k * 4 + 3]'(by omega), ?_, ?_, ?_, ?_, h.frozenAt _, h.frozenAt _, h.frozenAt _, h.frozenAt _⟩
  all_goals
    rw [h.cellAt _ (by omega)]
    exact List.getElem?_eq_getElem _
theorem recStore {w : World} {base : Nat} {e : TypeId} {g n cap : Nat} {xs : List Value} (h : w.ownsRow base e 4 (.slice (some ⟨g, 0, none⟩) n cap) n xs) (k : Nat) (v0 v1 v2 v3 : Value) :
    (((((w.setCell ⟨g, k * 4, none⟩ v0).setCell ⟨g, k * 4 + 1, none⟩ v1).setCell ⟨g, k * 4 + 2, none⟩ v2).setCell ⟨g, k * 4 + 3, none⟩ v3)).ownsRow base e 4 (.slice (some ⟨g, 0, none⟩) n cap) n ((((xs.set (k * 4) v0).set (k * 4 + 1) v1).set (k * 4 + 2) v2).set (k * 4 + 3) v3) :=
  ((((h.stored (k * 4) v0).1.stored (k * 4 + 1) v1).1.stored (k * 4 + 2) v2).1.stored (k * 4 + 3) v3).1
theorem recOfRow {w : World} {base : Nat} {e : TypeId} {g n cap : Nat} {xs : List Value} {ns : List RecV} (h : w.ownsRow base e 4 (.slice (some ⟨g, 0, none⟩) n cap) n xs) (hn : ns.length = n) (ht : RecTo xs ns n) : RecAt w g 0 ns := by
  intro i hi
  obtain ⟨c0, c1, c2, c3⟩ := ht i hi (by omega)
  refine ⟨?_, ?_, ?_, ?_⟩
  all_goals
    rw [Nat.zero_add, h.cellAt _ (by omega)]
    assumption

/-- a slice value leads to these: empty, or a row of them -/
def RecIn (w : World) (a : Option Addr) (ns : List RecV) : Prop :=
  ns = [] ∨ ∃ b off, a = some ⟨b, off, none⟩ ∧ b < w.heap.size ∧ RecAt w b off ns
theorem RecAt.below {w w' : World} {B b off : Nat} {ns : List RecV} (h : RecAt w b off ns) (hb : Below B w w') (hB : b < B) : RecAt w' b off ns := by
  intro i hi
  obtain ⟨c0, c1, c2, c3⟩ := h i hi
  exact ⟨(hb.cell (by exact hB)).trans c0, (hb.cell (by exact hB)).trans c1, (hb.cell (by exact hB)).trans c2, (hb.cell (by exact hB)).trans c3⟩
theorem RecIn.below {w w' : World} {a : Option Addr} {ns : List RecV} (h : RecIn w a ns) (hb : Below w.heap.size w w') : RecIn w' a ns := by
  rcases h with h | ⟨b, off, e, hlt, hn⟩
  · exact .inl h
  · exact .inr ⟨b, off, e, Nat.lt_of_lt_of_le hlt hb.size, hn.below hb hlt⟩
theorem cellsIRec : Try.prog.cellsOf 3 = 1 := by kernel_rfl
theorem cellsSRec : Try.prog.cellsOf 9 = 1 := by kernel_rfl
theorem lt_of_cellRec {w : World} {b off : Nat} {v : Value} (h : w.cell? ⟨b, off, none⟩ = some v) : b < w.heap.size := by
  by_cases hb : b < w.heap.size
  · exact hb
  · exfalso
    have : w.heap[b]? = none := Array.getElem?_eq_none (by omega)
    simp [World.cell?, this] at h
theorem recRange {k : Int} (h : (Lit.int .i64 k).wf = true) : -9223372036854775808 ≤ k ∧ k ≤ 9223372036854775807 := bounds_i64 h
end Go.Proofs.Ytcpjcdbhcllbiaa
