/-
  Lists of items for reading: each a number and a list of marks; how much they hold.
-/
import Derived.Test.YtcjomdbklgjojaaMarkRowsOwn
import Derived.Handy
set_option linter.unusedVariables false
namespace Go.Proofs.Ytcjomdbklgjojaa
open Go.RowKit Go.Maps Go.Deep

structure ItemV where
  a0 : Int
  a1 : List MarkV
/-- they lie one behind the other, from a place of a block on; each one's marks may be read -/
def ItemAt (w : World) (b off : Nat) (ns : List ItemV) : Prop :=
  ∀ i (h : i < ns.length), w.cell? ⟨b, off + i * 2, none⟩ = some (.int .i64 ns[i].a0) ∧ ∃ v, w.cell? ⟨b, off + i * 2 + 1, none⟩ = some v ∧ MarkSRd w v ns[i].a1
def ItemFit (x : ItemV) : Prop := (-9223372036854775808 ≤ x.a0 ∧ x.a0 ≤ 9223372036854775807) ∧ MarkSFit x.a1
def SmallItem (x : ItemV) : Prop := (-9223372036854775808 ≤ x.a0 ∧ x.a0 ≤ 9223372036854775807) ∧ SmallMarkS x.a1
def ItemIn (w : World) (a : Option Addr) (ns : List ItemV) : Prop :=
  ns = [] ∨ ∃ b off, a = some ⟨b, off, none⟩ ∧ b < w.heap.size ∧ ItemAt w b off ns
def ItemSRd (w : World) (v : Value) (ns : List ItemV) : Prop := ∃ a c, v = .slice a ns.length c ∧ ItemIn w a ns
def ItemSFit (ns : List ItemV) : Prop := ns.length ≤ maxLen ∧ ∀ x ∈ ns, ItemFit x
def SmallItemS (ns : List ItemV) : Prop := ns.length ≤ 1048576 ∧ ∀ x ∈ ns, SmallItem x
theorem ItemAt.up {w w' : World} {b off : Nat} {ns : List ItemV} (h : ItemAt w b off ns) (hb : b < w.heap.size) (hw : Below w.heap.size w w') : ItemAt w' b off ns := by
  intro i hi
  obtain ⟨c0, v, c1, hv⟩ := h i hi
  exact ⟨(hw.cell (by exact hb)).trans c0, v, (hw.cell (by exact hb)).trans c1, hv.up hw⟩
theorem ItemIn.up {w w' : World} {a : Option Addr} {ns : List ItemV} (h : ItemIn w a ns) (hw : Below w.heap.size w w') : ItemIn w' a ns := by
  rcases h with h | ⟨b, off, e, hb, h⟩
  · exact .inl h
  · exact .inr ⟨b, off, e, Nat.lt_of_lt_of_le hb hw.size, h.up hb hw⟩
theorem ItemSRd.up {w w' : World} {v : Value} {ns : List ItemV} (h : ItemSRd w v ns) (hw : Below w.heap.size w w') : ItemSRd w' v ns := by
  obtain ⟨a, c, e, h⟩ := h
  exact ⟨a, c, e, h.up hw⟩
theorem ItemSRd.form {w : World} {v : Value} {ns : List ItemV} (h : ItemSRd w v ns) : ∃ a n c, v = .slice a n c := by
  obtain ⟨a, c, e, _⟩ := h
  exact ⟨a, _, c, e⟩

end Go.Proofs.Ytcjomdbklgjojaa
