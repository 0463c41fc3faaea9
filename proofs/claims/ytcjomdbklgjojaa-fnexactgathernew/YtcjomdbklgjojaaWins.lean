/-
  Lists of windows, each a list of items, for reading: how much they hold.
-/
import Derived.Test.YtcjomdbklgjojaaItemRows
set_option linter.unusedVariables false
namespace Go.Proofs.Ytcjomdbklgjojaa
open Go.RowKit Go.Maps Go.Deep

/-- they lie one behind the other, from a place of a block on; each one's items may be read -/
def WinsAt (w : World) (b off : Nat) (ws : List (List ItemV)) : Prop :=
  ∀ i (h : i < ws.length), ∃ v, w.cell? ⟨b, off + i, none⟩ = some v ∧ ItemSRd w v ws[i]
def WinsIn (w : World) (a : Option Addr) (ws : List (List ItemV)) : Prop :=
  ws = [] ∨ ∃ b off, a = some ⟨b, off, none⟩ ∧ b < w.heap.size ∧ WinsAt w b off ws
def ItemSSRd (w : World) (v : Value) (ws : List (List ItemV)) : Prop := ∃ a c, v = .slice a ws.length c ∧ WinsIn w a ws
def ItemSSFit (ws : List (List ItemV)) : Prop := ws.length ≤ maxLen ∧ ∀ x ∈ ws, ItemSFit x
def SmallItemSS (ws : List (List ItemV)) : Prop := ws.length ≤ 1048576 ∧ ∀ x ∈ ws, SmallItemS x
theorem WinsAt.up {w w' : World} {b off : Nat} {ws : List (List ItemV)} (h : WinsAt w b off ws) (hb : b < w.heap.size) (hw : Below w.heap.size w w') : WinsAt w' b off ws := by
  intro i hi
  obtain ⟨v, c, hv⟩ := h i hi
  exact ⟨v, (hw.cell (by exact hb)).trans c, hv.up hw⟩
theorem WinsIn.up {w w' : World} {a : Option Addr} {ws : List (List ItemV)} (h : WinsIn w a ws) (hw : Below w.heap.size w w') : WinsIn w' a ws := by
  rcases h with h | ⟨b, off, e, hb, h⟩
  · exact .inl h
  · exact .inr ⟨b, off, e, Nat.lt_of_lt_of_le hb hw.size, h.up hb hw⟩
theorem ItemSSRd.up {w w' : World} {v : Value} {ws : List (List ItemV)} (h : ItemSSRd w v ws) (hw : Below w.heap.size w w') : ItemSSRd w' v ws := by
  obtain ⟨a, c, e, h⟩ := h
  exact ⟨a, c, e, h.up hw⟩
theorem ItemSSRd.form {w : World} {v : Value} {ws : List (List ItemV)} (h : ItemSSRd w v ws) : ∃ a n c, v = .slice a n c := by
  obtain ⟨a, c, e, _⟩ := h
  exact ⟨a, _, c, e⟩

end Go.Proofs.Ytcjomdbklgjojaa
