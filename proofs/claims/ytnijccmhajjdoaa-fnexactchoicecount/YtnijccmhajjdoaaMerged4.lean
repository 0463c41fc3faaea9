/-
  Lists of windows with their room, for a law that marks nothing.
-/
/-
  A list of items that comes in is opened.
-/
/-
  A list of windows that comes in is opened.
-/
import Derived.Test.YtnijccmhajjdoaaCountK
import Derived.Test.YtnijccmhajjdoaaWinsTo
import Derived.Test.YtnijccmhajjdoaaItemList
import Derived.ProofKit
import Derived.OpenShut
set_option linter.unusedVariables false
namespace Go.Proofs.Ytnijccmhajjdoaa
open Go.RowKit Go.Maps Go.Deep

def ItemSSRoom (S : List Nat) (w : World) (v : Value) (ns : List (List ItemV)) : Prop := S = [] ∧ ItemSSRd w v ns ∧ ∃ a c, v = .slice a ns.length c ∧ ns.length ≤ c
theorem ItemSSRoom.rd {S : List Nat} {w : World} {v : Value} {ns : List (List ItemV)} (h : ItemSSRoom S w v ns) : ItemSSRd w v ns := h.2.1
theorem ItemSSRoom.up {S : List Nat} {w w' : World} {v : Value} {ns : List (List ItemV)} (h : ItemSSRoom S w v ns) (hb : Below w.heap.size w w') : ItemSSRoom S w' v ns := ⟨h.1, h.2.1.up hb, h.2.2⟩
theorem ItemSSRoom.lt {S : List Nat} {w : World} {v : Value} {ns : List (List ItemV)} (h : ItemSSRoom S w v ns) : ∀ k ∈ S, k < w.heap.size := by rw [h.1]; simp
def nItemSSR (ns : List (List ItemV)) : Nat := ns.length
theorem nItemSSR_le {ns : List (List ItemV)} (h : SmallItemSS ns) : nItemSSR ns ≤ 100000000 := by have := h.1; unfold nItemSSR; omega
theorem szItemSSR_kit (ns : List (List ItemV)) (v : Value) (w : World) (hf : ItemSSFit ns) (h : ItemSSRd w v ns) :
    Calls Try.prog 5 #[v, .int .i64 1048576] w fun e w' => ∃ q : Int, e = .returned (.int .i64 q) ∧ Hid (0 ≤ q → SmallItemSS ns) ∧ Below w.heap.size w w' := szItemSS_kit ns v w hf h
theorem eqItemSSR_kit (ns : List (List ItemV)) (v v' : Value) (w : World) (hs : SmallItemSS ns) (h : ItemSSRd w v ns) (h' : ItemSSRd w v' ns) :
    Calls Try.prog 9 #[v, v'] w fun e w' => e = .returned (.bool true) ∧ Below w.heap.size w w' := eqItemSS_kit ns v v' w hs h h'
theorem toItemSSR_kit (ns : List (List ItemV)) (v : Value) (w : World) (hs : SmallItemSS ns) (h : ItemSSRd w v ns) :
    Calls Try.prog 7 #[v] w fun e w' => ∃ v S, e = .returned v ∧ Hid (ItemSSRoom S w' v ns) ∧ Hid (∀ k ∈ S, w.heap.size ≤ k) ∧ Below w.heap.size w w' := by
  obtain ⟨a, c, rfl, h⟩ := h
  rcases h with rfl | ⟨b, off, rfl, hb, hc⟩
  · refine (toItemSS_none w a c).mono ?_
    rintro e w' ⟨rfl, h2, h3⟩
    exact ⟨_, [], rfl, hide ⟨rfl, ⟨_, 0, rfl, .inl rfl⟩, _, 0, rfl, Nat.le_refl _⟩, hide (by simp), h3⟩
  · refine (toItemSS_row w b off c ns hs hc hb).mono ?_
    rintro e w' ⟨rfl, h1, h2, h3⟩
    exact ⟨_, [], rfl, hide ⟨rfl, ⟨_, _, rfl, .inr ⟨_, _, rfl, h2, unhide h1 w' [] (by simp) (Turn.refl _ _)⟩⟩, _, _, rfl, Nat.le_refl _⟩, hide (by simp), h3⟩
theorem specCount_kit (ws : List (List ItemV)) (v : Value) (w : World) {S : List Nat} (hs : SmallItemSS ws) (h : ItemSSRoom S w v ws) :
    Calls Try.prog 6 #[v] w fun e w' => e = .returned (.int .i64 (countN ws : Int)) ∧ Below w.heap.size w w' := specCount_any ws v w hs h.rd
theorem implCount_kit (ws : List (List ItemV)) (v : Value) (w : World) {S : List Nat} (hs : SmallItemSS ws) (h : ItemSSRoom S w v ws) :
    Calls Try.prog 8 #[v] w fun e w' => e = .returned (.int .i64 (countN ws : Int)) ∧ Below w.heap.size w w' := by
  obtain ⟨_, hr, a, c, rfl, hc⟩ := h
  exact implCount_any ws a c w hs hc hr
end Go.Proofs.Ytnijccmhajjdoaa

set_option linter.unusedVariables false
namespace Go.Proofs.Ytnijccmhajjdoaa
open Go.RowKit Go.Maps Go.Deep

theorem cellsOfItem : Try.prog.cellsOf 61 = 2 := by kernel_rfl
theorem cellsMkItem : Try.prog.cellsOf 59 = 1 := by kernel_rfl
set_option maxRecDepth 20000 in
theorem openItemS {H : Type} {enc : TypeId × Value → H} {w : World} {base : Nat} {spare : Nat → Bool} {held : Bool} {a : Option Addr} {len cap : Nat} {d : DataW H} {p : List MemPlace}
    (h : DataW.Trod enc Try.prog w base spare held 41 (.slice a len cap) d p) :
    ∃ ns : List ItemV, ns.length = len ∧ len ≤ maxLen ∧ ItemIn w a ns ∧ ∀ x ∈ ns, ItemFit x := by
  obtain ⟨fuel, hf⟩ := h
  rcases open_slice Try.underlying41 hf with ⟨hcs, _⟩ | ⟨a', len', cap', m, n, D, Pl, hcs, hb, hl, hm, hmm, _, hx⟩
  · simp [Value.cells] at hcs
    obtain ⟨rfl, rfl, rfl⟩ := hcs
    exact ⟨[], rfl, by unfold maxLen; omega, .inl rfl, fun _ h => by cases h⟩
  · simp [Value.cells] at hcs
    obtain ⟨rfl, rfl, rfl⟩ := hcs
    have hlm : len ≤ m := by rw [hmm]; split <;> omega
    have each : ∀ i, i < len → ∃ q : Int × List MarkV, w.cell? (a'.add (i * 2)) = some (.int .i64 (q.1)) ∧ (∃ v, w.cell? (a'.add (i * 2 + 1)) = some v ∧ MarkSRd w v q.2) ∧ ItemFit ⟨q.1, q.2⟩ := by
      intro i hi
      obtain ⟨cs', h1, h2⟩ := hx i (by omega)
      rw [cellsOfItem] at h1
      obtain ⟨_, hlen, hcell⟩ := World.cells?_some h1
      obtain ⟨xs, k, hk, hxy, _, hxl, hf⟩ := DataW.trod_struct Try.underlying61 h2
      match xs, hxl, cs', hlen with
      | [y0, y1], _, [v0, v1], _ =>
        have g0 := hf 0 _ rfl
        have g1 := hf 1 _ rfl
        simp [cellsIMark, cellsMkItem] at g0 g1
        obtain ⟨n0, e0, _, hs0⟩ := DataW.trod_int Try.underlying3 g0
        simp at e0
        subst e0
        have hv1 : ∃ a1 l1 c1, v1 = .slice a1 l1 c1 := by
          rcases open_slice Try.underlying59 g1 with ⟨hcs, _⟩ | ⟨a1, l1, c1, _, _, _, _, hcs, _⟩
          · simp at hcs; exact ⟨_, _, _, hcs⟩
          · simp at hcs; exact ⟨_, _, _, hcs⟩
        obtain ⟨a1, l1, c1, rfl⟩ := hv1
        obtain ⟨ms, rfl, hml, hmi, hmo⟩ := openMarkS ⟨_, g1⟩
        have c0 := hcell 0 (by omega)
        have c1' := hcell 1 (by omega)
        rw [add_add] at c0 c1'
        exact ⟨(n0, ms), by simpa using c0, ⟨_, by simpa using c1', a1, c1, rfl, hmi⟩, ⟨markRange hs0, hml, hmo⟩⟩
    have hin : Inhabited (Int × List MarkV) := ⟨(0, [])⟩
    obtain ⟨q, hq⟩ := choose_lt each
    refine ⟨(List.range len).map fun i => ⟨(q i).1, (q i).2⟩, by simp, by omega, ?_, ?_⟩
    · by_cases h0 : len = 0
      · subst h0; exact .inl (by simp)
      · have hc0 := (hq 0 (by omega)).1
        obtain ⟨b, off, spot⟩ := a'
        have hspot : spot = none := by simpa [Addr.add] using World.cell?_spot hc0
        subst hspot
        refine .inr ⟨b, off, rfl, ?_, ?_⟩
        · exact lt_of_cellMark (by simpa [Addr.add] using hc0)
        · intro i hi
          have hi' : i < len := by simpa using hi
          obtain ⟨c0, ⟨v, c1, hv⟩, _⟩ := hq i hi'
          simp only [List.getElem_map, List.getElem_range]
          refine ⟨?_, v, ?_, hv⟩
          · by_cases e : i = 0
            · subst e; simpa [Addr.add] using c0
            · have e4 : ¬ i * 2 = 0 := by omega
              simpa [Addr.add, e4] using c0
          · simpa [Addr.add, Nat.add_assoc] using c1
    · intro x hx
      simp at hx
      obtain ⟨i, hi, rfl⟩ := hx
      exact (hq i hi).2.2
end Go.Proofs.Ytnijccmhajjdoaa

set_option linter.unusedVariables false
namespace Go.Proofs.Ytnijccmhajjdoaa
open Go.RowKit Go.Maps Go.Deep

theorem cellsItemS : Try.prog.cellsOf 41 = 1 := by kernel_rfl
set_option maxRecDepth 20000 in
theorem openItemSS {H : Type} {enc : TypeId × Value → H} {w : World} {base : Nat} {spare : Nat → Bool} {held : Bool} {a : Option Addr} {len cap : Nat} {d : DataW H} {p : List MemPlace}
    (h : DataW.Trod enc Try.prog w base spare held 22 (.slice a len cap) d p) :
    ∃ ns : List (List ItemV), ns.length = len ∧ len ≤ maxLen ∧ WinsIn w a ns ∧ ∀ x ∈ ns, ItemSFit x := by
  obtain ⟨fuel, hf⟩ := h
  rcases open_slice Try.underlying22 hf with ⟨hcs, _⟩ | ⟨a', len', cap', m, n, D, Pl, hcs, hb, hl, hm, hmm, _, hx⟩
  · simp [Value.cells] at hcs
    obtain ⟨rfl, rfl, rfl⟩ := hcs
    exact ⟨[], rfl, by unfold maxLen; omega, .inl rfl, fun _ h => by cases h⟩
  · simp [Value.cells] at hcs
    obtain ⟨rfl, rfl, rfl⟩ := hcs
    have hlm : len ≤ m := by rw [hmm]; split <;> omega
    have each : ∀ i, i < len → ∃ q : List ItemV, (∃ v, w.cell? (a'.add i) = some v ∧ ItemSRd w v q) ∧ ItemSFit q := by
      intro i hi
      obtain ⟨cs', h1, h2⟩ := hx i (by omega)
      rw [cellsItemS] at h1
      obtain ⟨_, hlen, hcell⟩ := World.cells?_some h1
      match cs', hlen with
      | [v0], _ =>
        have hv0 : ∃ a1 l1 c1, v0 = .slice a1 l1 c1 := by
          rcases open_slice Try.underlying41 h2 with ⟨hcs, _⟩ | ⟨a1, l1, c1, _, _, _, _, hcs, _⟩
          · simp at hcs; exact ⟨_, _, _, hcs⟩
          · simp at hcs; exact ⟨_, _, _, hcs⟩
        obtain ⟨a1, l1, c1, rfl⟩ := hv0
        obtain ⟨ms, rfl, hml, hmi, hmo⟩ := openItemS ⟨_, h2⟩
        have c0 := hcell 0 (by omega)
        rw [add_add] at c0
        exact ⟨ms, ⟨_, by simpa using c0, a1, c1, rfl, hmi⟩, hml, hmo⟩
    have hin : Inhabited (List ItemV) := ⟨[]⟩
    obtain ⟨q, hq⟩ := choose_lt each
    refine ⟨(List.range len).map q, by simp, by omega, ?_, ?_⟩
    · by_cases h0 : len = 0
      · subst h0; exact .inl (by simp)
      · obtain ⟨⟨v, hc0, _⟩, _⟩ := hq 0 (by omega)
        obtain ⟨b, off, spot⟩ := a'
        have hspot : spot = none := by simpa [Addr.add] using World.cell?_spot hc0
        subst hspot
        refine .inr ⟨b, off, rfl, ?_, ?_⟩
        · exact lt_of_cellMark (by simpa [Addr.add] using hc0)
        · intro i hi
          have hi' : i < len := by simpa using hi
          obtain ⟨⟨v, c0, hv⟩, _⟩ := hq i hi'
          simp only [List.getElem_map, List.getElem_range]
          refine ⟨v, ?_, hv⟩
          by_cases e : i = 0
          · subst e; simpa [Addr.add] using c0
          · simpa [Addr.add, e] using c0
    · intro x hx
      simp at hx
      obtain ⟨i, hi, rfl⟩ := hx
      exact (hq i hi).2
end Go.Proofs.Ytnijccmhajjdoaa
