/-
  A list of nodes that comes in, opened: nil, or a row of nodes in memory. And the law's helpers over it.
-/
import Derived.Test.YtckeljpmdmbdmaaDoorNodes
import Derived.Deep.Slices
import Derived.ProofKit
namespace Go.Proofs.YtckeljpmdmbdmaaDoor
open Go.RowKit Go.Maps Go.Deep

/-- a slice value leads to these nodes: empty, or a row of them -/
def NodesIn (w : World) (a : Option Addr) (ns : List NodeV) : Prop :=
  ns = [] ∨ ∃ b off, a = some ⟨b, off, none⟩ ∧ b < w.heap.size ∧ NodesAt w b off ns
def NamesOk (ns : List NodeV) : Prop := ∀ n ∈ ns, n.name.size ≤ maxLen

theorem NodesAt.below {w w' : World} {B b off : Nat} {ns : List NodeV} (h : NodesAt w b off ns) (hb : Below B w w') (hB : b < B) : NodesAt w' b off ns := by
  intro i hi
  obtain ⟨c0, c1, c2, c3⟩ := h i hi
  exact ⟨(hb.cell (by exact hB)).trans c0, (hb.cell (by exact hB)).trans c1, (hb.cell (by exact hB)).trans c2, (hb.cell (by exact hB)).trans c3⟩
theorem NodesIn.below {w w' : World} {a : Option Addr} {ns : List NodeV} (h : NodesIn w a ns) (hb : Below w.heap.size w w') : NodesIn w' a ns := by
  rcases h with h | ⟨b, off, e, hlt, hn⟩
  · exact .inl h
  · exact .inr ⟨b, off, e, Nat.lt_of_lt_of_le hlt hb.size, hn.below hb hlt⟩

theorem cells_node : Tryd.prog.cellsOf 39 = 4 := by kernel_rfl
theorem cells_int : Tryd.prog.cellsOf 3 = 1 := by kernel_rfl
theorem cells_str : Tryd.prog.cellsOf 9 = 1 := by kernel_rfl

theorem lt_of_cell {w : World} {b off : Nat} {v : Value} (h : w.cell? ⟨b, off, none⟩ = some v) : b < w.heap.size := by
  by_cases hb : b < w.heap.size
  · exact hb
  · exfalso
    have : w.heap[b]? = none := Array.getElem?_eq_none (by omega)
    simp [World.cell?, this] at h

set_option maxRecDepth 20000 in
theorem open_nodes {H : Type} {enc : TypeId × Value → H} {w : World} {base : Nat} {spare : Nat → Bool} {held : Bool} {a : Option Addr} {len cap : Nat} {d : DataW H} {p : List MemPlace}
    (h : DataW.Trod enc Tryd.prog w base spare held 22 (.slice a len cap) d p) :
    ∃ ns : List NodeV, ns.length = len ∧ len ≤ maxLen ∧ NodesIn w a ns ∧ NamesOk ns := by
  obtain ⟨fuel, hf⟩ := h
  rcases open_slice Tryd.underlying22 hf with ⟨hcs, _⟩ | ⟨a', len', cap', m, n, D, Pl, hcs, hb, hl, hm, hmm, _, hx⟩
  · simp [Value.cells] at hcs
    obtain ⟨rfl, rfl, rfl⟩ := hcs
    exact ⟨[], rfl, by unfold maxLen; omega, .inl rfl, fun _ h => by cases h⟩
  · simp [Value.cells] at hcs
    obtain ⟨rfl, rfl, rfl⟩ := hcs
    have hlm : len ≤ m := by rw [hmm]; split <;> omega
    have each : ∀ i, i < len → ∃ q : Int × Int × ByteArray × Int, w.cell? (a'.add (i * 4)) = some (.int .i64 q.1) ∧ w.cell? (a'.add (i * 4 + 1)) = some (.int .i64 q.2.1) ∧ w.cell? (a'.add (i * 4 + 2)) = some (.string q.2.2.1) ∧ w.cell? (a'.add (i * 4 + 3)) = some (.int .i64 q.2.2.2) ∧ q.2.2.1.size ≤ maxLen := by
      intro i hi
      obtain ⟨cs', h1, h2⟩ := hx i (by omega)
      rw [cells_node] at h1
      obtain ⟨_, hlen, hcell⟩ := World.cells?_some h1
      obtain ⟨xs, k, hk, hxy, _, hxl, hf⟩ := DataW.trod_struct Tryd.underlying39 h2
      match xs, hxl, cs', hlen with
      | [y0, y1, y2, y3], _, [v0, v1, v2, v3], _ =>
        have g0 := hf 0 _ rfl
        have g1 := hf 1 _ rfl
        have g2 := hf 2 _ rfl
        have g3 := hf 3 _ rfl
        simp [cells_int, cells_str] at g0 g1 g2 g3
        obtain ⟨n0, e0, _, _⟩ := DataW.trod_int Tryd.underlying3 g0
        obtain ⟨n1, e1, _, _⟩ := DataW.trod_int Tryd.underlying3 g1
        obtain ⟨s2, e2, _, hs⟩ := DataW.trod_string Tryd.underlying9 g2
        obtain ⟨n3, e3, _, _⟩ := DataW.trod_int Tryd.underlying3 g3
        simp at e0 e1 e2 e3
        subst e0 e1 e2 e3
        have c0 := hcell 0 (by omega)
        have c1 := hcell 1 (by omega)
        have c2 := hcell 2 (by omega)
        have c3 := hcell 3 (by omega)
        rw [add_add] at c0 c1 c2 c3
        exact ⟨(n0, n1, s2, n3), by simpa using c0, by simpa using c1, by simpa using c2, by simpa using c3, hs⟩
    have hin : Inhabited (Int × Int × ByteArray × Int) := ⟨(0, 0, ByteArray.empty, 0)⟩
    obtain ⟨q, hq⟩ := choose_lt each
    refine ⟨(List.range len).map fun i => ⟨(q i).1, (q i).2.1, (q i).2.2.1, (q i).2.2.2⟩, by simp, by omega, ?_, ?_⟩
    · by_cases h0 : len = 0
      · subst h0; exact .inl (by simp)
      · have hc0 := (hq 0 (by omega)).1
        obtain ⟨b, off, spot⟩ := a'
        have hspot : spot = none := by simpa [Addr.add] using World.cell?_spot hc0
        subst hspot
        refine .inr ⟨b, off, rfl, ?_, ?_⟩
        · exact lt_of_cell (by simpa [Addr.add] using hc0)
        · intro i hi
          have hi' : i < len := by simpa using hi
          obtain ⟨c0, c1, c2, c3, _⟩ := hq i hi'
          simp only [List.getElem_map, List.getElem_range]
          refine ⟨?_, ?_, ?_, ?_⟩
          · by_cases e : i = 0
            · subst e; simpa [Addr.add] using c0
            · have e4 : ¬ i * 4 = 0 := by omega
              simpa [Addr.add, e4] using c0
          · simpa [Addr.add, Nat.add_assoc] using c1
          · simpa [Addr.add, Nat.add_assoc] using c2
          · simpa [Addr.add, Nat.add_assoc] using c3
    · intro n hn
      simp at hn
      obtain ⟨i, hi, rfl⟩ := hn
      exact (hq i hi).2.2.2.2

theorem szNodeS_in (w : World) (a : Option Addr) (cap : Nat) (ns : List NodeV) (hl : ns.length ≤ maxLen) (h : NodesIn w a ns) (hs : NamesOk ns) :
    Calls Tryd.prog 6 #[.slice a ns.length cap, .int .i64 1048576] w fun e w' => (∃ r : Int, e = .returned (.int .i64 r) ∧ (0 ≤ r → Small ns)) ∧ Below w.heap.size w w' := by
  rcases h with rfl | ⟨b, off, rfl, hb, hn⟩
  · refine (szNodeS_none w a cap).mono ?_
    rintro e w' ⟨rfl, rfl⟩
    exact ⟨⟨_, rfl, fun _ => ⟨by simp, fun _ h => by cases h⟩⟩, Below.refl _ _⟩
  · exact szNodeS_any w b off cap ns (by unfold maxLen at hl; omega) hn hb hs
theorem toNodeS_in (w : World) (a : Option Addr) (cap : Nat) (ns : List NodeV) (hl : ns.length ≤ 1048576) (h : NodesIn w a ns) :
    Calls Tryd.prog 8 #[.slice a ns.length cap] w fun e w' => e = .returned (.slice (some ⟨w.heap.size, 0, none⟩) ns.length ns.length) ∧ NodesAt w' w.heap.size 0 ns ∧ w.heap.size < w'.heap.size ∧ Below w.heap.size w w' := by
  rcases h with rfl | ⟨b, off, rfl, hb, hn⟩
  · refine (toNodeS_none w a cap).mono ?_
    rintro e w' ⟨rfl, h1, h2⟩
    exact ⟨rfl, fun i hi => absurd hi (Nat.not_lt_zero _), h1, h2⟩
  · exact toNodeS_any w b off cap ns hl hn hb

end Go.Proofs.YtckeljpmdmbdmaaDoor
