/-
  Lists of Rec for reading and of one's own: copied, compared, marked, and found marked again. (Made by wip/mkrows.py.)
-/
import Derived.Test.YtcpjcdbhcllbiaaRecRows
import Derived.Test.YtcpjcdbhcllbiaaMarkText
import Derived.Deep.RegionHeld3
set_option linter.unusedVariables false
namespace Go.Proofs.Ytcpjcdbhcllbiaa
open Go.RowKit Go.Maps Go.Deep

def RecSRd (w : World) (v : Value) (ns : List RecV) : Prop := ∃ a c, v = .slice a ns.length c ∧ RecIn w a ns
def RecSOwn (S : List Nat) (w : World) (v : Value) (ns : List RecV) : Prop :=
  (S = [] ∧ ns = [] ∧ ∃ a c, v = .slice a 0 c) ∨ ∃ b off cap, S = [b] ∧ v = .slice (some ⟨b, off, none⟩) ns.length cap ∧ b < w.heap.size ∧ RecAt w b off ns ∧ ∀ i, i < ns.length * 4 → w.frozen? ⟨b, off + i, none⟩ = false
theorem RecAt.turn {w w' : World} {S : List Nat} {b off : Nat} {ns : List RecV} (h : RecAt w b off ns) (ht : Turn S w w') (hb : b < w.heap.size) (hS : b ∉ S) : RecAt w' b off ns := by
  intro i hi
  obtain ⟨c0, c1, c2, c3⟩ := h i hi
  exact ⟨(ht.cell hb hS).trans c0, (ht.cell hb hS).trans c1, (ht.cell hb hS).trans c2, (ht.cell hb hS).trans c3⟩
theorem RecSRd.up {w w' : World} {v : Value} {ns : List RecV} (h : RecSRd w v ns) (hb : Below w.heap.size w w') : RecSRd w' v ns := by
  obtain ⟨a, c, e, h⟩ := h
  exact ⟨a, c, e, h.below hb⟩
theorem RecSRd.len {w : World} {v : Value} {ns : List RecV} (h : RecSRd w v ns) : ∃ a c, v = .slice a ns.length c := by
  obtain ⟨a, c, e, _⟩ := h
  exact ⟨a, c, e⟩
theorem RecSRd.form {w : World} {v : Value} {ns : List RecV} (h : RecSRd w v ns) : ∃ a n c, v = .slice a n c := by
  obtain ⟨a, c, e⟩ := h.len
  exact ⟨a, _, c, e⟩
theorem RecSOwn.rd {S : List Nat} {w : World} {v : Value} {ns : List RecV} (h : RecSOwn S w v ns) : RecSRd w v ns := by
  rcases h with ⟨_, rfl, a, c, rfl⟩ | ⟨b, off, cap, _, rfl, hb, hc, _⟩
  · exact ⟨a, c, rfl, .inl rfl⟩
  · exact ⟨_, cap, rfl, .inr ⟨b, off, rfl, hb, hc⟩⟩
theorem RecSOwn.turn {S S' : List Nat} {w w' : World} {v : Value} {ns : List RecV} (h : RecSOwn S w v ns) (ht : Turn S' w w') (hS : ∀ k ∈ S, k ∉ S') : RecSOwn S w' v ns := by
  rcases h with h | ⟨b, off, cap, rfl, rfl, hb, hc, hf⟩
  · exact .inl h
  · have hn := hS b (by simp)
    exact .inr ⟨b, off, cap, rfl, rfl, Nat.lt_of_lt_of_le hb ht.size, hc.turn ht hb hn, fun i hi => (ht.frozen hb hn).trans (hf i hi)⟩
theorem RecSOwn.up {S : List Nat} {w w' : World} {v : Value} {ns : List RecV} (h : RecSOwn S w v ns) (hb : Below w.heap.size w w') : RecSOwn S w' v ns := h.turn (Turn.of_below (S := []) hb) (by simp)
theorem RecSOwn.lt {S : List Nat} {w : World} {v : Value} {ns : List RecV} (h : RecSOwn S w v ns) : ∀ k ∈ S, k < w.heap.size := by
  rcases h with ⟨rfl, _⟩ | ⟨b, off, cap, rfl, rfl, hb, _⟩
  · simp
  · simpa using hb
def SmallRecS (ns : List RecV) : Prop := RecSmall ns ∧ RecOk ns
def RecSFit (ns : List RecV) : Prop := ns.length ≤ maxLen ∧ RecOk ns
def nRecS (ns : List RecV) : Nat := 4 * ns.length
theorem nRecS_le {ns : List RecV} (h : SmallRecS ns) : nRecS ns ≤ 100000000 := by have := h.1.1; unfold nRecS; omega
/-- the marks from k on -/
def mRec (k : Nat) (j : Nat) : RecV := ⟨((k + 4 * j : Nat) : Int), mText (((k + 4 * j : Nat) : Int) + 1), ((k + 4 * j : Nat) : Int) + 1 + 1, mText (((k + 4 * j : Nat) : Int) + 1 + 1 + 1)⟩
def msRec (k n : Nat) : List RecV := (List.range n).map (mRec k)
theorem msRec_len (k n : Nat) : (msRec k n).length = n := by simp [msRec]
theorem msRec_get (k n i : Nat) (h : i < (msRec k n).length) : (msRec k n)[i] = mRec k i := by simp [msRec]
def mtRec (ns : List RecV) (k j : Nat) : List RecV := msRec k j ++ ns.drop j
theorem mtRec_len (ns : List RecV) (k j : Nat) (h : j ≤ ns.length) : (mtRec ns k j).length = ns.length := by simp [mtRec, msRec_len]; omega
theorem mtRec_step (ns : List RecV) (k j : Nat) (h : j < ns.length) : (mtRec ns k j).set j (mRec k j) = mtRec ns k (j + 1) := by
  unfold mtRec msRec
  rw [List.range_succ, List.map_append, List.set_append_right _ _ (by simp)]
  simp only [List.length_map, List.length_range, Nat.sub_self]
  rw [List.append_assoc]
  congr 1
  rw [List.drop_eq_getElem_cons h]
  rfl
theorem mtRec_all (ns : List RecV) (k : Nat) : mtRec ns k ns.length = msRec k ns.length := by simp [mtRec]
/-- while the j-th is written, field by field -/
def RecMid (w : World) (b off : Nat) (ns : List RecV) (j : Nat) (z0 z1 z2 z3 : Value) : Prop := (∀ i (h : i < ns.length), i ≠ j → w.cell? ⟨b, off + i * 4, none⟩ = some (.int .i64 (ns[i].kind)) ∧ w.cell? ⟨b, off + i * 4 + 1, none⟩ = some (.string (ns[i].name)) ∧ w.cell? ⟨b, off + i * 4 + 2, none⟩ = some (.int .i64 (ns[i].num)) ∧ w.cell? ⟨b, off + i * 4 + 3, none⟩ = some (.string (ns[i].text))) ∧ w.cell? ⟨b, off + j * 4, none⟩ = some z0 ∧ w.cell? ⟨b, off + j * 4 + 1, none⟩ = some z1 ∧ w.cell? ⟨b, off + j * 4 + 2, none⟩ = some z2 ∧ w.cell? ⟨b, off + j * 4 + 3, none⟩ = some z3
theorem RecMid.of {w : World} {b off : Nat} {ns : List RecV} (h : RecAt w b off ns) (j : Nat) (hj : j < ns.length) : RecMid w b off ns j (.int .i64 (ns[j].kind)) (.string (ns[j].name)) (.int .i64 (ns[j].num)) (.string (ns[j].text)) := ⟨fun i hi _ => h i hi, h j hj⟩
theorem RecMid.below {w w' : World} {B b off : Nat} {ns : List RecV} {j : Nat} {z0 z1 z2 z3 : Value} (h : RecMid w b off ns j z0 z1 z2 z3) (hb : Below B w w') (hB : b < B) : RecMid w' b off ns j z0 z1 z2 z3 := by
  have key : ∀ p, w'.cell? ⟨b, p, none⟩ = w.cell? ⟨b, p, none⟩ := fun p => hb.cell (by exact hB)
  obtain ⟨h1, h2⟩ := h
  refine ⟨fun i hi hne => ?_, ?_⟩
  · have := h1 i hi hne
    simp only [key]
    exact this
  · simp only [key]
    exact h2
theorem RecMid.at {w : World} {b off : Nat} {ns : List RecV} {j : Nat} {y0 : Int} {y1 : ByteArray} {y2 : Int} {y3 : ByteArray} (h : RecMid w b off ns j (.int .i64 (y0)) (.string (y1)) (.int .i64 (y2)) (.string (y3))) : RecAt w b off (ns.set j ⟨y0, y1, y2, y3⟩) := by
  intro i hi
  rw [List.length_set] at hi
  by_cases e : i = j
  · subst e
    rw [List.getElem_set_self]
    exact h.2
  · rw [List.getElem_set_ne (fun h => e h.symm)]
    exact h.1 i hi e
theorem RecMid.set0 {w : World} {b off : Nat} {ns : List RecV} {j : Nat} {z0 z1 z2 z3 : Value} (h : RecMid w b off ns j z0 z1 z2 z3) (v : Value) : RecMid (w.setCell ⟨b, off + j * 4, none⟩ v) b off ns j v z1 z2 z3 := by
  have ne : ∀ (p : Nat), p ≠ off + j * 4 → (w.setCell ⟨b, off + j * 4, none⟩ v).cell? ⟨b, p, none⟩ = w.cell? ⟨b, p, none⟩ := fun p h => World.cell?_setCell_other _ _ _ _ (by intro e; have := congrArg Addr.off e; simp only at this; omega)
  obtain ⟨h1, g0, g1, g2, g3⟩ := h
  refine ⟨fun i hi hne => ?_, World.cell?_setCell_same _ _ _ g0, (ne _ (by omega)).trans g1, (ne _ (by omega)).trans g2, (ne _ (by omega)).trans g3⟩
  obtain ⟨c0, c1, c2, c3⟩ := h1 i hi hne
  exact ⟨(ne _ (by omega)).trans c0, (ne _ (by omega)).trans c1, (ne _ (by omega)).trans c2, (ne _ (by omega)).trans c3⟩
theorem RecMid.set1 {w : World} {b off : Nat} {ns : List RecV} {j : Nat} {z0 z1 z2 z3 : Value} (h : RecMid w b off ns j z0 z1 z2 z3) (v : Value) : RecMid (w.setCell ⟨b, off + j * 4 + 1, none⟩ v) b off ns j z0 v z2 z3 := by
  have ne : ∀ (p : Nat), p ≠ off + j * 4 + 1 → (w.setCell ⟨b, off + j * 4 + 1, none⟩ v).cell? ⟨b, p, none⟩ = w.cell? ⟨b, p, none⟩ := fun p h => World.cell?_setCell_other _ _ _ _ (by intro e; have := congrArg Addr.off e; simp only at this; omega)
  obtain ⟨h1, g0, g1, g2, g3⟩ := h
  refine ⟨fun i hi hne => ?_, (ne _ (by omega)).trans g0, World.cell?_setCell_same _ _ _ g1, (ne _ (by omega)).trans g2, (ne _ (by omega)).trans g3⟩
  obtain ⟨c0, c1, c2, c3⟩ := h1 i hi hne
  exact ⟨(ne _ (by omega)).trans c0, (ne _ (by omega)).trans c1, (ne _ (by omega)).trans c2, (ne _ (by omega)).trans c3⟩
theorem RecMid.set2 {w : World} {b off : Nat} {ns : List RecV} {j : Nat} {z0 z1 z2 z3 : Value} (h : RecMid w b off ns j z0 z1 z2 z3) (v : Value) : RecMid (w.setCell ⟨b, off + j * 4 + 2, none⟩ v) b off ns j z0 z1 v z3 := by
  have ne : ∀ (p : Nat), p ≠ off + j * 4 + 2 → (w.setCell ⟨b, off + j * 4 + 2, none⟩ v).cell? ⟨b, p, none⟩ = w.cell? ⟨b, p, none⟩ := fun p h => World.cell?_setCell_other _ _ _ _ (by intro e; have := congrArg Addr.off e; simp only at this; omega)
  obtain ⟨h1, g0, g1, g2, g3⟩ := h
  refine ⟨fun i hi hne => ?_, (ne _ (by omega)).trans g0, (ne _ (by omega)).trans g1, World.cell?_setCell_same _ _ _ g2, (ne _ (by omega)).trans g3⟩
  obtain ⟨c0, c1, c2, c3⟩ := h1 i hi hne
  exact ⟨(ne _ (by omega)).trans c0, (ne _ (by omega)).trans c1, (ne _ (by omega)).trans c2, (ne _ (by omega)).trans c3⟩
theorem RecMid.set3 {w : World} {b off : Nat} {ns : List RecV} {j : Nat} {z0 z1 z2 z3 : Value} (h : RecMid w b off ns j z0 z1 z2 z3) (v : Value) : RecMid (w.setCell ⟨b, off + j * 4 + 3, none⟩ v) b off ns j z0 z1 z2 v := by
  have ne : ∀ (p : Nat), p ≠ off + j * 4 + 3 → (w.setCell ⟨b, off + j * 4 + 3, none⟩ v).cell? ⟨b, p, none⟩ = w.cell? ⟨b, p, none⟩ := fun p h => World.cell?_setCell_other _ _ _ _ (by intro e; have := congrArg Addr.off e; simp only at this; omega)
  obtain ⟨h1, g0, g1, g2, g3⟩ := h
  refine ⟨fun i hi hne => ?_, (ne _ (by omega)).trans g0, (ne _ (by omega)).trans g1, (ne _ (by omega)).trans g2, World.cell?_setCell_same _ _ _ g3⟩
  obtain ⟨c0, c1, c2, c3⟩ := h1 i hi hne
  exact ⟨(ne _ (by omega)).trans c0, (ne _ (by omega)).trans c1, (ne _ (by omega)).trans c2, (ne _ (by omega)).trans c3⟩
end Go.Proofs.Ytcpjcdbhcllbiaa
