/-
  Lists of Ndx for reading and of one's own: copied, compared, marked, and found marked again. (Made by wip/mkrows.py.)
-/
import Derived.Test.YtaonajalokhngaaGreatDoorMerged50
import Derived.Deep.RegionHeld3
set_option linter.unusedVariables false
namespace Go.Proofs.YtaonajalokhngaaGreatDoor
open Go.RowKit Go.Maps Go.Deep

def NdxSRd (w : World) (v : Value) (ns : List NodeV) : Prop := ∃ a c, v = .slice a ns.length c ∧ NdxIn w a ns
def NdxSOwn (S : List Nat) (w : World) (v : Value) (ns : List NodeV) : Prop :=
  (S = [] ∧ ns = [] ∧ ∃ a c, v = .slice a 0 c) ∨ ∃ b off cap, S = [b] ∧ v = .slice (some ⟨b, off, none⟩) ns.length cap ∧ b < w.heap.size ∧ NdxAt w b off ns ∧ ∀ i, i < ns.length * 4 → w.frozen? ⟨b, off + i, none⟩ = false
theorem NdxAt.turn {w w' : World} {S : List Nat} {b off : Nat} {ns : List NodeV} (h : NdxAt w b off ns) (ht : Turn S w w') (hb : b < w.heap.size) (hS : b ∉ S) : NdxAt w' b off ns := by
  intro i hi
  obtain ⟨c0, c1, c2, c3⟩ := h i hi
  exact ⟨(ht.cell hb hS).trans c0, (ht.cell hb hS).trans c1, (ht.cell hb hS).trans c2, (ht.cell hb hS).trans c3⟩
theorem NdxSRd.up {w w' : World} {v : Value} {ns : List NodeV} (h : NdxSRd w v ns) (hb : Below w.heap.size w w') : NdxSRd w' v ns := by
  obtain ⟨a, c, e, h⟩ := h
  exact ⟨a, c, e, h.below hb⟩
theorem NdxSRd.len {w : World} {v : Value} {ns : List NodeV} (h : NdxSRd w v ns) : ∃ a c, v = .slice a ns.length c := by
  obtain ⟨a, c, e, _⟩ := h
  exact ⟨a, c, e⟩
theorem NdxSRd.form {w : World} {v : Value} {ns : List NodeV} (h : NdxSRd w v ns) : ∃ a n c, v = .slice a n c := by
  obtain ⟨a, c, e⟩ := h.len
  exact ⟨a, _, c, e⟩
theorem NdxSOwn.rd {S : List Nat} {w : World} {v : Value} {ns : List NodeV} (h : NdxSOwn S w v ns) : NdxSRd w v ns := by
  rcases h with ⟨_, rfl, a, c, rfl⟩ | ⟨b, off, cap, _, rfl, hb, hc, _⟩
  · exact ⟨a, c, rfl, .inl rfl⟩
  · exact ⟨_, cap, rfl, .inr ⟨b, off, rfl, hb, hc⟩⟩
theorem NdxSOwn.turn {S S' : List Nat} {w w' : World} {v : Value} {ns : List NodeV} (h : NdxSOwn S w v ns) (ht : Turn S' w w') (hS : ∀ k ∈ S, k ∉ S') : NdxSOwn S w' v ns := by
  rcases h with h | ⟨b, off, cap, rfl, rfl, hb, hc, hf⟩
  · exact .inl h
  · have hn := hS b (by simp)
    exact .inr ⟨b, off, cap, rfl, rfl, Nat.lt_of_lt_of_le hb ht.size, hc.turn ht hb hn, fun i hi => (ht.frozen hb hn).trans (hf i hi)⟩
theorem NdxSOwn.up {S : List Nat} {w w' : World} {v : Value} {ns : List NodeV} (h : NdxSOwn S w v ns) (hb : Below w.heap.size w w') : NdxSOwn S w' v ns := h.turn (Turn.of_below (S := []) hb) (by simp)
theorem NdxSOwn.lt {S : List Nat} {w : World} {v : Value} {ns : List NodeV} (h : NdxSOwn S w v ns) : ∀ k ∈ S, k < w.heap.size := by
  rcases h with ⟨rfl, _⟩ | ⟨b, off, cap, rfl, rfl, hb, _⟩
  · simp
  · simpa using hb
def SmallNdxS (ns : List NodeV) : Prop := NdxSmall ns ∧ NdxOk ns
def NdxSFit (ns : List NodeV) : Prop := ns.length ≤ maxLen ∧ NdxOk ns
def nNdxS (ns : List NodeV) : Nat := 4 * ns.length
theorem nNdxS_le {ns : List NodeV} (h : SmallNdxS ns) : nNdxS ns ≤ 100000000 := by have := h.1.1; unfold nNdxS; omega
theorem eqNdxS_kit (ns : List NodeV) (v v' : Value) (w : World) (hs : SmallNdxS ns) (h : NdxSRd w v ns) (h' : NdxSRd w v' ns) :
    Calls Tryz.prog 6 #[v, v'] w fun e w' => e = .returned (.bool true) ∧ Below w.heap.size w w' := by
  have hl := hs.1.1
  obtain ⟨a, c, rfl, h⟩ := h
  obtain ⟨a', c', rfl, h'⟩ := h'
  rcases h with rfl | ⟨b, off, rfl, hb, hc⟩
  · go_enter Tryz.func6, Tryz.ntmps6
    go_wp2
    refine wp_loop_rounds 1 ?_
    rw [rounds_succ]
    go_wp2
    go_ret
    exact ⟨rfl, Below.refl _ _⟩
  · rcases h' with rfl | ⟨b', off', rfl, hb', hc'⟩
    · go_enter Tryz.func6, Tryz.ntmps6
      go_wp2
      refine wp_loop_rounds 1 ?_
      rw [rounds_succ]
      go_wp2
      go_ret
      exact ⟨rfl, Below.refl _ _⟩
    · exact eqNdxS_same w b off c b' off' c' ns (by omega) hc hc' hb hb'
/-- the marks from k on -/
def mNdx (k : Nat) (j : Nat) : NodeV := ⟨((k + 4 * j : Nat) : Int), ((k + 4 * j : Nat) : Int) + 1, mText (((k + 4 * j : Nat) : Int) + 1 + 1), ((k + 4 * j : Nat) : Int) + 1 + 1 + 1⟩
def msNdx (k n : Nat) : List NodeV := (List.range n).map (mNdx k)
theorem msNdx_len (k n : Nat) : (msNdx k n).length = n := by simp [msNdx]
theorem msNdx_get (k n i : Nat) (h : i < (msNdx k n).length) : (msNdx k n)[i] = mNdx k i := by simp [msNdx]
def mtNdx (ns : List NodeV) (k j : Nat) : List NodeV := msNdx k j ++ ns.drop j
theorem mtNdx_len (ns : List NodeV) (k j : Nat) (h : j ≤ ns.length) : (mtNdx ns k j).length = ns.length := by simp [mtNdx, msNdx_len]; omega
theorem mtNdx_step (ns : List NodeV) (k j : Nat) (h : j < ns.length) : (mtNdx ns k j).set j (mNdx k j) = mtNdx ns k (j + 1) := by
  unfold mtNdx msNdx
  rw [List.range_succ, List.map_append, List.set_append_right _ _ (by simp)]
  simp only [List.length_map, List.length_range, Nat.sub_self]
  rw [List.append_assoc]
  congr 1
  rw [List.drop_eq_getElem_cons h]
  rfl
theorem mtNdx_all (ns : List NodeV) (k : Nat) : mtNdx ns k ns.length = msNdx k ns.length := by simp [mtNdx]
/-- while the j-th is written, field by field -/
def NdxMid (w : World) (b off : Nat) (ns : List NodeV) (j : Nat) (z0 z1 z2 z3 : Value) : Prop := (∀ i (h : i < ns.length), i ≠ j → w.cell? ⟨b, off + i * 4, none⟩ = some (.int .i64 (ns[i].kind)) ∧ w.cell? ⟨b, off + i * 4 + 1, none⟩ = some (.int .i64 (ns[i].num)) ∧ w.cell? ⟨b, off + i * 4 + 2, none⟩ = some (.string (ns[i].name)) ∧ w.cell? ⟨b, off + i * 4 + 3, none⟩ = some (.int .i64 (ns[i].kids))) ∧ w.cell? ⟨b, off + j * 4, none⟩ = some z0 ∧ w.cell? ⟨b, off + j * 4 + 1, none⟩ = some z1 ∧ w.cell? ⟨b, off + j * 4 + 2, none⟩ = some z2 ∧ w.cell? ⟨b, off + j * 4 + 3, none⟩ = some z3
theorem NdxMid.of {w : World} {b off : Nat} {ns : List NodeV} (h : NdxAt w b off ns) (j : Nat) (hj : j < ns.length) : NdxMid w b off ns j (.int .i64 (ns[j].kind)) (.int .i64 (ns[j].num)) (.string (ns[j].name)) (.int .i64 (ns[j].kids)) := ⟨fun i hi _ => h i hi, h j hj⟩
theorem NdxMid.below {w w' : World} {B b off : Nat} {ns : List NodeV} {j : Nat} {z0 z1 z2 z3 : Value} (h : NdxMid w b off ns j z0 z1 z2 z3) (hb : Below B w w') (hB : b < B) : NdxMid w' b off ns j z0 z1 z2 z3 := by
  have key : ∀ p, w'.cell? ⟨b, p, none⟩ = w.cell? ⟨b, p, none⟩ := fun p => hb.cell (by exact hB)
  obtain ⟨h1, h2⟩ := h
  refine ⟨fun i hi hne => ?_, ?_⟩
  · have := h1 i hi hne
    simp only [key]
    exact this
  · simp only [key]
    exact h2
theorem NdxMid.at {w : World} {b off : Nat} {ns : List NodeV} {j : Nat} {y0 : Int} {y1 : Int} {y2 : ByteArray} {y3 : Int} (h : NdxMid w b off ns j (.int .i64 (y0)) (.int .i64 (y1)) (.string (y2)) (.int .i64 (y3))) : NdxAt w b off (ns.set j ⟨y0, y1, y2, y3⟩) := by
  intro i hi
  rw [List.length_set] at hi
  by_cases e : i = j
  · subst e
    rw [List.getElem_set_self]
    exact h.2
  · rw [List.getElem_set_ne (fun h => e h.symm)]
    exact h.1 i hi e
theorem NdxMid.set0 {w : World} {b off : Nat} {ns : List NodeV} {j : Nat} {z0 z1 z2 z3 : Value} (h : NdxMid w b off ns j z0 z1 z2 z3) (v : Value) : NdxMid (w.setCell ⟨b, off + j * 4, none⟩ v) b off ns j v z1 z2 z3 := by
  have ne : ∀ (p : Nat), p ≠ off + j * 4 → (w.setCell ⟨b, off + j * 4, none⟩ v).cell? ⟨b, p, none⟩ = w.cell? ⟨b, p, none⟩ := fun p h => World.cell?_setCell_other _ _ _ _ (by intro e; have := congrArg Addr.off e; simp only at this; omega)
  obtain ⟨h1, g0, g1, g2, g3⟩ := h
  refine ⟨fun i hi hne => ?_, World.cell?_setCell_same _ _ _ g0, (ne _ (by omega)).trans g1, (ne _ (by omega)).trans g2, (ne _ (by omega)).trans g3⟩
  obtain ⟨c0, c1, c2, c3⟩ := h1 i hi hne
  exact ⟨(ne _ (by omega)).trans c0, (ne _ (by omega)).trans c1, (ne _ (by omega)).trans c2, (ne _ (by omega)).trans c3⟩
theorem NdxMid.set1 {w : World} {b off : Nat} {ns : List NodeV} {j : Nat} {z0 z1 z2 z3 : Value} (h : NdxMid w b off ns j z0 z1 z2 z3) (v : Value) : NdxMid (w.setCell ⟨b, off + j * 4 + 1, none⟩ v) b off ns j z0 v z2 z3 := by
  have ne : ∀ (p : Nat), p ≠ off + j * 4 + 1 → (w.setCell ⟨b, off + j * 4 + 1, none⟩ v).cell? ⟨b, p, none⟩ = w.cell? ⟨b, p, none⟩ := fun p h => World.cell?_setCell_other _ _ _ _ (by intro e; have := congrArg Addr.off e; simp only at this; omega)
  obtain ⟨h1, g0, g1, g2, g3⟩ := h
  refine ⟨fun i hi hne => ?_, (ne _ (by omega)).trans g0, World.cell?_setCell_same _ _ _ g1, (ne _ (by omega)).trans g2, (ne _ (by omega)).trans g3⟩
  obtain ⟨c0, c1, c2, c3⟩ := h1 i hi hne
  exact ⟨(ne _ (by omega)).trans c0, (ne _ (by omega)).trans c1, (ne _ (by omega)).trans c2, (ne _ (by omega)).trans c3⟩
theorem NdxMid.set2 {w : World} {b off : Nat} {ns : List NodeV} {j : Nat} {z0 z1 z2 z3 : Value} (h : NdxMid w b off ns j z0 z1 z2 z3) (v : Value) : NdxMid (w.setCell ⟨b, off + j * 4 + 2, none⟩ v) b off ns j z0 z1 v z3 := by
  have ne : ∀ (p : Nat), p ≠ off + j * 4 + 2 → (w.setCell ⟨b, off + j * 4 + 2, none⟩ v).cell? ⟨b, p, none⟩ = w.cell? ⟨b, p, none⟩ := fun p h => World.cell?_setCell_other _ _ _ _ (by intro e; have := congrArg Addr.off e; simp only at this; omega)
  obtain ⟨h1, g0, g1, g2, g3⟩ := h
  refine ⟨fun i hi hne => ?_, (ne _ (by omega)).trans g0, (ne _ (by omega)).trans g1, World.cell?_setCell_same _ _ _ g2, (ne _ (by omega)).trans g3⟩
  obtain ⟨c0, c1, c2, c3⟩ := h1 i hi hne
  exact ⟨(ne _ (by omega)).trans c0, (ne _ (by omega)).trans c1, (ne _ (by omega)).trans c2, (ne _ (by omega)).trans c3⟩
theorem NdxMid.set3 {w : World} {b off : Nat} {ns : List NodeV} {j : Nat} {z0 z1 z2 z3 : Value} (h : NdxMid w b off ns j z0 z1 z2 z3) (v : Value) : NdxMid (w.setCell ⟨b, off + j * 4 + 3, none⟩ v) b off ns j z0 z1 z2 v := by
  have ne : ∀ (p : Nat), p ≠ off + j * 4 + 3 → (w.setCell ⟨b, off + j * 4 + 3, none⟩ v).cell? ⟨b, p, none⟩ = w.cell? ⟨b, p, none⟩ := fun p h => World.cell?_setCell_other _ _ _ _ (by intro e; have := congrArg Addr.off e; simp only at this; omega)
  obtain ⟨h1, g0, g1, g2, g3⟩ := h
  refine ⟨fun i hi hne => ?_, (ne _ (by omega)).trans g0, (ne _ (by omega)).trans g1, (ne _ (by omega)).trans g2, World.cell?_setCell_same _ _ _ g3⟩
  obtain ⟨c0, c1, c2, c3⟩ := h1 i hi hne
  exact ⟨(ne _ (by omega)).trans c0, (ne _ (by omega)).trans c1, (ne _ (by omega)).trans c2, (ne _ (by omega)).trans c3⟩
set_option maxHeartbeats 6400000 in
theorem markNdxS_row (w : World) (b off cap : Nat) (ns : List NodeV) (k : Nat) (hk : k ≤ 1000000000) (hl : ns.length ≤ 1048576) (hb : b < w.heap.size) (hc : NdxAt w b off ns) (hf : ∀ i, i < ns.length * 4 → w.frozen? ⟨b, off + i, none⟩ = false) :
    Calls Tryz.prog 8 #[.slice (some ⟨b, off, none⟩) ns.length cap, .int .i64 (k : Int)] w fun e w' => e = .returned (.int .i64 ((k + 4 * ns.length : Nat) : Int)) ∧ Hid (NdxAt w' b off (msNdx k ns.length) ∧ Turn [b] w w' ∧ ∀ i, i < ns.length * 4 → w'.frozen? ⟨b, off + i, none⟩ = false) := by
  have HC := hide hc
  clear hc
  go_enter Tryz.func8, Tryz.ntmps8
  go_wp2_with fail
  go_loopw [1, 5] (fun kv i wr => ∃ (j : Nat) (xs : List NodeV), j ≤ ns.length ∧ i = .int .i64 j ∧ kv = .int .i64 ((k + 4 * j : Nat) : Int) ∧ Hid (xs = mtNdx ns k j) ∧ Hid (NdxAt wr b off xs) ∧ Hid (∀ i, i < ns.length * 4 → wr.frozen? ⟨b, off + i, none⟩ = false) ∧ Hid (Turn [b] w wr)) (fun _ i _ => ns.length - (intOf i).toNat)
  case atStart => exact ⟨0, _, Nat.zero_le _, rfl, rfl, rfl, HC, hide hf, Turn.refl _ _⟩
  case round =>
    obtain ⟨j, xs, hj, rfl, rfl, HXS, HV, HFZ, HT⟩ := hrel
    by_cases hlt : j < ns.length
    · have hxl : xs.length = ns.length := by rw [unhide HXS]; exact mtNdx_len ns k j (by omega)
      have hjx : j < xs.length := by omega
      have hbr : b < wr.heap.size := Nat.lt_of_lt_of_le hb (unhide HT).size
      have HXE := hide (show xs.set j ⟨((k + 4 * j : Nat) : Int), ((k + 4 * j : Nat) : Int) + 1, mText (((k + 4 * j : Nat) : Int) + 1 + 1), ((k + 4 * j : Nat) : Int) + 1 + 1 + 1⟩ = mtNdx ns k (j + 1) by rw [unhide HXS, ← mtNdx_step ns k j hlt]; rfl)
      have HFJ := hide (fun (X : World) (h : ∀ i, i < ns.length * 4 → X.frozen? ⟨b, off + i, none⟩ = false) => show X.frozen? ⟨b, off + j * 4, none⟩ = false ∧ X.frozen? ⟨b, off + j * 4 + 1, none⟩ = false ∧ X.frozen? ⟨b, off + j * 4 + 2, none⟩ = false ∧ X.frozen? ⟨b, off + j * 4 + 3, none⟩ = false from ⟨by have := h (j * 4) (by omega); simpa only [Nat.add_assoc] using this, by have := h (j * 4 + 1) (by omega); simpa only [Nat.add_assoc] using this, by have := h (j * 4 + 2) (by omega); simpa only [Nat.add_assoc] using this, by have := h (j * 4 + 3) (by omega); simpa only [Nat.add_assoc] using this⟩)
      have HM2 := hide (fun W => markText_any (((k + 4 * j : Nat) : Int) + 1 + 1) (by omega) W)
      have hK1 : (0 : Int) ≤ ((k + 4 * j : Nat) : Int) := by omega
      have hK2 : ((k + 4 * j : Nat) : Int) ≤ 10000000000 := by omega
      have HKE := hide (show ((k + 4 * j : Nat) : Int) + 1 + 1 + 1 + 1 = ((k + 4 * (j + 1) : Nat) : Int) by omega)
      clear hxl
      generalize ((k + 4 * j : Nat) : Int) = K at *
      generalize mText (K + 1 + 1) = mt2 at *
      have MD := hide (NdxMid.of (unhide HV) j hjx)
      obtain ⟨_, d0, d1, d2, d3⟩ := unhide MD
      obtain ⟨f0, f1, f2, f3⟩ := unhide HFJ wr (unhide HFZ)
      go_wp2_with fail
      clear d0 d1 d2 d3 f0 f1 f2 f3
      refine (unhide HM2 _).mono ?_
      rintro e w1 ⟨rfl, b1⟩
      have hb1 : b < ((wr.setCell ⟨b, off + j * 4, none⟩ (.int .i64 (K))).setCell ⟨b, off + j * 4 + 1, none⟩ (.int .i64 (K + 1))).heap.size := by simpa using hbr
      have MD1 := hide ((((unhide MD).set0 (.int .i64 (K))).set1 (.int .i64 (K + 1))).below b1 hb1)
      have HF1 := hide (show ∀ i, i < ns.length * 4 → w1.frozen? ⟨b, off + i, none⟩ = false from fun i hi => by
        rw [b1.frozen (by exact hb1)]
        try simp only [World.frozen?_setCell]
        exact unhide HFZ i hi)
      have HT1 := hide ((((unhide HT).setCell (by simp) _ _).setCell (by simp) _ _).trans (Turn.of_below b1))
      have hbr : b < w1.heap.size := Nat.lt_of_lt_of_le hb1 b1.size
      clear b1
      obtain ⟨_, d0, d1, d2, d3⟩ := unhide MD1
      obtain ⟨f0, f1, f2, f3⟩ := unhide HFJ w1 (unhide HF1)
      go_wp2_with fail
      clear d0 d1 d2 d3 f0 f1 f2 f3
      have HVF := hide (show NdxAt ((w1.setCell ⟨b, off + j * 4 + 2, none⟩ (.string mt2)).setCell ⟨b, off + j * 4 + 3, none⟩ (.int .i64 (K + 1 + 1 + 1))) b off _ from NdxMid.at (((unhide MD1).set2 (.string mt2)).set3 (.int .i64 (K + 1 + 1 + 1))))
      have HFF := hide (show ∀ i, i < ns.length * 4 → (((w1.setCell ⟨b, off + j * 4 + 2, none⟩ (.string mt2)).setCell ⟨b, off + j * 4 + 3, none⟩ (.int .i64 (K + 1 + 1 + 1)))).frozen? ⟨b, off + i, none⟩ = false from fun i hi => by
        try simp only [World.frozen?_setCell]
        exact unhide HF1 i hi)
      have HTF := hide (show Turn [b] w ((w1.setCell ⟨b, off + j * 4 + 2, none⟩ (.string mt2)).setCell ⟨b, off + j * 4 + 3, none⟩ (.int .i64 (K + 1 + 1 + 1))) from (((unhide HT1).setCell (by simp) _ _).setCell (by simp) _ _))
      go_roundw
      case rel => exact ⟨j + 1, _, by omega, by go_num, by rw [unhide HKE], HXE, HVF, HFF, HTF⟩
      case measure => simp [intOf]; omega
    · have e : j = ns.length := by omega
      subst e
      have HP := hide (show NdxAt wr b off (msNdx k ns.length) by rw [← mtNdx_all, ← unhide HXS]; exact unhide HV)
      go_wp2_with fail
      go_ret
      exact ⟨rfl, hide ⟨unhide HP, unhide HT, unhide HFZ⟩⟩
theorem markNdxS_none (w : World) (a : Option Addr) (cap : Nat) (K : Int) : Calls Tryz.prog 8 #[.slice a 0 cap, .int .i64 K] w fun e w' => e = .returned (.int .i64 K) ∧ w' = w := by
  go_enter Tryz.func8, Tryz.ntmps8
  go_wp2
  refine wp_loop_rounds 1 ?_
  rw [rounds_succ]
  go_wp2
  go_ret
  exact ⟨rfl, rfl⟩
def marksNdxS (k : Nat) (ns : List NodeV) : List NodeV := msNdx k ns.length
theorem markNdxS_kit (S : List Nat) (ns : List NodeV) (v : Value) (w : World) (k n : Nat) (K : Int) (hK : K = (k : Int)) (hn : nNdxS ns = n) (hk : k ≤ 1000000000) (hs : SmallNdxS ns) (h : NdxSOwn S w v ns) :
    Calls Tryz.prog 8 #[v, .int .i64 K] w fun e w' => e = .returned (.int .i64 (K + (n : Int))) ∧ Hid (NdxSOwn S w' v (marksNdxS k ns) ∧ Turn S w w') := by
  subst hK hn
  have hl := hs.1.1
  rcases h with ⟨rfl, rfl, a, c, rfl⟩ | ⟨b, off, cap, rfl, rfl, hb, hc, hf⟩
  · refine (markNdxS_none w a c k).mono ?_
    rintro e w' ⟨rfl, rfl⟩
    exact ⟨by simp [nNdxS], hide ⟨.inl ⟨rfl, rfl, a, c, rfl⟩, Turn.refl _ _⟩⟩
  · refine (markNdxS_row w b off cap ns k hk hl hb hc hf).mono ?_
    rintro e w' ⟨rfl, P⟩
    have ht := (unhide P).2.1
    refine ⟨by rw [show ((k + 4 * ns.length : Nat) : Int) = (k : Int) + ((nNdxS ns : Nat) : Int) by unfold nNdxS; omega], hide ⟨.inr ⟨b, off, cap, rfl, by unfold marksNdxS; rw [msNdx_len], Nat.lt_of_lt_of_le hb ht.size, (unhide P).1, by unfold marksNdxS; rw [msNdx_len]; exact (unhide P).2.2⟩, ht⟩⟩
end Go.Proofs.YtaonajalokhngaaGreatDoor
