/-
  Lists of Rec for reading and of one's own: copied, compared, marked, and found marked again. (Made by wip/mkrows.py.)
-/
import Derived.Test.YthlcgghilmpboaaRecRows
import Derived.Test.YthlcgghilmpboaaMarkText
import Derived.Deep.RegionHeld3
set_option linter.unusedVariables false
namespace Go.Proofs.Ythlcgghilmpboaa
open Go.RowKit Go.Maps Go.Deep

def RecSRd (w : World) (v : Value) (ns : List RecV) : Prop := ∃ a c, v = .slice a ns.length c ∧ RecIn w a ns
def RecSOwn (S : List Nat) (w : World) (v : Value) (ns : List RecV) : Prop :=
  (S = [] ∧ ns = [] ∧ ∃ a c, v = .slice a 0 c) ∨ ∃ b off cap, S = [b] ∧ v = .slice (some ⟨b, off, none⟩) ns.length cap ∧ b < w.heap.size ∧ RecAt w b off ns ∧ ∀ i, i < ns.length * 4 → w.frozen? ⟨b, off + i, none⟩ = false
theorem RecAt.turn {w w' : World} {S : List Nat} {b off : Nat} {ns : List RecV} (h : RecAt w b off ns) (ht : Turn S w w') (hb : b < w.heap.size) (hS : b ∉ S) : RecAt w' b off ns := by
  intro i hi
  obtain ⟨c0, c1, c2, c3⟩ := h i hi
  exact ⟨(ht.cell hb hS).trans c0, (ht.cell hb hS).trans c1, (ht.cell hb hS).trans c2, (ht.cell hb hS).trans c3⟩
theorem RecSRd.up {w w' : World} {v : Value} {ns : List RecV} (h : RecSRd w v ns) (hb : Below w.heap.size w w') : RecSRd w' v ns := by
  obtain ⟨a, c, e, h⟩ := h
  exact ⟨a, c, e, h.below hb⟩
theorem RecSRd.len {w : World} {v : Value} {ns : List RecV} (h : RecSRd w v ns) : ∃ a c, v = .slice a ns.length c := by
  obtain ⟨a, c, e, _⟩ := h
  exact ⟨a, c, e⟩
theorem RecSRd.form {w : World} {v : Value} {ns : List RecV} (h : RecSRd w v ns) : ∃ a n c, v = .slice a n c := by
  obtain ⟨a, c, e⟩ := h.len
  exact ⟨a, _, c, e⟩
theorem RecSOwn.rd {S : List Nat} {w : World} {v : Value} {ns : List RecV} (h : RecSOwn S w v ns) : RecSRd w v ns := by
  rcases h with ⟨_, rfl, a, c, rfl⟩ | ⟨b, off, cap, _, rfl, hb, hc, _⟩
  · exact ⟨a, c, rfl, .inl rfl⟩
  · exact ⟨_, cap, rfl, .inr ⟨b, off, rfl, hb, hc⟩⟩
theorem RecSOwn.turn {S S' : List Nat} {w w' : World} {v : Value} {ns : List RecV} (h : RecSOwn S w v ns) (ht : Turn S' w w') (hS : ∀ k ∈ S, k ∉ S') : RecSOwn S w' v ns := by
  rcases h with h | ⟨b, off, cap, rfl, rfl, hb, hc, hf⟩
  · exact .inl h
  · have hn := hS b (by simp)
    exact .inr ⟨b, off, cap, rfl, rfl, Nat.lt_of_lt_of_le hb ht.size, hc.turn ht hb hn, fun i hi => (ht.frozen hb hn).trans (hf i hi)⟩
theorem RecSOwn.up {S : List Nat} {w w' : World} {v : Value} {ns : List RecV} (h : RecSOwn S w v ns) (hb : Below w.heap.size w w') : RecSOwn S w' v ns := h.turn (Turn.of_below (S := []) hb) (by simp)
theorem RecSOwn.lt {S : List Nat} {w : World} {v : Value} {ns : List RecV} (h : RecSOwn S w v ns) : ∀ k ∈ S, k < w.heap.size := by
  rcases h with ⟨rfl, _⟩ | ⟨b, off, cap, rfl, rfl, hb, _⟩
  · simp
  · simpa using hb
def SmallRecS (ns : List RecV) : Prop := RecSmall ns ∧ RecOk ns
def RecSFit (ns : List RecV) : Prop := ns.length ≤ maxLen ∧ RecOk ns
def nRecS (ns : List RecV) : Nat := 4 * ns.length
theorem nRecS_le {ns : List RecV} (h : SmallRecS ns) : nRecS ns ≤ 100000000 := by have := h.1.1; unfold nRecS; omega
theorem eqRecS_kit (ns : List RecV) (v v' : Value) (w : World) (hs : SmallRecS ns) (h : RecSRd w v ns) (h' : RecSRd w v' ns) :
    Calls Try.prog 9 #[v, v'] w fun e w' => e = .returned (.bool true) ∧ Below w.heap.size w w' := by
  have hl := hs.1.1
  obtain ⟨a, c, rfl, h⟩ := h
  obtain ⟨a', c', rfl, h'⟩ := h'
  rcases h with rfl | ⟨b, off, rfl, hb, hc⟩
  · go_enter Try.func9, Try.ntmps9
    go_wp2
    refine wp_loop_rounds 1 ?_
    rw [rounds_succ]
    go_wp2
    go_ret
    exact ⟨rfl, Below.refl _ _⟩
  · rcases h' with rfl | ⟨b', off', rfl, hb', hc'⟩
    · go_enter Try.func9, Try.ntmps9
      go_wp2
      refine wp_loop_rounds 1 ?_
      rw [rounds_succ]
      go_wp2
      go_ret
      exact ⟨rfl, Below.refl _ _⟩
    · exact eqRecS_same w b off c b' off' c' ns (by omega) hc hc' hb hb'
/-- the marks from k on -/
def mRec (k : Nat) (j : Nat) : RecV := ⟨((k + 4 * j : Nat) : Int), mText (((k + 4 * j : Nat) : Int) + 1), ((k + 4 * j : Nat) : Int) + 1 + 1, mText (((k + 4 * j : Nat) : Int) + 1 + 1 + 1)⟩
def msRec (k n : Nat) : List RecV := (List.range n).map (mRec k)
theorem msRec_len (k n : Nat) : (msRec k n).length = n := by simp [msRec]
theorem msRec_get (k n i : Nat) (h : i < (msRec k n).length) : (msRec k n)[i] = mRec k i := by simp [msRec]
def mtRec (ns : List RecV) (k j : Nat) : List RecV := msRec k j ++ ns.drop j
theorem mtRec_len (ns : List RecV) (k j : Nat) (h : j ≤ ns.length) : (mtRec ns k j).length = ns.length := by simp [mtRec, msRec_len]; omega
theorem mtRec_step (ns : List RecV) (k j : Nat) (h : j < ns.length) : (mtRec ns k j).set j (mRec k j) = mtRec ns k (j + 1) := by
  unfold mtRec msRec
  rw [List.range_succ, List.map_append, List.set_append_right _ _ (by simp)]
  simp only [List.length_map, List.length_range, Nat.sub_self]
  rw [List.append_assoc]
  congr 1
  rw [List.drop_eq_getElem_cons h]
  rfl
theorem mtRec_all (ns : List RecV) (k : Nat) : mtRec ns k ns.length = msRec k ns.length := by simp [mtRec]
/-- while the j-th is written, field by field -/
def RecMid (w : World) (b off : Nat) (ns : List RecV) (j : Nat) (z0 z1 z2 z3 : Value) : Prop := (∀ i (h : i < ns.length), i ≠ j → w.cell? ⟨b, off + i * 4, none⟩ = some (.int .i64 (ns[i].kind)) ∧ w.cell? ⟨b, off + i * 4 + 1, none⟩ = some (.string (ns[i].name)) ∧ w.cell? ⟨b, off + i * 4 + 2, none⟩ = some (.int .i64 (ns[i].num)) ∧ w.cell? ⟨b, off + i * 4 + 3, none⟩ = some (.string (ns[i].text))) ∧ w.cell? ⟨b, off + j * 4, none⟩ = some z0 ∧ w.cell? ⟨b, off + j * 4 + 1, none⟩ = some z1 ∧ w.cell? ⟨b, off + j * 4 + 2, none⟩ = some z2 ∧ w.cell? ⟨b, off + j * 4 + 3, none⟩ = some z3
theorem RecMid.of {w : World} {b off : Nat} {ns : List RecV} (h : RecAt w b off ns) (j : Nat) (hj : j < ns.length) : RecMid w b off ns j (.int .i64 (ns[j].kind)) (.string (ns[j].name)) (.int .i64 (ns[j].num)) (.string (ns[j].text)) := ⟨fun i hi _ => h i hi, h j hj⟩
theorem RecMid.below {w w' : World} {B b off : Nat} {ns : List RecV} {j : Nat} {z0 z1 z2 z3 : Value} (h : RecMid w b off ns j z0 z1 z2 z3) (hb : Below B w w') (hB : b < B) : RecMid w' b off ns j z0 z1 z2 z3 := by
  have key : ∀ p, w'.cell? ⟨b, p, none⟩ = w.cell? ⟨b, p, none⟩ := fun p => hb.cell (by exact hB)
  obtain ⟨h1, h2⟩ := h
  refine ⟨fun i hi hne => ?_, ?_⟩
  · have := h1 i hi hne
    simp only [key]
    exact this
  · simp only [key]
    exact h2
theorem RecMid.at {w : World} {b off : Nat} {ns : List RecV} {j : Nat} {y0 : Int} {y1 : ByteArray} {y2 : Int} {y3 : ByteArray} (h : RecMid w b off ns j (.int .i64 (y0)) (.string (y1)) (.int .i64 (y2)) (.string (y3))) : RecAt w b off (ns.set j ⟨y0, y1, y2, y3⟩) := by
  intro i hi
  rw [List.length_set] at hi
  by_cases e : i = j
  · subst e
    rw [List.getElem_set_self]
    exact h.2
  · rw [List.getElem_set_ne (fun h => e h.symm)]
    exact h.1 i hi e
theorem RecMid.set0 {w : World} {b off : Nat} {ns : List RecV} {j : Nat} {z0 z1 z2 z3 : Value} (h : RecMid w b off ns j z0 z1 z2 z3) (v : Value) : RecMid (w.setCell ⟨b, off + j * 4, none⟩ v) b off ns j v z1 z2 z3 := by
  have ne : ∀ (p : Nat), p ≠ off + j * 4 → (w.setCell ⟨b, off + j * 4, none⟩ v).cell? ⟨b, p, none⟩ = w.cell? ⟨b, p, none⟩ := fun p h => World.cell?_setCell_other _ _ _ _ (by intro e; have := congrArg Addr.off e; simp only at this; omega)
  obtain ⟨h1, g0, g1, g2, g3⟩ := h
  refine ⟨fun i hi hne => ?_, World.cell?_setCell_same _ _ _ g0, (ne _ (by omega)).trans g1, (ne _ (by omega)).trans g2, (ne _ (by omega)).trans g3⟩
  obtain ⟨c0, c1, c2, c3⟩ := h1 i hi hne
  exact ⟨(ne _ (by omega)).trans c0, (ne _ (by omega)).trans c1, (ne _ (by omega)).trans c2, (ne _ (by omega)).trans c3⟩
theorem RecMid.set1 {w : World} {b off : Nat} {ns : List RecV} {j : Nat} {z0 z1 z2 z3 : Value} (h : RecMid w b off ns j z0 z1 z2 z3) (v : Value) : RecMid (w.setCell ⟨b, off + j * 4 + 1, none⟩ v) b off ns j z0 v z2 z3 := by
  have ne : ∀ (p : Nat), p ≠ off + j * 4 + 1 → (w.setCell ⟨b, off + j * 4 + 1, none⟩ v).cell? ⟨b, p, none⟩ = w.cell? ⟨b, p, none⟩ := fun p h => World.cell?_setCell_other _ _ _ _ (by intro e; have := congrArg Addr.off e; simp only at this; omega)
  obtain ⟨h1, g0, g1, g2, g3⟩ := h
  refine ⟨fun i hi hne => ?_, (ne _ (by omega)).trans g0, World.cell?_setCell_same _ _ _ g1, (ne _ (by omega)).trans g2, (ne _ (by omega)).trans g3⟩
  obtain ⟨c0, c1, c2, c3⟩ := h1 i hi hne
  exact ⟨(ne _ (by omega)).trans c0, (ne _ (by omega)).trans c1, (ne _ (by omega)).trans c2, (ne _ (by omega)).trans c3⟩
theorem RecMid.set2 {w : World} {b off : Nat} {ns : List RecV} {j : Nat} {z0 z1 z2 z3 : Value} (h : RecMid w b off ns j z0 z1 z2 z3) (v : Value) : RecMid (w.setCell ⟨b, off + j * 4 + 2, none⟩ v) b off ns j z0 z1 v z3 := by
  have ne : ∀ (p : Nat), p ≠ off + j * 4 + 2 → (w.setCell ⟨b, off + j * 4 + 2, none⟩ v).cell? ⟨b, p, none⟩ = w.cell? ⟨b, p, none⟩ := fun p h => World.cell?_setCell_other _ _ _ _ (by intro e; have := congrArg Addr.off e; simp only at this; omega)
  obtain ⟨h1, g0, g1, g2, g3⟩ := h
  refine ⟨fun i hi hne => ?_, (ne _ (by omega)).trans g0, (ne _ (by omega)).trans g1, World.cell?_setCell_same _ _ _ g2, (ne _ (by omega)).trans g3⟩
  obtain ⟨c0, c1, c2, c3⟩ := h1 i hi hne
  exact ⟨(ne _ (by omega)).trans c0, (ne _ (by omega)).trans c1, (ne _ (by omega)).trans c2, (ne _ (by omega)).trans c3⟩
theorem RecMid.set3 {w : World} {b off : Nat} {ns : List RecV} {j : Nat} {z0 z1 z2 z3 : Value} (h : RecMid w b off ns j z0 z1 z2 z3) (v : Value) : RecMid (w.setCell ⟨b, off + j * 4 + 3, none⟩ v) b off ns j z0 z1 z2 v := by
  have ne : ∀ (p : Nat), p ≠ off + j * 4 + 3 → (w.setCell ⟨b, off + j * 4 + 3, none⟩ v).cell? ⟨b, p, none⟩ = w.cell? ⟨b, p, none⟩ := fun p h => World.cell?_setCell_other _ _ _ _ (by intro e; have := congrArg Addr.off e; simp only at this; omega)
  obtain ⟨h1, g0, g1, g2, g3⟩ := h
  refine ⟨fun i hi hne => ?_, (ne _ (by omega)).trans g0, (ne _ (by omega)).trans g1, (ne _ (by omega)).trans g2, World.cell?_setCell_same _ _ _ g3⟩
  obtain ⟨c0, c1, c2, c3⟩ := h1 i hi hne
  exact ⟨(ne _ (by omega)).trans c0, (ne _ (by omega)).trans c1, (ne _ (by omega)).trans c2, (ne _ (by omega)).trans c3⟩
set_option maxHeartbeats 6400000 in
theorem markRecS_row (w : World) (b off cap : Nat) (ns : List RecV) (k : Nat) (hk : k ≤ 1000000000) (hl : ns.length ≤ 1048576) (hb : b < w.heap.size) (hc : RecAt w b off ns) (hf : ∀ i, i < ns.length * 4 → w.frozen? ⟨b, off + i, none⟩ = false) :
    Calls Try.prog 11 #[.slice (some ⟨b, off, none⟩) ns.length cap, .int .i64 (k : Int)] w fun e w' => e = .returned (.int .i64 ((k + 4 * ns.length : Nat) : Int)) ∧ Hid (RecAt w' b off (msRec k ns.length) ∧ Turn [b] w w' ∧ ∀ i, i < ns.length * 4 → w'.frozen? ⟨b, off + i, none⟩ = false) := by
  have HC := hide hc
  clear hc
  go_enter Try.func11, Try.ntmps11
  go_wp2_with fail
  go_loopw [1, 5] (fun kv i wr => ∃ (j : Nat) (xs : List RecV), j ≤ ns.length ∧ i = .int .i64 j ∧ kv = .int .i64 ((k + 4 * j : Nat) : Int) ∧ Hid (xs = mtRec ns k j) ∧ Hid (RecAt wr b off xs) ∧ Hid (∀ i, i < ns.length * 4 → wr.frozen? ⟨b, off + i, none⟩ = false) ∧ Hid (Turn [b] w wr)) (fun _ i _ => ns.length - (intOf i).toNat)
  case atStart => exact ⟨0, _, Nat.zero_le _, rfl, rfl, rfl, HC, hide hf, Turn.refl _ _⟩
  case round =>
    obtain ⟨j, xs, hj, rfl, rfl, HXS, HV, HFZ, HT⟩ := hrel
    by_cases hlt : j < ns.length
    · have hxl : xs.length = ns.length := by rw [unhide HXS]; exact mtRec_len ns k j (by omega)
      have hjx : j < xs.length := by omega
      have hbr : b < wr.heap.size := Nat.lt_of_lt_of_le hb (unhide HT).size
      have HXE := hide (show xs.set j ⟨((k + 4 * j : Nat) : Int), mText (((k + 4 * j : Nat) : Int) + 1), ((k + 4 * j : Nat) : Int) + 1 + 1, mText (((k + 4 * j : Nat) : Int) + 1 + 1 + 1)⟩ = mtRec ns k (j + 1) by rw [unhide HXS, ← mtRec_step ns k j hlt]; rfl)
      have HFJ := hide (fun (X : World) (h : ∀ i, i < ns.length * 4 → X.frozen? ⟨b, off + i, none⟩ = false) => show X.frozen? ⟨b, off + j * 4, none⟩ = false ∧ X.frozen? ⟨b, off + j * 4 + 1, none⟩ = false ∧ X.frozen? ⟨b, off + j * 4 + 2, none⟩ = false ∧ X.frozen? ⟨b, off + j * 4 + 3, none⟩ = false from ⟨by have := h (j * 4) (by omega); simpa only [Nat.add_assoc] using this, by have := h (j * 4 + 1) (by omega); simpa only [Nat.add_assoc] using this, by have := h (j * 4 + 2) (by omega); simpa only [Nat.add_assoc] using this, by have := h (j * 4 + 3) (by omega); simpa only [Nat.add_assoc] using this⟩)
      have HM1 := hide (fun W => markText_any (((k + 4 * j : Nat) : Int) + 1) (by omega) W)
      have HM3 := hide (fun W => markText_any (((k + 4 * j : Nat) : Int) + 1 + 1 + 1) (by omega) W)
      have hK1 : (0 : Int) ≤ ((k + 4 * j : Nat) : Int) := by omega
      have hK2 : ((k + 4 * j : Nat) : Int) ≤ 10000000000 := by omega
      have HKE := hide (show ((k + 4 * j : Nat) : Int) + 1 + 1 + 1 + 1 = ((k + 4 * (j + 1) : Nat) : Int) by omega)
      clear hxl
      generalize ((k + 4 * j : Nat) : Int) = K at *
      generalize mText (K + 1) = mt1 at *
      generalize mText (K + 1 + 1 + 1) = mt3 at *
      have MD := hide (RecMid.of (unhide HV) j hjx)
      obtain ⟨_, d0, d1, d2, d3⟩ := unhide MD
      obtain ⟨f0, f1, f2, f3⟩ := unhide HFJ wr (unhide HFZ)
      go_wp2_with fail
      clear d0 d1 d2 d3 f0 f1 f2 f3
      refine (unhide HM1 _).mono ?_
      rintro e w1 ⟨rfl, b1⟩
      have hb1 : b < (wr.setCell ⟨b, off + j * 4, none⟩ (.int .i64 (K))).heap.size := by simpa using hbr
      have MD1 := hide (((unhide MD).set0 (.int .i64 (K))).below b1 hb1)
      have HF1 := hide (show ∀ i, i < ns.length * 4 → w1.frozen? ⟨b, off + i, none⟩ = false from fun i hi => by
        rw [b1.frozen (by exact hb1)]
        simp only [World.frozen?_setCell]
        exact unhide HFZ i hi)
      have HT1 := hide (((unhide HT).setCell (by simp) _ _).trans (Turn.of_below b1))
      have hbr : b < w1.heap.size := Nat.lt_of_lt_of_le hb1 b1.size
      clear b1
      obtain ⟨_, d0, d1, d2, d3⟩ := unhide MD1
      obtain ⟨f0, f1, f2, f3⟩ := unhide HFJ w1 (unhide HF1)
      go_wp2_with fail
      clear d0 d1 d2 d3 f0 f1 f2 f3
      refine (unhide HM3 _).mono ?_
      rintro e w2 ⟨rfl, b2⟩
      have hb2 : b < ((w1.setCell ⟨b, off + j * 4 + 1, none⟩ (.string mt1)).setCell ⟨b, off + j * 4 + 2, none⟩ (.int .i64 (K + 1 + 1))).heap.size := by simpa using hbr
      have MD2 := hide ((((unhide MD1).set1 (.string mt1)).set2 (.int .i64 (K + 1 + 1))).below b2 hb2)
      have HF2 := hide (show ∀ i, i < ns.length * 4 → w2.frozen? ⟨b, off + i, none⟩ = false from fun i hi => by
        rw [b2.frozen (by exact hb2)]
        simp only [World.frozen?_setCell]
        exact unhide HF1 i hi)
      have HT2 := hide ((((unhide HT1).setCell (by simp) _ _).setCell (by simp) _ _).trans (Turn.of_below b2))
      have hbr : b < w2.heap.size := Nat.lt_of_lt_of_le hb2 b2.size
      clear b2
      obtain ⟨_, d0, d1, d2, d3⟩ := unhide MD2
      obtain ⟨f0, f1, f2, f3⟩ := unhide HFJ w2 (unhide HF2)
      go_wp2_with fail
      clear d0 d1 d2 d3 f0 f1 f2 f3
      have HVF := hide (show RecAt (w2.setCell ⟨b, off + j * 4 + 3, none⟩ (.string mt3)) b off _ from RecMid.at ((unhide MD2).set3 (.string mt3)))
      have HFF := hide (show ∀ i, i < ns.length * 4 → ((w2.setCell ⟨b, off + j * 4 + 3, none⟩ (.string mt3))).frozen? ⟨b, off + i, none⟩ = false from fun i hi => by
        simp only [World.frozen?_setCell]
        exact unhide HF2 i hi)
      have HTF := hide (show Turn [b] w (w2.setCell ⟨b, off + j * 4 + 3, none⟩ (.string mt3)) from ((unhide HT2).setCell (by simp) _ _))
      go_roundw
      case rel => exact ⟨j + 1, _, by omega, by go_num, by rw [unhide HKE], HXE, HVF, HFF, HTF⟩
      case measure => simp [intOf]; omega
    · have e : j = ns.length := by omega
      subst e
      have HP := hide (show RecAt wr b off (msRec k ns.length) by rw [← mtRec_all, ← unhide HXS]; exact unhide HV)
      go_wp2_with fail
      go_ret
      exact ⟨rfl, hide ⟨unhide HP, unhide HT, unhide HFZ⟩⟩
theorem markRecS_none (w : World) (a : Option Addr) (cap : Nat) (K : Int) : Calls Try.prog 11 #[.slice a 0 cap, .int .i64 K] w fun e w' => e = .returned (.int .i64 K) ∧ w' = w := by
  go_enter Try.func11, Try.ntmps11
  go_wp2
  refine wp_loop_rounds 1 ?_
  rw [rounds_succ]
  go_wp2
  go_ret
  exact ⟨rfl, rfl⟩
def marksRecS (k : Nat) (ns : List RecV) : List RecV := msRec k ns.length
theorem markRecS_kit (S : List Nat) (ns : List RecV) (v : Value) (w : World) (k n : Nat) (K : Int) (hK : K = (k : Int)) (hn : nRecS ns = n) (hk : k ≤ 1000000000) (hs : SmallRecS ns) (h : RecSOwn S w v ns) :
    Calls Try.prog 11 #[v, .int .i64 K] w fun e w' => e = .returned (.int .i64 (K + (n : Int))) ∧ Hid (RecSOwn S w' v (marksRecS k ns) ∧ Turn S w w') := by
  subst hK hn
  have hl := hs.1.1
  rcases h with ⟨rfl, rfl, a, c, rfl⟩ | ⟨b, off, cap, rfl, rfl, hb, hc, hf⟩
  · refine (markRecS_none w a c k).mono ?_
    rintro e w' ⟨rfl, rfl⟩
    exact ⟨by simp [nRecS], hide ⟨.inl ⟨rfl, rfl, a, c, rfl⟩, Turn.refl _ _⟩⟩
  · refine (markRecS_row w b off cap ns k hk hl hb hc hf).mono ?_
    rintro e w' ⟨rfl, P⟩
    have ht := (unhide P).2.1
    refine ⟨by rw [show ((k + 4 * ns.length : Nat) : Int) = (k : Int) + ((nRecS ns : Nat) : Int) by unfold nRecS; omega], hide ⟨.inr ⟨b, off, cap, rfl, by unfold marksRecS; rw [msRec_len], Nat.lt_of_lt_of_le hb ht.size, (unhide P).1, by unfold marksRecS; rw [msRec_len]; exact (unhide P).2.2⟩, ht⟩⟩
end Go.Proofs.Ythlcgghilmpboaa
