/-
  Lists of Mark for reading and of one's own: copied, compared, marked, and found marked again. (Made by wip/mkrows.py.)
-/
import Derived.Test.YtpiapgjiaeddjaaMarkRows
import Derived.Test.YtpiapgjiaeddjaaMerged4
import Derived.Deep.RegionHeld3
set_option linter.unusedVariables false
namespace Go.Proofs.Ytpiapgjiaeddjaa
open Go.RowKit Go.Maps Go.Deep

def MarkSRd (w : World) (v : Value) (ns : List MarkV) : Prop := ∃ a c, v = .slice a ns.length c ∧ MarkIn w a ns
def MarkSOwn (S : List Nat) (w : World) (v : Value) (ns : List MarkV) : Prop :=
  (S = [] ∧ ns = [] ∧ ∃ a c, v = .slice a 0 c) ∨ ∃ b off cap, S = [b] ∧ v = .slice (some ⟨b, off, none⟩) ns.length cap ∧ b < w.heap.size ∧ MarkAt w b off ns ∧ ∀ i, i < ns.length * 2 → w.frozen? ⟨b, off + i, none⟩ = false
theorem MarkAt.turn {w w' : World} {S : List Nat} {b off : Nat} {ns : List MarkV} (h : MarkAt w b off ns) (ht : Turn S w w') (hb : b < w.heap.size) (hS : b ∉ S) : MarkAt w' b off ns := by
  intro i hi
  obtain ⟨c0, c1⟩ := h i hi
  exact ⟨(ht.cell hb hS).trans c0, (ht.cell hb hS).trans c1⟩
theorem MarkSRd.up {w w' : World} {v : Value} {ns : List MarkV} (h : MarkSRd w v ns) (hb : Below w.heap.size w w') : MarkSRd w' v ns := by
  obtain ⟨a, c, e, h⟩ := h
  exact ⟨a, c, e, h.below hb⟩
theorem MarkSRd.len {w : World} {v : Value} {ns : List MarkV} (h : MarkSRd w v ns) : ∃ a c, v = .slice a ns.length c := by
  obtain ⟨a, c, e, _⟩ := h
  exact ⟨a, c, e⟩
theorem MarkSRd.form {w : World} {v : Value} {ns : List MarkV} (h : MarkSRd w v ns) : ∃ a n c, v = .slice a n c := by
  obtain ⟨a, c, e⟩ := h.len
  exact ⟨a, _, c, e⟩
theorem MarkSOwn.rd {S : List Nat} {w : World} {v : Value} {ns : List MarkV} (h : MarkSOwn S w v ns) : MarkSRd w v ns := by
  rcases h with ⟨_, rfl, a, c, rfl⟩ | ⟨b, off, cap, _, rfl, hb, hc, _⟩
  · exact ⟨a, c, rfl, .inl rfl⟩
  · exact ⟨_, cap, rfl, .inr ⟨b, off, rfl, hb, hc⟩⟩
theorem MarkSOwn.turn {S S' : List Nat} {w w' : World} {v : Value} {ns : List MarkV} (h : MarkSOwn S w v ns) (ht : Turn S' w w') (hS : ∀ k ∈ S, k ∉ S') : MarkSOwn S w' v ns := by
  rcases h with h | ⟨b, off, cap, rfl, rfl, hb, hc, hf⟩
  · exact .inl h
  · have hn := hS b (by simp)
    exact .inr ⟨b, off, cap, rfl, rfl, Nat.lt_of_lt_of_le hb ht.size, hc.turn ht hb hn, fun i hi => (ht.frozen hb hn).trans (hf i hi)⟩
theorem MarkSOwn.up {S : List Nat} {w w' : World} {v : Value} {ns : List MarkV} (h : MarkSOwn S w v ns) (hb : Below w.heap.size w w') : MarkSOwn S w' v ns := h.turn (Turn.of_below (S := []) hb) (by simp)
theorem MarkSOwn.lt {S : List Nat} {w : World} {v : Value} {ns : List MarkV} (h : MarkSOwn S w v ns) : ∀ k ∈ S, k < w.heap.size := by
  rcases h with ⟨rfl, _⟩ | ⟨b, off, cap, rfl, rfl, hb, _⟩
  · simp
  · simpa using hb
def SmallMarkS (ns : List MarkV) : Prop := MarkSmall ns ∧ MarkOk ns
def MarkSFit (ns : List MarkV) : Prop := ns.length ≤ maxLen ∧ MarkOk ns
def nMarkS (ns : List MarkV) : Nat := 2 * ns.length
theorem nMarkS_le {ns : List MarkV} (h : SmallMarkS ns) : nMarkS ns ≤ 100000000 := by have := h.1.1; unfold nMarkS; omega
theorem szMarkS_kit (ns : List MarkV) (v : Value) (w : World) (hf : MarkSFit ns) (h : MarkSRd w v ns) :
    Calls Try.prog 37 #[v, .int .i64 1048576] w fun e w' => ∃ q : Int, e = .returned (.int .i64 q) ∧ Hid (0 ≤ q → SmallMarkS ns) ∧ Below w.heap.size w w' := by
  obtain ⟨a, c, rfl, h⟩ := h
  refine (szMarkS_in w a c ns 1048576 (by omega) (by omega) hf.1 h hf.2).mono ?_
  rintro e w' ⟨⟨r, rfl, _, h2⟩, b⟩
  exact ⟨r, rfl, hide (fun hr => ⟨h2 hr, hf.2⟩), b⟩
theorem szMarkS_kitL (ns : List MarkV) (v : Value) (left : Int) (w : World) (h0 : 0 ≤ left) (h1 : left ≤ 1048576) (hf : MarkSFit ns) (h : MarkSRd w v ns) :
    Calls Try.prog 37 #[v, .int .i64 left] w fun e w' => ∃ q : Int, e = .returned (.int .i64 q) ∧ q ≤ left ∧ Hid (0 ≤ q → SmallMarkS ns) ∧ Below w.heap.size w w' := by
  obtain ⟨a, c, rfl, h⟩ := h
  refine (szMarkS_in w a c ns left h0 h1 hf.1 h hf.2).mono ?_
  rintro e w' ⟨⟨r, rfl, h3, h2⟩, b⟩
  exact ⟨r, rfl, h3, hide (fun hr => ⟨h2 hr, hf.2⟩), b⟩
theorem toMarkS_kit (ns : List MarkV) (v : Value) (w : World) (hs : SmallMarkS ns) (h : MarkSRd w v ns) :
    Calls Try.prog 41 #[v] w fun e w' => ∃ v S, e = .returned v ∧ Hid (MarkSOwn S w' v ns) ∧ Hid (∀ k ∈ S, w.heap.size ≤ k) ∧ Below w.heap.size w w' := by
  obtain ⟨a, c, rfl, h⟩ := h
  refine (toMarkS_in w a c ns hs.1.1 h).mono ?_
  rintro e w' ⟨rfl, h1, h2, h3, h4⟩
  exact ⟨_, [w.heap.size], rfl, .inr ⟨w.heap.size, 0, ns.length, rfl, rfl, h2, h1, fun i _ => h4 _⟩, hide (by simp), h3⟩
theorem eqMarkS_kit (ns : List MarkV) (v v' : Value) (w : World) (hs : SmallMarkS ns) (h : MarkSRd w v ns) (h' : MarkSRd w v' ns) :
    Calls Try.prog 51 #[v, v'] w fun e w' => e = .returned (.bool true) ∧ Below w.heap.size w w' := by
  have hl := hs.1.1
  obtain ⟨a, c, rfl, h⟩ := h
  obtain ⟨a', c', rfl, h'⟩ := h'
  rcases h with rfl | ⟨b, off, rfl, hb, hc⟩
  · go_enter Try.func51, Try.ntmps51
    go_wp2
    refine wp_loop_rounds 1 ?_
    rw [rounds_succ]
    go_wp2
    go_ret
    exact ⟨rfl, Below.refl _ _⟩
  · rcases h' with rfl | ⟨b', off', rfl, hb', hc'⟩
    · go_enter Try.func51, Try.ntmps51
      go_wp2
      refine wp_loop_rounds 1 ?_
      rw [rounds_succ]
      go_wp2
      go_ret
      exact ⟨rfl, Below.refl _ _⟩
    · exact eqMarkS_same w b off c b' off' c' ns (by omega) hc hc' hb hb'
/-- the marks from k on -/
def mMark (k : Nat) (j : Nat) : MarkV := ⟨mText (((k + 2 * j : Nat) : Int)), ((k + 2 * j : Nat) : Int) + 1⟩
def msMark (k n : Nat) : List MarkV := (List.range n).map (mMark k)
theorem msMark_len (k n : Nat) : (msMark k n).length = n := by simp [msMark]
theorem msMark_get (k n i : Nat) (h : i < (msMark k n).length) : (msMark k n)[i] = mMark k i := by simp [msMark]
def mtMark (ns : List MarkV) (k j : Nat) : List MarkV := msMark k j ++ ns.drop j
theorem mtMark_len (ns : List MarkV) (k j : Nat) (h : j ≤ ns.length) : (mtMark ns k j).length = ns.length := by simp [mtMark, msMark_len]; omega
theorem mtMark_step (ns : List MarkV) (k j : Nat) (h : j < ns.length) : (mtMark ns k j).set j (mMark k j) = mtMark ns k (j + 1) := by
  unfold mtMark msMark
  rw [List.range_succ, List.map_append, List.set_append_right _ _ (by simp)]
  simp only [List.length_map, List.length_range, Nat.sub_self]
  rw [List.append_assoc]
  congr 1
  rw [List.drop_eq_getElem_cons h]
  rfl
theorem mtMark_all (ns : List MarkV) (k : Nat) : mtMark ns k ns.length = msMark k ns.length := by simp [mtMark]
/-- while the j-th is written, field by field -/
def MarkMid (w : World) (b off : Nat) (ns : List MarkV) (j : Nat) (z0 z1 : Value) : Prop := (∀ i (h : i < ns.length), i ≠ j → w.cell? ⟨b, off + i * 2, none⟩ = some (.string (ns[i].a0)) ∧ w.cell? ⟨b, off + i * 2 + 1, none⟩ = some (.int .i64 (ns[i].a1))) ∧ w.cell? ⟨b, off + j * 2, none⟩ = some z0 ∧ w.cell? ⟨b, off + j * 2 + 1, none⟩ = some z1
theorem MarkMid.of {w : World} {b off : Nat} {ns : List MarkV} (h : MarkAt w b off ns) (j : Nat) (hj : j < ns.length) : MarkMid w b off ns j (.string (ns[j].a0)) (.int .i64 (ns[j].a1)) := ⟨fun i hi _ => h i hi, h j hj⟩
theorem MarkMid.below {w w' : World} {B b off : Nat} {ns : List MarkV} {j : Nat} {z0 z1 : Value} (h : MarkMid w b off ns j z0 z1) (hb : Below B w w') (hB : b < B) : MarkMid w' b off ns j z0 z1 := by
  have key : ∀ p, w'.cell? ⟨b, p, none⟩ = w.cell? ⟨b, p, none⟩ := fun p => hb.cell (by exact hB)
  obtain ⟨h1, h2⟩ := h
  refine ⟨fun i hi hne => ?_, ?_⟩
  · have := h1 i hi hne
    simp only [key]
    exact this
  · simp only [key]
    exact h2
theorem MarkMid.at {w : World} {b off : Nat} {ns : List MarkV} {j : Nat} {y0 : ByteArray} {y1 : Int} (h : MarkMid w b off ns j (.string (y0)) (.int .i64 (y1))) : MarkAt w b off (ns.set j ⟨y0, y1⟩) := by
  intro i hi
  rw [List.length_set] at hi
  by_cases e : i = j
  · subst e
    rw [List.getElem_set_self]
    exact h.2
  · rw [List.getElem_set_ne (fun h => e h.symm)]
    exact h.1 i hi e
theorem MarkMid.set0 {w : World} {b off : Nat} {ns : List MarkV} {j : Nat} {z0 z1 : Value} (h : MarkMid w b off ns j z0 z1) (v : Value) : MarkMid (w.setCell ⟨b, off + j * 2, none⟩ v) b off ns j v z1 := by
  have ne : ∀ (p : Nat), p ≠ off + j * 2 → (w.setCell ⟨b, off + j * 2, none⟩ v).cell? ⟨b, p, none⟩ = w.cell? ⟨b, p, none⟩ := fun p h => World.cell?_setCell_other _ _ _ _ (by intro e; have := congrArg Addr.off e; simp only at this; omega)
  obtain ⟨h1, g0, g1⟩ := h
  refine ⟨fun i hi hne => ?_, World.cell?_setCell_same _ _ _ g0, (ne _ (by omega)).trans g1⟩
  obtain ⟨c0, c1⟩ := h1 i hi hne
  exact ⟨(ne _ (by omega)).trans c0, (ne _ (by omega)).trans c1⟩
theorem MarkMid.set1 {w : World} {b off : Nat} {ns : List MarkV} {j : Nat} {z0 z1 : Value} (h : MarkMid w b off ns j z0 z1) (v : Value) : MarkMid (w.setCell ⟨b, off + j * 2 + 1, none⟩ v) b off ns j z0 v := by
  have ne : ∀ (p : Nat), p ≠ off + j * 2 + 1 → (w.setCell ⟨b, off + j * 2 + 1, none⟩ v).cell? ⟨b, p, none⟩ = w.cell? ⟨b, p, none⟩ := fun p h => World.cell?_setCell_other _ _ _ _ (by intro e; have := congrArg Addr.off e; simp only at this; omega)
  obtain ⟨h1, g0, g1⟩ := h
  refine ⟨fun i hi hne => ?_, (ne _ (by omega)).trans g0, World.cell?_setCell_same _ _ _ g1⟩
  obtain ⟨c0, c1⟩ := h1 i hi hne
  exact ⟨(ne _ (by omega)).trans c0, (ne _ (by omega)).trans c1⟩
set_option maxHeartbeats 6400000 in
theorem markMarkS_row (w : World) (b off cap : Nat) (ns : List MarkV) (k : Nat) (hk : k ≤ 1000000000000000) (hl : ns.length ≤ 1048576) (hb : b < w.heap.size) (hc : MarkAt w b off ns) (hf : ∀ i, i < ns.length * 2 → w.frozen? ⟨b, off + i, none⟩ = false) :
    Calls Try.prog 36 #[.slice (some ⟨b, off, none⟩) ns.length cap, .int .i64 (k : Int)] w fun e w' => e = .returned (.int .i64 ((k + 2 * ns.length : Nat) : Int)) ∧ Hid (MarkAt w' b off (msMark k ns.length) ∧ Turn [b] w w' ∧ ∀ i, i < ns.length * 2 → w'.frozen? ⟨b, off + i, none⟩ = false) := by
  have HC := hide hc
  clear hc
  go_enter Try.func36, Try.ntmps36
  go_wp2_with fail
  go_loopw [1, 5] (fun kv i wr => ∃ (j : Nat) (xs : List MarkV), j ≤ ns.length ∧ i = .int .i64 j ∧ kv = .int .i64 ((k + 2 * j : Nat) : Int) ∧ Hid (xs = mtMark ns k j) ∧ Hid (MarkAt wr b off xs) ∧ Hid (∀ i, i < ns.length * 2 → wr.frozen? ⟨b, off + i, none⟩ = false) ∧ Hid (Turn [b] w wr)) (fun _ i _ => ns.length - (intOf i).toNat)
  case atStart => exact ⟨0, _, Nat.zero_le _, rfl, rfl, rfl, HC, hide hf, Turn.refl _ _⟩
  case round =>
    obtain ⟨j, xs, hj, rfl, rfl, HXS, HV, HFZ, HT⟩ := hrel
    by_cases hlt : j < ns.length
    · have hxl : xs.length = ns.length := by rw [unhide HXS]; exact mtMark_len ns k j (by omega)
      have hjx : j < xs.length := by omega
      have hbr : b < wr.heap.size := Nat.lt_of_lt_of_le hb (unhide HT).size
      have HXE := hide (show xs.set j ⟨mText (((k + 2 * j : Nat) : Int)), ((k + 2 * j : Nat) : Int) + 1⟩ = mtMark ns k (j + 1) by rw [unhide HXS, ← mtMark_step ns k j hlt]; rfl)
      have HFJ := hide (fun (X : World) (h : ∀ i, i < ns.length * 2 → X.frozen? ⟨b, off + i, none⟩ = false) => show X.frozen? ⟨b, off + j * 2, none⟩ = false ∧ X.frozen? ⟨b, off + j * 2 + 1, none⟩ = false from ⟨by have := h (j * 2) (by omega); simpa only [Nat.add_assoc] using this, by have := h (j * 2 + 1) (by omega); simpa only [Nat.add_assoc] using this⟩)
      have HM0 := hide (fun W => markText_any (((k + 2 * j : Nat) : Int)) (by omega) W)
      have hK1 : (0 : Int) ≤ ((k + 2 * j : Nat) : Int) := by omega
      have hK2 : ((k + 2 * j : Nat) : Int) ≤ 10000000000000000 := by omega
      have HKE := hide (show ((k + 2 * j : Nat) : Int) + 1 + 1 = ((k + 2 * (j + 1) : Nat) : Int) by omega)
      clear hxl
      generalize ((k + 2 * j : Nat) : Int) = K at *
      generalize mText (K) = mt0 at *
      have MD := hide (MarkMid.of (unhide HV) j hjx)
      obtain ⟨_, d0, d1⟩ := unhide MD
      obtain ⟨f0, f1⟩ := unhide HFJ wr (unhide HFZ)
      go_wp2_with fail
      clear d0 d1 f0 f1
      refine (unhide HM0 _).mono ?_
      rintro e w1 ⟨rfl, b1⟩
      have hb1 : b < wr.heap.size := by simpa using hbr
      have MD1 := hide ((unhide MD).below b1 hb1)
      have HF1 := hide (show ∀ i, i < ns.length * 2 → w1.frozen? ⟨b, off + i, none⟩ = false from fun i hi => by
        rw [b1.frozen (by exact hb1)]
        try simp only [World.frozen?_setCell]
        exact unhide HFZ i hi)
      have HT1 := hide ((unhide HT).trans (Turn.of_below b1))
      have hbr : b < w1.heap.size := Nat.lt_of_lt_of_le hb1 b1.size
      clear b1
      obtain ⟨_, d0, d1⟩ := unhide MD1
      obtain ⟨f0, f1⟩ := unhide HFJ w1 (unhide HF1)
      go_wp2_with fail
      clear d0 d1 f0 f1
      have HVF := hide (show MarkAt ((w1.setCell ⟨b, off + j * 2, none⟩ (.string mt0)).setCell ⟨b, off + j * 2 + 1, none⟩ (.int .i64 (K + 1))) b off _ from MarkMid.at (((unhide MD1).set0 (.string mt0)).set1 (.int .i64 (K + 1))))
      have HFF := hide (show ∀ i, i < ns.length * 2 → (((w1.setCell ⟨b, off + j * 2, none⟩ (.string mt0)).setCell ⟨b, off + j * 2 + 1, none⟩ (.int .i64 (K + 1)))).frozen? ⟨b, off + i, none⟩ = false from fun i hi => by
        try simp only [World.frozen?_setCell]
        exact unhide HF1 i hi)
      have HTF := hide (show Turn [b] w ((w1.setCell ⟨b, off + j * 2, none⟩ (.string mt0)).setCell ⟨b, off + j * 2 + 1, none⟩ (.int .i64 (K + 1))) from (((unhide HT1).setCell (by simp) _ _).setCell (by simp) _ _))
      go_roundw
      case rel => exact ⟨j + 1, _, by omega, by go_num, by rw [unhide HKE], HXE, HVF, HFF, HTF⟩
      case measure => simp [intOf]; omega
    · have e : j = ns.length := by omega
      subst e
      have HP := hide (show MarkAt wr b off (msMark k ns.length) by rw [← mtMark_all, ← unhide HXS]; exact unhide HV)
      go_wp2_with fail
      go_ret
      exact ⟨rfl, hide ⟨unhide HP, unhide HT, unhide HFZ⟩⟩
theorem markMarkS_none (w : World) (a : Option Addr) (cap : Nat) (K : Int) : Calls Try.prog 36 #[.slice a 0 cap, .int .i64 K] w fun e w' => e = .returned (.int .i64 K) ∧ w' = w := by
  go_enter Try.func36, Try.ntmps36
  go_wp2
  refine wp_loop_rounds 1 ?_
  rw [rounds_succ]
  go_wp2
  go_ret
  exact ⟨rfl, rfl⟩
def marksMarkS (k : Nat) (ns : List MarkV) : List MarkV := msMark k ns.length
theorem markMarkS_kit (S : List Nat) (ns : List MarkV) (v : Value) (w : World) (k n : Nat) (K : Int) (hK : K = (k : Int)) (hn : nMarkS ns = n) (hk : k ≤ 1000000000000000) (hs : SmallMarkS ns) (h : MarkSOwn S w v ns) :
    Calls Try.prog 36 #[v, .int .i64 K] w fun e w' => e = .returned (.int .i64 (K + (n : Int))) ∧ Hid (MarkSOwn S w' v (marksMarkS k ns) ∧ Turn S w w') := by
  subst hK hn
  have hl := hs.1.1
  rcases h with ⟨rfl, rfl, a, c, rfl⟩ | ⟨b, off, cap, rfl, rfl, hb, hc, hf⟩
  · refine (markMarkS_none w a c k).mono ?_
    rintro e w' ⟨rfl, rfl⟩
    exact ⟨by simp [nMarkS], hide ⟨.inl ⟨rfl, rfl, a, c, rfl⟩, Turn.refl _ _⟩⟩
  · refine (markMarkS_row w b off cap ns k hk hl hb hc hf).mono ?_
    rintro e w' ⟨rfl, P⟩
    have ht := (unhide P).2.1
    refine ⟨by rw [show ((k + 2 * ns.length : Nat) : Int) = (k : Int) + ((nMarkS ns : Nat) : Int) by unfold nMarkS; omega], hide ⟨.inr ⟨b, off, cap, rfl, by unfold marksMarkS; rw [msMark_len], Nat.lt_of_lt_of_le hb ht.size, (unhide P).1, by unfold marksMarkS; rw [msMark_len]; exact (unhide P).2.2⟩, ht⟩⟩
end Go.Proofs.Ytpiapgjiaeddjaa
