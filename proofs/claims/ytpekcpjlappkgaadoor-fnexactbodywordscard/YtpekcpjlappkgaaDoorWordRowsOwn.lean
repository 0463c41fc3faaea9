/-
  Lists of Word for reading and of one's own: copied, compared, marked, and found marked again. (Made by wip/mkrows.py.)
-/
import Derived.Test.YtpekcpjlappkgaaDoorWordRows
import Derived.Test.YtpekcpjlappkgaaDoorMarkText
import Derived.Deep.RegionHeld3
set_option linter.unusedVariables false
namespace Go.Proofs.YtpekcpjlappkgaaDoor
open Go.RowKit Go.Maps Go.Deep

def WordSRd (w : World) (v : Value) (ns : List WordV) : Prop := ∃ a c, v = .slice a ns.length c ∧ WordIn w a ns
def WordSOwn (S : List Nat) (w : World) (v : Value) (ns : List WordV) : Prop :=
  (S = [] ∧ ns = [] ∧ ∃ a c, v = .slice a 0 c) ∨ ∃ b off cap, S = [b] ∧ v = .slice (some ⟨b, off, none⟩) ns.length cap ∧ b < w.heap.size ∧ WordAt w b off ns ∧ ∀ i, i < ns.length * 3 → w.frozen? ⟨b, off + i, none⟩ = false
theorem WordAt.turn {w w' : World} {S : List Nat} {b off : Nat} {ns : List WordV} (h : WordAt w b off ns) (ht : Turn S w w') (hb : b < w.heap.size) (hS : b ∉ S) : WordAt w' b off ns := by
  intro i hi
  obtain ⟨c0, c1, c2⟩ := h i hi
  exact ⟨(ht.cell hb hS).trans c0, (ht.cell hb hS).trans c1, (ht.cell hb hS).trans c2⟩
theorem WordSRd.up {w w' : World} {v : Value} {ns : List WordV} (h : WordSRd w v ns) (hb : Below w.heap.size w w') : WordSRd w' v ns := by
  obtain ⟨a, c, e, h⟩ := h
  exact ⟨a, c, e, h.below hb⟩
theorem WordSRd.len {w : World} {v : Value} {ns : List WordV} (h : WordSRd w v ns) : ∃ a c, v = .slice a ns.length c := by
  obtain ⟨a, c, e, _⟩ := h
  exact ⟨a, c, e⟩
theorem WordSRd.form {w : World} {v : Value} {ns : List WordV} (h : WordSRd w v ns) : ∃ a n c, v = .slice a n c := by
  obtain ⟨a, c, e⟩ := h.len
  exact ⟨a, _, c, e⟩
theorem WordSOwn.rd {S : List Nat} {w : World} {v : Value} {ns : List WordV} (h : WordSOwn S w v ns) : WordSRd w v ns := by
  rcases h with ⟨_, rfl, a, c, rfl⟩ | ⟨b, off, cap, _, rfl, hb, hc, _⟩
  · exact ⟨a, c, rfl, .inl rfl⟩
  · exact ⟨_, cap, rfl, .inr ⟨b, off, rfl, hb, hc⟩⟩
theorem WordSOwn.turn {S S' : List Nat} {w w' : World} {v : Value} {ns : List WordV} (h : WordSOwn S w v ns) (ht : Turn S' w w') (hS : ∀ k ∈ S, k ∉ S') : WordSOwn S w' v ns := by
  rcases h with h | ⟨b, off, cap, rfl, rfl, hb, hc, hf⟩
  · exact .inl h
  · have hn := hS b (by simp)
    exact .inr ⟨b, off, cap, rfl, rfl, Nat.lt_of_lt_of_le hb ht.size, hc.turn ht hb hn, fun i hi => (ht.frozen hb hn).trans (hf i hi)⟩
theorem WordSOwn.up {S : List Nat} {w w' : World} {v : Value} {ns : List WordV} (h : WordSOwn S w v ns) (hb : Below w.heap.size w w') : WordSOwn S w' v ns := h.turn (Turn.of_below (S := []) hb) (by simp)
theorem WordSOwn.lt {S : List Nat} {w : World} {v : Value} {ns : List WordV} (h : WordSOwn S w v ns) : ∀ k ∈ S, k < w.heap.size := by
  rcases h with ⟨rfl, _⟩ | ⟨b, off, cap, rfl, rfl, hb, _⟩
  · simp
  · simpa using hb
def SmallWordS (ns : List WordV) : Prop := WordSmall ns ∧ WordOk ns
def WordSFit (ns : List WordV) : Prop := ns.length ≤ maxLen ∧ WordOk ns
def nWordS (ns : List WordV) : Nat := 3 * ns.length
theorem nWordS_le {ns : List WordV} (h : SmallWordS ns) : nWordS ns ≤ 100000000 := by have := h.1.1; unfold nWordS; omega
theorem eqWordS_kit (ns : List WordV) (v v' : Value) (w : World) (hs : SmallWordS ns) (h : WordSRd w v ns) (h' : WordSRd w v' ns) :
    Calls Tryd.prog 6 #[v, v'] w fun e w' => e = .returned (.bool true) ∧ Below w.heap.size w w' := by
  have hl := hs.1.1
  obtain ⟨a, c, rfl, h⟩ := h
  obtain ⟨a', c', rfl, h'⟩ := h'
  rcases h with rfl | ⟨b, off, rfl, hb, hc⟩
  · go_enter Tryd.func6, Tryd.ntmps6
    go_wp2
    refine wp_loop_rounds 1 ?_
    rw [rounds_succ]
    go_wp2
    go_ret
    exact ⟨rfl, Below.refl _ _⟩
  · rcases h' with rfl | ⟨b', off', rfl, hb', hc'⟩
    · go_enter Tryd.func6, Tryd.ntmps6
      go_wp2
      refine wp_loop_rounds 1 ?_
      rw [rounds_succ]
      go_wp2
      go_ret
      exact ⟨rfl, Below.refl _ _⟩
    · exact eqWordS_same w b off c b' off' c' ns (by omega) hc hc' hb hb'
/-- the marks from k on -/
def mWord (k : Nat) (j : Nat) : WordV := ⟨((k + 3 * j : Nat) : Int), mText (((k + 3 * j : Nat) : Int) + 1), ((k + 3 * j : Nat) : Int) + 1 + 1⟩
def msWord (k n : Nat) : List WordV := (List.range n).map (mWord k)
theorem msWord_len (k n : Nat) : (msWord k n).length = n := by simp [msWord]
theorem msWord_get (k n i : Nat) (h : i < (msWord k n).length) : (msWord k n)[i] = mWord k i := by simp [msWord]
def mtWord (ns : List WordV) (k j : Nat) : List WordV := msWord k j ++ ns.drop j
theorem mtWord_len (ns : List WordV) (k j : Nat) (h : j ≤ ns.length) : (mtWord ns k j).length = ns.length := by simp [mtWord, msWord_len]; omega
theorem mtWord_step (ns : List WordV) (k j : Nat) (h : j < ns.length) : (mtWord ns k j).set j (mWord k j) = mtWord ns k (j + 1) := by
  unfold mtWord msWord
  rw [List.range_succ, List.map_append, List.set_append_right _ _ (by simp)]
  simp only [List.length_map, List.length_range, Nat.sub_self]
  rw [List.append_assoc]
  congr 1
  rw [List.drop_eq_getElem_cons h]
  rfl
theorem mtWord_all (ns : List WordV) (k : Nat) : mtWord ns k ns.length = msWord k ns.length := by simp [mtWord]
/-- while the j-th is written, field by field -/
def WordMid (w : World) (b off : Nat) (ns : List WordV) (j : Nat) (z0 z1 z2 : Value) : Prop := (∀ i (h : i < ns.length), i ≠ j → w.cell? ⟨b, off + i * 3, none⟩ = some (.int .i64 (ns[i].a0)) ∧ w.cell? ⟨b, off + i * 3 + 1, none⟩ = some (.string (ns[i].a1)) ∧ w.cell? ⟨b, off + i * 3 + 2, none⟩ = some (.int .i64 (ns[i].a2))) ∧ w.cell? ⟨b, off + j * 3, none⟩ = some z0 ∧ w.cell? ⟨b, off + j * 3 + 1, none⟩ = some z1 ∧ w.cell? ⟨b, off + j * 3 + 2, none⟩ = some z2
theorem WordMid.of {w : World} {b off : Nat} {ns : List WordV} (h : WordAt w b off ns) (j : Nat) (hj : j < ns.length) : WordMid w b off ns j (.int .i64 (ns[j].a0)) (.string (ns[j].a1)) (.int .i64 (ns[j].a2)) := ⟨fun i hi _ => h i hi, h j hj⟩
theorem WordMid.below {w w' : World} {B b off : Nat} {ns : List WordV} {j : Nat} {z0 z1 z2 : Value} (h : WordMid w b off ns j z0 z1 z2) (hb : Below B w w') (hB : b < B) : WordMid w' b off ns j z0 z1 z2 := by
  have key : ∀ p, w'.cell? ⟨b, p, none⟩ = w.cell? ⟨b, p, none⟩ := fun p => hb.cell (by exact hB)
  obtain ⟨h1, h2⟩ := h
  refine ⟨fun i hi hne => ?_, ?_⟩
  · have := h1 i hi hne
    simp only [key]
    exact this
  · simp only [key]
    exact h2
theorem WordMid.at {w : World} {b off : Nat} {ns : List WordV} {j : Nat} {y0 : Int} {y1 : ByteArray} {y2 : Int} (h : WordMid w b off ns j (.int .i64 (y0)) (.string (y1)) (.int .i64 (y2))) : WordAt w b off (ns.set j ⟨y0, y1, y2⟩) := by
  intro i hi
  rw [List.length_set] at hi
  by_cases e : i = j
  · subst e
    rw [List.getElem_set_self]
    exact h.2
  · rw [List.getElem_set_ne (fun h => e h.symm)]
    exact h.1 i hi e
theorem WordMid.set0 {w : World} {b off : Nat} {ns : List WordV} {j : Nat} {z0 z1 z2 : Value} (h : WordMid w b off ns j z0 z1 z2) (v : Value) : WordMid (w.setCell ⟨b, off + j * 3, none⟩ v) b off ns j v z1 z2 := by
  have ne : ∀ (p : Nat), p ≠ off + j * 3 → (w.setCell ⟨b, off + j * 3, none⟩ v).cell? ⟨b, p, none⟩ = w.cell? ⟨b, p, none⟩ := fun p h => World.cell?_setCell_other _ _ _ _ (by intro e; have := congrArg Addr.off e; simp only at this; omega)
  obtain ⟨h1, g0, g1, g2⟩ := h
  refine ⟨fun i hi hne => ?_, World.cell?_setCell_same _ _ _ g0, (ne _ (by omega)).trans g1, (ne _ (by omega)).trans g2⟩
  obtain ⟨c0, c1, c2⟩ := h1 i hi hne
  exact ⟨(ne _ (by omega)).trans c0, (ne _ (by omega)).trans c1, (ne _ (by omega)).trans c2⟩
theorem WordMid.set1 {w : World} {b off : Nat} {ns : List WordV} {j : Nat} {z0 z1 z2 : Value} (h : WordMid w b off ns j z0 z1 z2) (v : Value) : WordMid (w.setCell ⟨b, off + j * 3 + 1, none⟩ v) b off ns j z0 v z2 := by
  have ne : ∀ (p : Nat), p ≠ off + j * 3 + 1 → (w.setCell ⟨b, off + j * 3 + 1, none⟩ v).cell? ⟨b, p, none⟩ = w.cell? ⟨b, p, none⟩ := fun p h => World.cell?_setCell_other _ _ _ _ (by intro e; have := congrArg Addr.off e; simp only at this; omega)
  obtain ⟨h1, g0, g1, g2⟩ := h
  refine ⟨fun i hi hne => ?_, (ne _ (by omega)).trans g0, World.cell?_setCell_same _ _ _ g1, (ne _ (by omega)).trans g2⟩
  obtain ⟨c0, c1, c2⟩ := h1 i hi hne
  exact ⟨(ne _ (by omega)).trans c0, (ne _ (by omega)).trans c1, (ne _ (by omega)).trans c2⟩
theorem WordMid.set2 {w : World} {b off : Nat} {ns : List WordV} {j : Nat} {z0 z1 z2 : Value} (h : WordMid w b off ns j z0 z1 z2) (v : Value) : WordMid (w.setCell ⟨b, off + j * 3 + 2, none⟩ v) b off ns j z0 z1 v := by
  have ne : ∀ (p : Nat), p ≠ off + j * 3 + 2 → (w.setCell ⟨b, off + j * 3 + 2, none⟩ v).cell? ⟨b, p, none⟩ = w.cell? ⟨b, p, none⟩ := fun p h => World.cell?_setCell_other _ _ _ _ (by intro e; have := congrArg Addr.off e; simp only at this; omega)
  obtain ⟨h1, g0, g1, g2⟩ := h
  refine ⟨fun i hi hne => ?_, (ne _ (by omega)).trans g0, (ne _ (by omega)).trans g1, World.cell?_setCell_same _ _ _ g2⟩
  obtain ⟨c0, c1, c2⟩ := h1 i hi hne
  exact ⟨(ne _ (by omega)).trans c0, (ne _ (by omega)).trans c1, (ne _ (by omega)).trans c2⟩
set_option maxHeartbeats 6400000 in
theorem markWordS_row (w : World) (b off cap : Nat) (ns : List WordV) (k : Nat) (hk : k ≤ 1000000000) (hl : ns.length ≤ 1048576) (hb : b < w.heap.size) (hc : WordAt w b off ns) (hf : ∀ i, i < ns.length * 3 → w.frozen? ⟨b, off + i, none⟩ = false) :
    Calls Tryd.prog 8 #[.slice (some ⟨b, off, none⟩) ns.length cap, .int .i64 (k : Int)] w fun e w' => e = .returned (.int .i64 ((k + 3 * ns.length : Nat) : Int)) ∧ Hid (WordAt w' b off (msWord k ns.length) ∧ Turn [b] w w' ∧ ∀ i, i < ns.length * 3 → w'.frozen? ⟨b, off + i, none⟩ = false) := by
  have HC := hide hc
  clear hc
  go_enter Tryd.func8, Tryd.ntmps8
  go_wp2_with fail
  go_loopw [1, 5] (fun kv i wr => ∃ (j : Nat) (xs : List WordV), j ≤ ns.length ∧ i = .int .i64 j ∧ kv = .int .i64 ((k + 3 * j : Nat) : Int) ∧ Hid (xs = mtWord ns k j) ∧ Hid (WordAt wr b off xs) ∧ Hid (∀ i, i < ns.length * 3 → wr.frozen? ⟨b, off + i, none⟩ = false) ∧ Hid (Turn [b] w wr)) (fun _ i _ => ns.length - (intOf i).toNat)
  case atStart => exact ⟨0, _, Nat.zero_le _, rfl, rfl, rfl, HC, hide hf, Turn.refl _ _⟩
  case round =>
    obtain ⟨j, xs, hj, rfl, rfl, HXS, HV, HFZ, HT⟩ := hrel
    by_cases hlt : j < ns.length
    · have hxl : xs.length = ns.length := by rw [unhide HXS]; exact mtWord_len ns k j (by omega)
      have hjx : j < xs.length := by omega
      have hbr : b < wr.heap.size := Nat.lt_of_lt_of_le hb (unhide HT).size
      have HXE := hide (show xs.set j ⟨((k + 3 * j : Nat) : Int), mText (((k + 3 * j : Nat) : Int) + 1), ((k + 3 * j : Nat) : Int) + 1 + 1⟩ = mtWord ns k (j + 1) by rw [unhide HXS, ← mtWord_step ns k j hlt]; rfl)
      have HFJ := hide (fun (X : World) (h : ∀ i, i < ns.length * 3 → X.frozen? ⟨b, off + i, none⟩ = false) => show X.frozen? ⟨b, off + j * 3, none⟩ = false ∧ X.frozen? ⟨b, off + j * 3 + 1, none⟩ = false ∧ X.frozen? ⟨b, off + j * 3 + 2, none⟩ = false from ⟨by have := h (j * 3) (by omega); simpa only [Nat.add_assoc] using this, by have := h (j * 3 + 1) (by omega); simpa only [Nat.add_assoc] using this, by have := h (j * 3 + 2) (by omega); simpa only [Nat.add_assoc] using this⟩)
      have HM1 := hide (fun W => markText_any (((k + 3 * j : Nat) : Int) + 1) (by omega) W)
      have hK1 : (0 : Int) ≤ ((k + 3 * j : Nat) : Int) := by omega
      have hK2 : ((k + 3 * j : Nat) : Int) ≤ 10000000000 := by omega
      have HKE := hide (show ((k + 3 * j : Nat) : Int) + 1 + 1 + 1 = ((k + 3 * (j + 1) : Nat) : Int) by omega)
      clear hxl
      generalize ((k + 3 * j : Nat) : Int) = K at *
      generalize mText (K + 1) = mt1 at *
      have MD := hide (WordMid.of (unhide HV) j hjx)
      obtain ⟨_, d0, d1, d2⟩ := unhide MD
      obtain ⟨f0, f1, f2⟩ := unhide HFJ wr (unhide HFZ)
      go_wp2_with fail
      clear d0 d1 d2 f0 f1 f2
      refine (unhide HM1 _).mono ?_
      rintro e w1 ⟨rfl, b1⟩
      have hb1 : b < (wr.setCell ⟨b, off + j * 3, none⟩ (.int .i64 (K))).heap.size := by simpa using hbr
      have MD1 := hide (((unhide MD).set0 (.int .i64 (K))).below b1 hb1)
      have HF1 := hide (show ∀ i, i < ns.length * 3 → w1.frozen? ⟨b, off + i, none⟩ = false from fun i hi => by
        rw [b1.frozen (by exact hb1)]
        try simp only [World.frozen?_setCell]
        exact unhide HFZ i hi)
      have HT1 := hide (((unhide HT).setCell (by simp) _ _).trans (Turn.of_below b1))
      have hbr : b < w1.heap.size := Nat.lt_of_lt_of_le hb1 b1.size
      clear b1
      obtain ⟨_, d0, d1, d2⟩ := unhide MD1
      obtain ⟨f0, f1, f2⟩ := unhide HFJ w1 (unhide HF1)
      go_wp2_with fail
      clear d0 d1 d2 f0 f1 f2
      have HVF := hide (show WordAt ((w1.setCell ⟨b, off + j * 3 + 1, none⟩ (.string mt1)).setCell ⟨b, off + j * 3 + 2, none⟩ (.int .i64 (K + 1 + 1))) b off _ from WordMid.at (((unhide MD1).set1 (.string mt1)).set2 (.int .i64 (K + 1 + 1))))
      have HFF := hide (show ∀ i, i < ns.length * 3 → (((w1.setCell ⟨b, off + j * 3 + 1, none⟩ (.string mt1)).setCell ⟨b, off + j * 3 + 2, none⟩ (.int .i64 (K + 1 + 1)))).frozen? ⟨b, off + i, none⟩ = false from fun i hi => by
        try simp only [World.frozen?_setCell]
        exact unhide HF1 i hi)
      have HTF := hide (show Turn [b] w ((w1.setCell ⟨b, off + j * 3 + 1, none⟩ (.string mt1)).setCell ⟨b, off + j * 3 + 2, none⟩ (.int .i64 (K + 1 + 1))) from (((unhide HT1).setCell (by simp) _ _).setCell (by simp) _ _))
      go_roundw
      case rel => exact ⟨j + 1, _, by omega, by go_num, by rw [unhide HKE], HXE, HVF, HFF, HTF⟩
      case measure => simp [intOf]; omega
    · have e : j = ns.length := by omega
      subst e
      have HP := hide (show WordAt wr b off (msWord k ns.length) by rw [← mtWord_all, ← unhide HXS]; exact unhide HV)
      go_wp2_with fail
      go_ret
      exact ⟨rfl, hide ⟨unhide HP, unhide HT, unhide HFZ⟩⟩
theorem markWordS_none (w : World) (a : Option Addr) (cap : Nat) (K : Int) : Calls Tryd.prog 8 #[.slice a 0 cap, .int .i64 K] w fun e w' => e = .returned (.int .i64 K) ∧ w' = w := by
  go_enter Tryd.func8, Tryd.ntmps8
  go_wp2
  refine wp_loop_rounds 1 ?_
  rw [rounds_succ]
  go_wp2
  go_ret
  exact ⟨rfl, rfl⟩
def marksWordS (k : Nat) (ns : List WordV) : List WordV := msWord k ns.length
theorem markWordS_kit (S : List Nat) (ns : List WordV) (v : Value) (w : World) (k n : Nat) (K : Int) (hK : K = (k : Int)) (hn : nWordS ns = n) (hk : k ≤ 1000000000) (hs : SmallWordS ns) (h : WordSOwn S w v ns) :
    Calls Tryd.prog 8 #[v, .int .i64 K] w fun e w' => e = .returned (.int .i64 (K + (n : Int))) ∧ Hid (WordSOwn S w' v (marksWordS k ns) ∧ Turn S w w') := by
  subst hK hn
  have hl := hs.1.1
  rcases h with ⟨rfl, rfl, a, c, rfl⟩ | ⟨b, off, cap, rfl, rfl, hb, hc, hf⟩
  · refine (markWordS_none w a c k).mono ?_
    rintro e w' ⟨rfl, rfl⟩
    exact ⟨by simp [nWordS], hide ⟨.inl ⟨rfl, rfl, a, c, rfl⟩, Turn.refl _ _⟩⟩
  · refine (markWordS_row w b off cap ns k hk hl hb hc hf).mono ?_
    rintro e w' ⟨rfl, P⟩
    have ht := (unhide P).2.1
    refine ⟨by rw [show ((k + 3 * ns.length : Nat) : Int) = (k : Int) + ((nWordS ns : Nat) : Int) by unfold nWordS; omega], hide ⟨.inr ⟨b, off, cap, rfl, by unfold marksWordS; rw [msWord_len], Nat.lt_of_lt_of_le hb ht.size, (unhide P).1, by unfold marksWordS; rw [msWord_len]; exact (unhide P).2.2⟩, ht⟩⟩
end Go.Proofs.YtpekcpjlappkgaaDoor
