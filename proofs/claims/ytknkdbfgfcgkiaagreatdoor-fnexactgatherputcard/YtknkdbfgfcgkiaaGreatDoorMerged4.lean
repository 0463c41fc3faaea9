/-
  The laws' own marks: a text for a number.
-/
/-
  Lists of Mark for reading and of one's own: copied, compared, marked, and found marked again. (Made by wip/mkrows.py.)
-/
/-
  Lists of items for reading: each a number and a list of marks; how much they hold.
-/
/-
  Lists of windows, each a list of items, for reading: how much they hold.
-/
/-
  Items copied and compared.
-/
import Derived.Test.YtknkdbfgfcgkiaaGreatDoorMerged3
import Derived.Deep.RegionWith
import Derived.Deep.Slices
import Derived.Deep.QuietTactic
import Derived.BigQuiet
import Derived.ProofKit
import Derived.Lib.ItoaNum
import Derived.Deep.RegionHeld3
import Derived.Handy
set_option linter.unusedVariables false
namespace Go.Proofs.YtknkdbfgfcgkiaaGreatDoor
open Go.RowKit Go.Maps Go.Deep

def mDig (m : Nat) : UInt8 := UInt8.ofNat (48 + m % 10)
theorem mDec_len (u : Nat) : ∀ m : Nat, u < 10 ^ (m + 1) → (Lib.decDigits u).length ≤ m + 1 := by
  intro m
  induction m generalizing u with
  | zero =>
    intro h
    rw [Lib.decDigits, dif_pos (by simpa using h)]
    simp
  | succ m ih =>
    intro h
    rw [Lib.decDigits]
    split
    · simp
    · have := ih (u / 10) (by rw [Nat.pow_succ] at h; omega)
      simp; omega
theorem mDec_step (m : Nat) (h : ¬ m < 10) (out : ByteArray) : (⟨(Lib.decDigits m).toArray⟩ : ByteArray) ++ out = ⟨(Lib.decDigits (m / 10)).toArray⟩ ++ (⟨#[mDig m]⟩ ++ out) := by
  rw [Lib.decDigits, dif_neg h]
  apply ByteArray.ext
  simp [mDig]
theorem mDec_last (m : Nat) (h : m < 10) : (⟨(Lib.decDigits m).toArray⟩ : ByteArray) = ⟨#[mDig m]⟩ := by
  rw [Lib.decDigits, dif_pos h, mDig, Nat.mod_eq_of_lt h]
/-- what is still to be written, ahead of what is written -/
def MarkLeft (N m : Nat) (out : ByteArray) : Prop := if m = 0 then out = ⟨(Lib.decDigits N).toArray⟩ else (⟨(Lib.decDigits m).toArray⟩ : ByteArray) ++ out = ⟨(Lib.decDigits N).toArray⟩
theorem MarkLeft.step {N m : Nat} {out : ByteArray} (h : MarkLeft N m out) (hm : m ≠ 0) : MarkLeft N (m / 10) (⟨#[mDig m]⟩ ++ out) := by
  unfold MarkLeft at h ⊢
  rw [if_neg hm] at h
  by_cases h10 : m < 10
  · rw [if_pos (by omega), ← h, mDec_last m h10]
  · rw [if_neg (by omega), ← mDec_step m h10]; exact h
theorem MarkLeft.size {N m : Nat} {out : ByteArray} (h : MarkLeft N m out) (hN : N ≤ 999999999999999999) : out.size ≤ 18 := by
  have hl := mDec_len N 17 (by omega)
  have sl : ∀ l : List UInt8, (⟨l.toArray⟩ : ByteArray).size = l.length := fun l => by simp [ByteArray.size]
  unfold MarkLeft at h
  split at h
  · rw [h, sl]; omega
  · have := congrArg ByteArray.size h
    have e1 := sl (Lib.decDigits N)
    rw [show ∀ a b : ByteArray, (a ++ b).size = a.size + b.size from fun a b => by simp] at this
    omega
/-- the mark of a number -/
def mText (k : Int) : ByteArray := ⟨#[109]⟩ ++ ⟨(Lib.decDigits k.toNat).toArray⟩
theorem mText_zero (k : Int) (h : k ≤ 0) : mText k = ⟨#[109, 48]⟩ := by
  have : k.toNat = 0 := by omega
  unfold mText
  rw [this, mDec_last 0 (by omega)]
  rfl

set_option maxRecDepth 20000 in
set_option maxHeartbeats 1600000 in
theorem markText_any (n : Int) (h1 : n ≤ 999999999999999999) (w : World) : Calls Tryz.prog 78 #[.int .i64 n] w fun e w' => e = .returned (.string (mText n)) ∧ Below w.heap.size w w' := by
  by_cases h0 : n ≤ 0
  · rw [mText_zero n h0]
    go_enter Tryz.func78, Tryz.ntmps78
    go_wp2
    go_ret
    exact ⟨rfl, Below.refl _ _⟩
  · obtain ⟨N, rfl⟩ := Int.eq_ofNat_of_zero_le (show 0 ≤ n by omega)
    have hN : N ≤ 999999999999999999 := by omega
    have hz : N ≠ 0 := by omega
    clear h1
    go_enter Tryz.func78, Tryz.ntmps78
    go_wp2_with fail
    go_loopw [0, 3] (fun nv ov wr => ∃ (m : Nat) (out : ByteArray), m ≤ N ∧ nv = .int .i64 m ∧ ov = .string out ∧ Hid (MarkLeft N m out) ∧ Below w.heap.size w wr) (fun nv _ _ => (intOf nv).toNat)
    case atStart => exact ⟨N, _, Nat.le_refl _, rfl, rfl, hide (by unfold MarkLeft; rw [if_neg hz]; apply ByteArray.ext; simp), Below.refl _ _⟩
    case round =>
      obtain ⟨m, out, hmN, rfl, rfl, hL, hbel⟩ := hrel
      by_cases hm : m = 0
      · subst hm
        have hout := hide (show (⟨#[109]⟩ : ByteArray) ++ out = mText (N : Int) by have := unhide hL; unfold MarkLeft at this; rw [if_pos rfl] at this; rw [this]; rfl)
        have hos : (out.size : Int) ≤ 18 := by have := (unhide hL).size hN; omega
        go_wp2_with fail
        go_ret
        exact ⟨by rw [← unhide hout]; rfl, hbel⟩
      · have hm' : ¬ (m : Int) ≤ 0 := by omega
        have ht : Int.tmod (m : Int) 10 = ((m % 10 : Nat) : Int) := by rw [Int.tmod_eq_emod_of_nonneg (by omega)]; omega
        have hq : Int.tdiv (m : Int) 10 = ((m / 10 : Nat) : Int) := by rw [Int.tdiv_eq_ediv_of_nonneg (by omega)]; omega
        have hd : ¬ ((m % 10 : Nat) : Int) < 0 := by omega
        have HS := hide ((unhide hL).step hm)
        have hos := (unhide hL).size hN
        have hos' : (out.size : Int) ≤ 18 := by omega
        have hcv : (convert 166 9 (.slice (some ⟨wr.heap.size, 0, none⟩) 1 1)).run Tryz.prog (wr.alloc (.cells #[.int .u8 (48 + (m : Int) % 10)] 5)) = .ok (.string (strOfNums [48 + (m : Int) % 10])) (wr.alloc (.cells #[.int .u8 (48 + (m : Int) % 10)] 5)) :=
          run_convert_bytes_arg _ 166 5 Tryz.underlying166 Tryz.underlying5 wr.heap.size 0 1 1 [48 + (m : Int) % 10] rfl (fun i hi => by
            obtain rfl : i = 0 := by omega
            exact World.cell?_alloc_at _ _ _ _ rfl) 9 Tryz.underlying9
        have hstr : strOfNums [48 + (m : Int) % 10] = ⟨#[mDig m]⟩ := by
          have e : (48 + (m : Int) % 10).toNat = 48 + m % 10 := by omega
          simp [strOfNums, e, mDig]
        rw [hstr] at hcv
        have hb' := hbel.alloc hbel.size (.cells #[.int .u8 (48 + (m : Int) % 10)] 5)
        clear hstr
        go_wp2_with fail
        go_roundw
        case rel => exact ⟨m / 10, _, by omega, by go_num, rfl, HS, hb'⟩
        case measure => simp [intOf]; omega

end Go.Proofs.YtknkdbfgfcgkiaaGreatDoor

set_option linter.unusedVariables false
namespace Go.Proofs.YtknkdbfgfcgkiaaGreatDoor
open Go.RowKit Go.Maps Go.Deep

def MarkSRd (w : World) (v : Value) (ns : List MarkV) : Prop := ∃ a c, v = .slice a ns.length c ∧ MarkIn w a ns
def MarkSOwn (S : List Nat) (w : World) (v : Value) (ns : List MarkV) : Prop :=
  (S = [] ∧ ns = [] ∧ ∃ a c, v = .slice a 0 c) ∨ ∃ b off cap, S = [b] ∧ v = .slice (some ⟨b, off, none⟩) ns.length cap ∧ b < w.heap.size ∧ MarkAt w b off ns ∧ ∀ i, i < ns.length * 2 → w.frozen? ⟨b, off + i, none⟩ = false
theorem MarkAt.turn {w w' : World} {S : List Nat} {b off : Nat} {ns : List MarkV} (h : MarkAt w b off ns) (ht : Turn S w w') (hb : b < w.heap.size) (hS : b ∉ S) : MarkAt w' b off ns := by
  intro i hi
  obtain ⟨c0, c1⟩ := h i hi
  exact ⟨(ht.cell hb hS).trans c0, (ht.cell hb hS).trans c1⟩
theorem MarkSRd.up {w w' : World} {v : Value} {ns : List MarkV} (h : MarkSRd w v ns) (hb : Below w.heap.size w w') : MarkSRd w' v ns := by
  obtain ⟨a, c, e, h⟩ := h
  exact ⟨a, c, e, h.below hb⟩
theorem MarkSRd.len {w : World} {v : Value} {ns : List MarkV} (h : MarkSRd w v ns) : ∃ a c, v = .slice a ns.length c := by
  obtain ⟨a, c, e, _⟩ := h
  exact ⟨a, c, e⟩
theorem MarkSRd.form {w : World} {v : Value} {ns : List MarkV} (h : MarkSRd w v ns) : ∃ a n c, v = .slice a n c := by
  obtain ⟨a, c, e⟩ := h.len
  exact ⟨a, _, c, e⟩
theorem MarkSOwn.rd {S : List Nat} {w : World} {v : Value} {ns : List MarkV} (h : MarkSOwn S w v ns) : MarkSRd w v ns := by
  rcases h with ⟨_, rfl, a, c, rfl⟩ | ⟨b, off, cap, _, rfl, hb, hc, _⟩
  · exact ⟨a, c, rfl, .inl rfl⟩
  · exact ⟨_, cap, rfl, .inr ⟨b, off, rfl, hb, hc⟩⟩
theorem MarkSOwn.turn {S S' : List Nat} {w w' : World} {v : Value} {ns : List MarkV} (h : MarkSOwn S w v ns) (ht : Turn S' w w') (hS : ∀ k ∈ S, k ∉ S') : MarkSOwn S w' v ns := by
  rcases h with h | ⟨b, off, cap, rfl, rfl, hb, hc, hf⟩
  · exact .inl h
  · have hn := hS b (by simp)
    exact .inr ⟨b, off, cap, rfl, rfl, Nat.lt_of_lt_of_le hb ht.size, hc.turn ht hb hn, fun i hi => (ht.frozen hb hn).trans (hf i hi)⟩
theorem MarkSOwn.up {S : List Nat} {w w' : World} {v : Value} {ns : List MarkV} (h : MarkSOwn S w v ns) (hb : Below w.heap.size w w') : MarkSOwn S w' v ns := h.turn (Turn.of_below (S := []) hb) (by simp)
theorem MarkSOwn.lt {S : List Nat} {w : World} {v : Value} {ns : List MarkV} (h : MarkSOwn S w v ns) : ∀ k ∈ S, k < w.heap.size := by
  rcases h with ⟨rfl, _⟩ | ⟨b, off, cap, rfl, rfl, hb, _⟩
  · simp
  · simpa using hb
def SmallMarkS (ns : List MarkV) : Prop := MarkSmall ns ∧ MarkOk ns
def MarkSFit (ns : List MarkV) : Prop := ns.length ≤ maxLen ∧ MarkOk ns
def nMarkS (ns : List MarkV) : Nat := 2 * ns.length
theorem nMarkS_le {ns : List MarkV} (h : SmallMarkS ns) : nMarkS ns ≤ 100000000 := by have := h.1.1; unfold nMarkS; omega
theorem szMarkS_kitL (ns : List MarkV) (v : Value) (left : Int) (w : World) (h0 : 0 ≤ left) (h1 : left ≤ 1048576) (hf : MarkSFit ns) (h : MarkSRd w v ns) :
    Calls Tryz.prog 20 #[v, .int .i64 left] w fun e w' => ∃ q : Int, e = .returned (.int .i64 q) ∧ q ≤ left ∧ Hid (0 ≤ q → SmallMarkS ns) ∧ Below w.heap.size w w' := by
  obtain ⟨a, c, rfl, h⟩ := h
  refine (szMarkS_in w a c ns left h0 h1 hf.1 h hf.2).mono ?_
  rintro e w' ⟨⟨r, rfl, h3, h2⟩, b⟩
  exact ⟨r, rfl, h3, hide (fun hr => ⟨h2 hr, hf.2⟩), b⟩
theorem eqMarkS_kit (ns : List MarkV) (v v' : Value) (w : World) (hs : SmallMarkS ns) (h : MarkSRd w v ns) (h' : MarkSRd w v' ns) :
    Calls Tryz.prog 39 #[v, v'] w fun e w' => e = .returned (.bool true) ∧ Below w.heap.size w w' := by
  have hl := hs.1.1
  obtain ⟨a, c, rfl, h⟩ := h
  obtain ⟨a', c', rfl, h'⟩ := h'
  rcases h with rfl | ⟨b, off, rfl, hb, hc⟩
  · go_enter Tryz.func39, Tryz.ntmps39
    go_wp2
    refine wp_loop_rounds 1 ?_
    rw [rounds_succ]
    go_wp2
    go_ret
    exact ⟨rfl, Below.refl _ _⟩
  · rcases h' with rfl | ⟨b', off', rfl, hb', hc'⟩
    · go_enter Tryz.func39, Tryz.ntmps39
      go_wp2
      refine wp_loop_rounds 1 ?_
      rw [rounds_succ]
      go_wp2
      go_ret
      exact ⟨rfl, Below.refl _ _⟩
    · exact eqMarkS_same w b off c b' off' c' ns (by omega) hc hc' hb hb'
/-- the marks from k on -/
def mMark (k : Nat) (j : Nat) : MarkV := ⟨mText (((k + 2 * j : Nat) : Int)), ((k + 2 * j : Nat) : Int) + 1⟩
def msMark (k n : Nat) : List MarkV := (List.range n).map (mMark k)
theorem msMark_len (k n : Nat) : (msMark k n).length = n := by simp [msMark]
theorem msMark_get (k n i : Nat) (h : i < (msMark k n).length) : (msMark k n)[i] = mMark k i := by simp [msMark]
def mtMark (ns : List MarkV) (k j : Nat) : List MarkV := msMark k j ++ ns.drop j
theorem mtMark_len (ns : List MarkV) (k j : Nat) (h : j ≤ ns.length) : (mtMark ns k j).length = ns.length := by simp [mtMark, msMark_len]; omega
theorem mtMark_step (ns : List MarkV) (k j : Nat) (h : j < ns.length) : (mtMark ns k j).set j (mMark k j) = mtMark ns k (j + 1) := by
  unfold mtMark msMark
  rw [List.range_succ, List.map_append, List.set_append_right _ _ (by simp)]
  simp only [List.length_map, List.length_range, Nat.sub_self]
  rw [List.append_assoc]
  congr 1
  rw [List.drop_eq_getElem_cons h]
  rfl
theorem mtMark_all (ns : List MarkV) (k : Nat) : mtMark ns k ns.length = msMark k ns.length := by simp [mtMark]
/-- while the j-th is written, field by field -/
def MarkMid (w : World) (b off : Nat) (ns : List MarkV) (j : Nat) (z0 z1 : Value) : Prop := (∀ i (h : i < ns.length), i ≠ j → w.cell? ⟨b, off + i * 2, none⟩ = some (.string (ns[i].a0)) ∧ w.cell? ⟨b, off + i * 2 + 1, none⟩ = some (.int .i64 (ns[i].a1))) ∧ w.cell? ⟨b, off + j * 2, none⟩ = some z0 ∧ w.cell? ⟨b, off + j * 2 + 1, none⟩ = some z1
theorem MarkMid.of {w : World} {b off : Nat} {ns : List MarkV} (h : MarkAt w b off ns) (j : Nat) (hj : j < ns.length) : MarkMid w b off ns j (.string (ns[j].a0)) (.int .i64 (ns[j].a1)) := ⟨fun i hi _ => h i hi, h j hj⟩
theorem MarkMid.below {w w' : World} {B b off : Nat} {ns : List MarkV} {j : Nat} {z0 z1 : Value} (h : MarkMid w b off ns j z0 z1) (hb : Below B w w') (hB : b < B) : MarkMid w' b off ns j z0 z1 := by
  have key : ∀ p, w'.cell? ⟨b, p, none⟩ = w.cell? ⟨b, p, none⟩ := fun p => hb.cell (by exact hB)
  obtain ⟨h1, h2⟩ := h
  refine ⟨fun i hi hne => ?_, ?_⟩
  · have := h1 i hi hne
    simp only [key]
    exact this
  · simp only [key]
    exact h2
theorem MarkMid.at {w : World} {b off : Nat} {ns : List MarkV} {j : Nat} {y0 : ByteArray} {y1 : Int} (h : MarkMid w b off ns j (.string (y0)) (.int .i64 (y1))) : MarkAt w b off (ns.set j ⟨y0, y1⟩) := by
  intro i hi
  rw [List.length_set] at hi
  by_cases e : i = j
  · subst e
    rw [List.getElem_set_self]
    exact h.2
  · rw [List.getElem_set_ne (fun h => e h.symm)]
    exact h.1 i hi e
theorem MarkMid.set0 {w : World} {b off : Nat} {ns : List MarkV} {j : Nat} {z0 z1 : Value} (h : MarkMid w b off ns j z0 z1) (v : Value) : MarkMid (w.setCell ⟨b, off + j * 2, none⟩ v) b off ns j v z1 := by
  have ne : ∀ (p : Nat), p ≠ off + j * 2 → (w.setCell ⟨b, off + j * 2, none⟩ v).cell? ⟨b, p, none⟩ = w.cell? ⟨b, p, none⟩ := fun p h => World.cell?_setCell_other _ _ _ _ (by intro e; have := congrArg Addr.off e; simp only at this; omega)
  obtain ⟨h1, g0, g1⟩ := h
  refine ⟨fun i hi hne => ?_, World.cell?_setCell_same _ _ _ g0, (ne _ (by omega)).trans g1⟩
  obtain ⟨c0, c1⟩ := h1 i hi hne
  exact ⟨(ne _ (by omega)).trans c0, (ne _ (by omega)).trans c1⟩
theorem MarkMid.set1 {w : World} {b off : Nat} {ns : List MarkV} {j : Nat} {z0 z1 : Value} (h : MarkMid w b off ns j z0 z1) (v : Value) : MarkMid (w.setCell ⟨b, off + j * 2 + 1, none⟩ v) b off ns j z0 v := by
  have ne : ∀ (p : Nat), p ≠ off + j * 2 + 1 → (w.setCell ⟨b, off + j * 2 + 1, none⟩ v).cell? ⟨b, p, none⟩ = w.cell? ⟨b, p, none⟩ := fun p h => World.cell?_setCell_other _ _ _ _ (by intro e; have := congrArg Addr.off e; simp only at this; omega)
  obtain ⟨h1, g0, g1⟩ := h
  refine ⟨fun i hi hne => ?_, (ne _ (by omega)).trans g0, World.cell?_setCell_same _ _ _ g1⟩
  obtain ⟨c0, c1⟩ := h1 i hi hne
  exact ⟨(ne _ (by omega)).trans c0, (ne _ (by omega)).trans c1⟩
set_option maxHeartbeats 6400000 in
theorem markMarkS_row (w : World) (b off cap : Nat) (ns : List MarkV) (k : Nat) (hk : k ≤ 1000000000000000) (hl : ns.length ≤ 1048576) (hb : b < w.heap.size) (hc : MarkAt w b off ns) (hf : ∀ i, i < ns.length * 2 → w.frozen? ⟨b, off + i, none⟩ = false) :
    Calls Tryz.prog 44 #[.slice (some ⟨b, off, none⟩) ns.length cap, .int .i64 (k : Int)] w fun e w' => e = .returned (.int .i64 ((k + 2 * ns.length : Nat) : Int)) ∧ Hid (MarkAt w' b off (msMark k ns.length) ∧ Turn [b] w w' ∧ ∀ i, i < ns.length * 2 → w'.frozen? ⟨b, off + i, none⟩ = false) := by
  have HC := hide hc
  clear hc
  go_enter Tryz.func44, Tryz.ntmps44
  go_wp2_with fail
  go_loopw [1, 5] (fun kv i wr => ∃ (j : Nat) (xs : List MarkV), j ≤ ns.length ∧ i = .int .i64 j ∧ kv = .int .i64 ((k + 2 * j : Nat) : Int) ∧ Hid (xs = mtMark ns k j) ∧ Hid (MarkAt wr b off xs) ∧ Hid (∀ i, i < ns.length * 2 → wr.frozen? ⟨b, off + i, none⟩ = false) ∧ Hid (Turn [b] w wr)) (fun _ i _ => ns.length - (intOf i).toNat)
  case atStart => exact ⟨0, _, Nat.zero_le _, rfl, rfl, rfl, HC, hide hf, Turn.refl _ _⟩
  case round =>
    obtain ⟨j, xs, hj, rfl, rfl, HXS, HV, HFZ, HT⟩ := hrel
    by_cases hlt : j < ns.length
    · have hxl : xs.length = ns.length := by rw [unhide HXS]; exact mtMark_len ns k j (by omega)
      have hjx : j < xs.length := by omega
      have hbr : b < wr.heap.size := Nat.lt_of_lt_of_le hb (unhide HT).size
      have HXE := hide (show xs.set j ⟨mText (((k + 2 * j : Nat) : Int)), ((k + 2 * j : Nat) : Int) + 1⟩ = mtMark ns k (j + 1) by rw [unhide HXS, ← mtMark_step ns k j hlt]; rfl)
      have HFJ := hide (fun (X : World) (h : ∀ i, i < ns.length * 2 → X.frozen? ⟨b, off + i, none⟩ = false) => show X.frozen? ⟨b, off + j * 2, none⟩ = false ∧ X.frozen? ⟨b, off + j * 2 + 1, none⟩ = false from ⟨by have := h (j * 2) (by omega); simpa only [Nat.add_assoc] using this, by have := h (j * 2 + 1) (by omega); simpa only [Nat.add_assoc] using this⟩)
      have HM0 := hide (fun W => markText_any (((k + 2 * j : Nat) : Int)) (by omega) W)
      have hK1 : (0 : Int) ≤ ((k + 2 * j : Nat) : Int) := by omega
      have hK2 : ((k + 2 * j : Nat) : Int) ≤ 10000000000000000 := by omega
      have HKE := hide (show ((k + 2 * j : Nat) : Int) + 1 + 1 = ((k + 2 * (j + 1) : Nat) : Int) by omega)
      clear hxl
      generalize ((k + 2 * j : Nat) : Int) = K at *
      generalize mText (K) = mt0 at *
      have MD := hide (MarkMid.of (unhide HV) j hjx)
      obtain ⟨_, d0, d1⟩ := unhide MD
      obtain ⟨f0, f1⟩ := unhide HFJ wr (unhide HFZ)
      go_wp2_with fail
      clear d0 d1 f0 f1
      refine (unhide HM0 _).mono ?_
      rintro e w1 ⟨rfl, b1⟩
      have hb1 : b < wr.heap.size := by simpa using hbr
      have MD1 := hide ((unhide MD).below b1 hb1)
      have HF1 := hide (show ∀ i, i < ns.length * 2 → w1.frozen? ⟨b, off + i, none⟩ = false from fun i hi => by
        rw [b1.frozen (by exact hb1)]
        try simp only [World.frozen?_setCell]
        exact unhide HFZ i hi)
      have HT1 := hide ((unhide HT).trans (Turn.of_below b1))
      have hbr : b < w1.heap.size := Nat.lt_of_lt_of_le hb1 b1.size
      clear b1
      obtain ⟨_, d0, d1⟩ := unhide MD1
      obtain ⟨f0, f1⟩ := unhide HFJ w1 (unhide HF1)
      go_wp2_with fail
      clear d0 d1 f0 f1
      have HVF := hide (show MarkAt ((w1.setCell ⟨b, off + j * 2, none⟩ (.string mt0)).setCell ⟨b, off + j * 2 + 1, none⟩ (.int .i64 (K + 1))) b off _ from MarkMid.at (((unhide MD1).set0 (.string mt0)).set1 (.int .i64 (K + 1))))
      have HFF := hide (show ∀ i, i < ns.length * 2 → (((w1.setCell ⟨b, off + j * 2, none⟩ (.string mt0)).setCell ⟨b, off + j * 2 + 1, none⟩ (.int .i64 (K + 1)))).frozen? ⟨b, off + i, none⟩ = false from fun i hi => by
        try simp only [World.frozen?_setCell]
        exact unhide HF1 i hi)
      have HTF := hide (show Turn [b] w ((w1.setCell ⟨b, off + j * 2, none⟩ (.string mt0)).setCell ⟨b, off + j * 2 + 1, none⟩ (.int .i64 (K + 1))) from (((unhide HT1).setCell (by simp) _ _).setCell (by simp) _ _))
      go_roundw
      case rel => exact ⟨j + 1, _, by omega, by go_num, by rw [unhide HKE], HXE, HVF, HFF, HTF⟩
      case measure => simp [intOf]; omega
    · have e : j = ns.length := by omega
      subst e
      have HP := hide (show MarkAt wr b off (msMark k ns.length) by rw [← mtMark_all, ← unhide HXS]; exact unhide HV)
      go_wp2_with fail
      go_ret
      exact ⟨rfl, hide ⟨unhide HP, unhide HT, unhide HFZ⟩⟩
theorem markMarkS_none (w : World) (a : Option Addr) (cap : Nat) (K : Int) : Calls Tryz.prog 44 #[.slice a 0 cap, .int .i64 K] w fun e w' => e = .returned (.int .i64 K) ∧ w' = w := by
  go_enter Tryz.func44, Tryz.ntmps44
  go_wp2
  refine wp_loop_rounds 1 ?_
  rw [rounds_succ]
  go_wp2
  go_ret
  exact ⟨rfl, rfl⟩
def marksMarkS (k : Nat) (ns : List MarkV) : List MarkV := msMark k ns.length
theorem markMarkS_kit (S : List Nat) (ns : List MarkV) (v : Value) (w : World) (k n : Nat) (K : Int) (hK : K = (k : Int)) (hn : nMarkS ns = n) (hk : k ≤ 1000000000000000) (hs : SmallMarkS ns) (h : MarkSOwn S w v ns) :
    Calls Tryz.prog 44 #[v, .int .i64 K] w fun e w' => e = .returned (.int .i64 (K + (n : Int))) ∧ Hid (MarkSOwn S w' v (marksMarkS k ns) ∧ Turn S w w') := by
  subst hK hn
  have hl := hs.1.1
  rcases h with ⟨rfl, rfl, a, c, rfl⟩ | ⟨b, off, cap, rfl, rfl, hb, hc, hf⟩
  · refine (markMarkS_none w a c k).mono ?_
    rintro e w' ⟨rfl, rfl⟩
    exact ⟨by simp [nMarkS], hide ⟨.inl ⟨rfl, rfl, a, c, rfl⟩, Turn.refl _ _⟩⟩
  · refine (markMarkS_row w b off cap ns k hk hl hb hc hf).mono ?_
    rintro e w' ⟨rfl, P⟩
    have ht := (unhide P).2.1
    refine ⟨by rw [show ((k + 2 * ns.length : Nat) : Int) = (k : Int) + ((nMarkS ns : Nat) : Int) by unfold nMarkS; omega], hide ⟨.inr ⟨b, off, cap, rfl, by unfold marksMarkS; rw [msMark_len], Nat.lt_of_lt_of_le hb ht.size, (unhide P).1, by unfold marksMarkS; rw [msMark_len]; exact (unhide P).2.2⟩, ht⟩⟩
end Go.Proofs.YtknkdbfgfcgkiaaGreatDoor

set_option linter.unusedVariables false
namespace Go.Proofs.YtknkdbfgfcgkiaaGreatDoor
open Go.RowKit Go.Maps Go.Deep

structure ItemV where
  a0 : Int
  a1 : List MarkV
/-- they lie one behind the other, from a place of a block on; each one's marks may be read -/
def ItemAt (w : World) (b off : Nat) (ns : List ItemV) : Prop :=
  ∀ i (h : i < ns.length), w.cell? ⟨b, off + i * 2, none⟩ = some (.int .i64 ns[i].a0) ∧ ∃ v, w.cell? ⟨b, off + i * 2 + 1, none⟩ = some v ∧ MarkSRd w v ns[i].a1
def ItemFit (x : ItemV) : Prop := (-9223372036854775808 ≤ x.a0 ∧ x.a0 ≤ 9223372036854775807) ∧ MarkSFit x.a1
def SmallItem (x : ItemV) : Prop := (-9223372036854775808 ≤ x.a0 ∧ x.a0 ≤ 9223372036854775807) ∧ SmallMarkS x.a1
def ItemIn (w : World) (a : Option Addr) (ns : List ItemV) : Prop :=
  ns = [] ∨ ∃ b off, a = some ⟨b, off, none⟩ ∧ b < w.heap.size ∧ ItemAt w b off ns
def ItemSRd (w : World) (v : Value) (ns : List ItemV) : Prop := ∃ a c, v = .slice a ns.length c ∧ ItemIn w a ns
def ItemSFit (ns : List ItemV) : Prop := ns.length ≤ maxLen ∧ ∀ x ∈ ns, ItemFit x
def SmallItemS (ns : List ItemV) : Prop := ns.length ≤ 1048576 ∧ ∀ x ∈ ns, SmallItem x
theorem ItemAt.up {w w' : World} {b off : Nat} {ns : List ItemV} (h : ItemAt w b off ns) (hb : b < w.heap.size) (hw : Below w.heap.size w w') : ItemAt w' b off ns := by
  intro i hi
  obtain ⟨c0, v, c1, hv⟩ := h i hi
  exact ⟨(hw.cell (by exact hb)).trans c0, v, (hw.cell (by exact hb)).trans c1, hv.up hw⟩
theorem ItemIn.up {w w' : World} {a : Option Addr} {ns : List ItemV} (h : ItemIn w a ns) (hw : Below w.heap.size w w') : ItemIn w' a ns := by
  rcases h with h | ⟨b, off, e, hb, h⟩
  · exact .inl h
  · exact .inr ⟨b, off, e, Nat.lt_of_lt_of_le hb hw.size, h.up hb hw⟩
theorem ItemSRd.up {w w' : World} {v : Value} {ns : List ItemV} (h : ItemSRd w v ns) (hw : Below w.heap.size w w') : ItemSRd w' v ns := by
  obtain ⟨a, c, e, h⟩ := h
  exact ⟨a, c, e, h.up hw⟩
theorem ItemSRd.form {w : World} {v : Value} {ns : List ItemV} (h : ItemSRd w v ns) : ∃ a n c, v = .slice a n c := by
  obtain ⟨a, c, e, _⟩ := h
  exact ⟨a, _, c, e⟩

set_option maxHeartbeats 1600000 in
theorem szItem_any (z0 : Int) (z1 : Value) (ms : List MarkV) (left : Int) (w : World) (hf : MarkSFit ms) (h : MarkSRd w z1 ms) (h0 : 0 ≤ left) (h1 : left ≤ 1048576) :
    Calls Tryz.prog 21 #[.agg #[.int .i64 z0, z1], .int .i64 left] w fun e w' => ∃ r : Int, e = .returned (.int .i64 r) ∧ r ≤ left ∧ Hid (0 ≤ r → SmallMarkS ms) ∧ Below w.heap.size w w' := by
  have HK := hide (fun W (b : Below w.heap.size w W) => szMarkS_kitL ms z1 left W h0 h1 hf (h.up b))
  obtain ⟨a, n, c, rfl⟩ := h.form
  clear h hf
  go_enter Tryz.func21, Tryz.ntmps21
  go_wp2_with fail
  refine (unhide HK _ (by go_grown)).mono ?_
  rintro e w1 ⟨q, rfl, hq, HQ, b1⟩
  have B1 := hide (Below.trans (by go_grown : Below w.heap.size w _) (b1.mono (by simp)))
  clear b1
  by_cases hneg : q < 0
  · go_wp2_with fail
    go_ret
    exact ⟨-1, rfl, by omega, hide (fun h => absurd h (by omega)), unhide B1⟩
  · go_wp2_with fail
    go_ret
    exact ⟨q, rfl, hq, HQ, unhide B1⟩

theorem szItemS_none (w : World) (a : Option Addr) (cap : Nat) (left0 : Int) (hf0 : 0 ≤ left0) (hf1 : left0 ≤ 1048576) :
    Calls Tryz.prog 51 #[.slice a 0 cap, .int .i64 left0] w fun e w' => e = .returned (.int .i64 left0) ∧ w' = w := by
  go_enter Tryz.func51, Tryz.ntmps51
  go_wp2_with fail
  refine wp_loop_rounds 1 ?_
  rw [rounds_succ]
  go_wp2_with fail
  go_ret
  exact ⟨rfl, rfl⟩
end Go.Proofs.YtknkdbfgfcgkiaaGreatDoor

set_option linter.unusedVariables false
namespace Go.Proofs.YtknkdbfgfcgkiaaGreatDoor
open Go.RowKit Go.Maps Go.Deep

/-- they lie one behind the other, from a place of a block on; each one's items may be read -/
def WinsAt (w : World) (b off : Nat) (ws : List (List ItemV)) : Prop :=
  ∀ i (h : i < ws.length), ∃ v, w.cell? ⟨b, off + i, none⟩ = some v ∧ ItemSRd w v ws[i]
def WinsIn (w : World) (a : Option Addr) (ws : List (List ItemV)) : Prop :=
  ws = [] ∨ ∃ b off, a = some ⟨b, off, none⟩ ∧ b < w.heap.size ∧ WinsAt w b off ws
def ItemSSRd (w : World) (v : Value) (ws : List (List ItemV)) : Prop := ∃ a c, v = .slice a ws.length c ∧ WinsIn w a ws
def ItemSSFit (ws : List (List ItemV)) : Prop := ws.length ≤ maxLen ∧ ∀ x ∈ ws, ItemSFit x
def SmallItemSS (ws : List (List ItemV)) : Prop := ws.length ≤ 1048576 ∧ ∀ x ∈ ws, SmallItemS x
theorem WinsAt.up {w w' : World} {b off : Nat} {ws : List (List ItemV)} (h : WinsAt w b off ws) (hb : b < w.heap.size) (hw : Below w.heap.size w w') : WinsAt w' b off ws := by
  intro i hi
  obtain ⟨v, c, hv⟩ := h i hi
  exact ⟨v, (hw.cell (by exact hb)).trans c, hv.up hw⟩
theorem WinsIn.up {w w' : World} {a : Option Addr} {ws : List (List ItemV)} (h : WinsIn w a ws) (hw : Below w.heap.size w w') : WinsIn w' a ws := by
  rcases h with h | ⟨b, off, e, hb, h⟩
  · exact .inl h
  · exact .inr ⟨b, off, e, Nat.lt_of_lt_of_le hb hw.size, h.up hb hw⟩
theorem ItemSSRd.up {w w' : World} {v : Value} {ws : List (List ItemV)} (h : ItemSSRd w v ws) (hw : Below w.heap.size w w') : ItemSSRd w' v ws := by
  obtain ⟨a, c, e, h⟩ := h
  exact ⟨a, c, e, h.up hw⟩
theorem ItemSSRd.form {w : World} {v : Value} {ws : List (List ItemV)} (h : ItemSSRd w v ws) : ∃ a n c, v = .slice a n c := by
  obtain ⟨a, c, e, _⟩ := h
  exact ⟨a, _, c, e⟩

theorem szItemSS_none (w : World) (a : Option Addr) (cap : Nat) (left0 : Int) (hf0 : 0 ≤ left0) (hf1 : left0 ≤ 1048576) :
    Calls Tryz.prog 19 #[.slice a 0 cap, .int .i64 left0] w fun e w' => e = .returned (.int .i64 left0) ∧ w' = w := by
  go_enter Tryz.func19, Tryz.ntmps19
  go_wp2_with fail
  refine wp_loop_rounds 1 ?_
  rw [rounds_succ]
  go_wp2_with fail
  go_ret
  exact ⟨rfl, rfl⟩
end Go.Proofs.YtknkdbfgfcgkiaaGreatDoor

set_option linter.unusedVariables false
namespace Go.Proofs.YtknkdbfgfcgkiaaGreatDoor
open Go.RowKit Go.Maps Go.Deep

theorem icell {W w1 : World} (hb : Below W.heap.size W w1) : (∀ b o, b < W.heap.size → w1.cell? ⟨b, o, none⟩ = W.cell? ⟨b, o, none⟩) ∧ (∀ b o, b < W.heap.size → w1.frozen? ⟨b, o, none⟩ = W.frozen? ⟨b, o, none⟩) :=
  ⟨fun b o h => hb.cell (p := ⟨b, o, none⟩) h, fun b o h => hb.frozen (p := ⟨b, o, none⟩) h⟩
theorem toMarkS_own (ns : List MarkV) (v : Value) (w : World) (hs : SmallMarkS ns) (h : MarkSRd w v ns) :
    Calls Tryz.prog 31 #[v] w fun e w' => e = .returned (.slice (some ⟨w.heap.size, 0, none⟩) ns.length ns.length) ∧ MarkSOwn [w.heap.size] w' (.slice (some ⟨w.heap.size, 0, none⟩) ns.length ns.length) ns ∧ w.heap.size < w'.heap.size ∧ Below w.heap.size w w' := by
  obtain ⟨a, c, rfl, h⟩ := h
  refine (toMarkS_in w a c ns hs.1.1 h).mono ?_
  rintro e w' ⟨rfl, h1, h2, h3, h4⟩
  exact ⟨rfl, .inr ⟨w.heap.size, 0, ns.length, rfl, rfl, h2, h1, fun i _ => h4 _⟩, h2, h3⟩
set_option maxHeartbeats 3200000 in
theorem toItem_any (z0 : Int) (z1 : Value) (ms : List MarkV) (w : World) (hs : SmallMarkS ms) (h : MarkSRd w z1 ms) :
    Calls Tryz.prog 32 #[.agg #[.int .i64 z0, z1]] w fun e w' => ∃ g, e = .returned (.agg #[.int .i64 z0, .slice (some ⟨g, 0, none⟩) ms.length ms.length]) ∧ w.heap.size ≤ g ∧ MarkSOwn [g] w' (.slice (some ⟨g, 0, none⟩) ms.length ms.length) ms ∧ Below w.heap.size w w' := by
  have HA := hide (fun W (b : Below w.heap.size w W) => toMarkS_own ms z1 W hs (h.up b))
  obtain ⟨a, n, c, rfl⟩ := h.form
  clear h hs
  go_enter Tryz.func32, Tryz.ntmps32
  go_wp2_with fail
  refine (unhide HA _ (by go_grown)).mono ?_
  rintro e w1 ⟨rfl, o1, z1, b1⟩
  have O1 := hide o1
  have B1 := hide (show Below w.heap.size w w1 from Below.trans (by go_grown) (b1.mono (by simp; omega)))
  obtain ⟨hc, hf⟩ := icell b1
  clear o1 b1
  simp at z1
  have O1' := hide (show MarkSOwn [w.heap.size + 1 + 1 + 1] w1 (.slice (some ⟨w.heap.size + 1 + 1 + 1, 0, none⟩) ms.length ms.length) ms by simpa using unhide O1)
  clear O1
  have r0 : ∀ i, i < 2 → ∃ x, w1.cell? ⟨w.heap.size + 1, i, none⟩ = some x := by
    intro i hi
    rw [hc _ _ (by simp), World.cell?_alloc_past _ _ _ (by simp), World.cell?_alloc_at _ _ _ _ (by simp)]
    match i, hi with
    | 0, _ => exact ⟨_, rfl⟩
    | 1, _ => exact ⟨_, rfl⟩
  obtain ⟨q0, r0'⟩ := r0 0 (by omega)
  obtain ⟨q1, r1'⟩ := r0 1 (by omega)
  clear r0
  go_wp2_with fail
  refine bodyPost_ret (v := .agg #[.int .i64 z0, .slice (some ⟨w.heap.size + 1 + 1 + 1, 0, none⟩) ms.length ms.length]) (by simp [results, Tryz.results32, go_sem, r0', r1']) rfl ?_
  have key : ∀ W, Turn [w.heap.size + 1, w.heap.size + 1 + 1] w1 W → ∃ g, Ending.returned (.agg #[.int .i64 z0, .slice (some ⟨w.heap.size + 1 + 1 + 1, 0, none⟩) ms.length ms.length]) = .returned (.agg #[.int .i64 z0, .slice (some ⟨g, 0, none⟩) ms.length ms.length]) ∧ w.heap.size ≤ g ∧ MarkSOwn [g] W (.slice (some ⟨g, 0, none⟩) ms.length ms.length) ms ∧ Below w.heap.size w W := fun W ht =>
    ⟨_, rfl, by omega, (unhide O1').turn ht (fun k hk hm => by simp at hk hm; omega), (unhide B1).trans (ht.below (unhide B1).size (fun k hk => by simp at hk; omega))⟩
  exact key _ ((((Turn.refl _ _).setCell (by simp) _ _).setCell (by simp) _ _).setCell (by simp) _ _)
set_option maxHeartbeats 3200000 in
theorem eqItem_any (z0 : Int) (z1 z1' : Value) (ms : List MarkV) (w : World) (hs : SmallMarkS ms) (h : MarkSRd w z1 ms) (h' : MarkSRd w z1' ms) :
    Calls Tryz.prog 41 #[.agg #[.int .i64 z0, z1], .agg #[.int .i64 z0, z1']] w fun e w' => e = .returned (.bool true) ∧ Below w.heap.size w w' := by
  have HA := hide (fun W (b : Below w.heap.size w W) => eqMarkS_kit ms z1 z1' W hs (h.up b) (h'.up b))
  obtain ⟨a, n, c, rfl⟩ := h.form
  obtain ⟨a', n', c', rfl⟩ := h'.form
  clear h h' hs
  go_enter Tryz.func41, Tryz.ntmps41
  go_wp2_with fail
  refine (unhide HA _ (by go_grown)).mono ?_
  rintro e w1 ⟨rfl, b1⟩
  have B1 := hide (show Below w.heap.size w w1 from Below.trans (by go_grown) (b1.mono (by simp; omega)))
  clear b1
  go_wp2_with fail
  go_ret
  exact ⟨rfl, unhide B1⟩
end Go.Proofs.YtknkdbfgfcgkiaaGreatDoor
