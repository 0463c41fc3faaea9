/-
  Lists of texts in memory, and the law's own helpers over them: how much they hold, how they are copied, compared, marked, and how one that comes in is opened.
-/
import Derived.Test.YtldgffkippejiaaGreatDoorMerged8
import Derived.Test.YtldgffkippejiaaGreatDoorMerged48
import Derived.Deep.RegionHeld3
import Derived.Deep.RegionWith
import Derived.Deep.Slices
import Derived.ProofKit
import Derived.OpenShut
set_option linter.unusedVariables false
namespace Go.Proofs.YtldgffkippejiaaGreatDoor
open Go.RowKit Go.Maps Go.Deep Go.ChangeShapes Go.WideShapes Go.ChangeAt

def StrsAt (w : World) (b off : Nat) (ts : List ByteArray) : Prop := ∀ i (h : i < ts.length), w.cell? ⟨b, off + i, none⟩ = some (.string ts[i])
def StrsIn (w : World) (a : Option Addr) (ts : List ByteArray) : Prop := ts = [] ∨ ∃ b off, a = some ⟨b, off, none⟩ ∧ b < w.heap.size ∧ StrsAt w b off ts
def StrsOk (ts : List ByteArray) : Prop := ∀ t ∈ ts, t.size ≤ maxLen
def StringSRd (w : World) (v : Value) (ts : List ByteArray) : Prop := ∃ a c, v = .slice a ts.length c ∧ StrsIn w a ts
def StringSOwn (S : List Nat) (w : World) (v : Value) (ts : List ByteArray) : Prop :=
  (S = [] ∧ ts = [] ∧ ∃ a c, v = .slice a 0 c) ∨ ∃ b off cap, S = [b] ∧ v = .slice (some ⟨b, off, none⟩) ts.length cap ∧ b < w.heap.size ∧ StrsAt w b off ts ∧ ∀ i, i < ts.length → w.frozen? ⟨b, off + i, none⟩ = false
theorem StrsAt.below {w w' : World} {B b off : Nat} {ts : List ByteArray} (h : StrsAt w b off ts) (hb : Below B w w') (hB : b < B) : StrsAt w' b off ts := fun i hi => (hb.cell (by exact hB)).trans (h i hi)
theorem StrsAt.turn {w w' : World} {S : List Nat} {b off : Nat} {ts : List ByteArray} (h : StrsAt w b off ts) (ht : Turn S w w') (hb : b < w.heap.size) (hS : b ∉ S) : StrsAt w' b off ts := fun i hi => (ht.cell hb hS).trans (h i hi)
theorem StrsIn.below {w w' : World} {a : Option Addr} {ts : List ByteArray} (h : StrsIn w a ts) (hb : Below w.heap.size w w') : StrsIn w' a ts := by
  rcases h with h | ⟨b, off, e, hb', hc⟩
  · exact .inl h
  · exact .inr ⟨b, off, e, Nat.lt_of_lt_of_le hb' hb.size, hc.below hb hb'⟩
theorem StringSRd.up {w w' : World} {v : Value} {ts : List ByteArray} (h : StringSRd w v ts) (hb : Below w.heap.size w w') : StringSRd w' v ts := by
  obtain ⟨a, c, e, h⟩ := h
  exact ⟨a, c, e, h.below hb⟩
theorem StringSRd.form {w : World} {v : Value} {ts : List ByteArray} (h : StringSRd w v ts) : ∃ a n c, v = .slice a n c := by
  obtain ⟨a, c, e, _⟩ := h
  exact ⟨a, _, c, e⟩
theorem StringSOwn.rd {S : List Nat} {w : World} {v : Value} {ts : List ByteArray} (h : StringSOwn S w v ts) : StringSRd w v ts := by
  rcases h with ⟨_, rfl, a, c, rfl⟩ | ⟨b, off, cap, _, rfl, hb, hc, _⟩
  · exact ⟨a, c, rfl, .inl rfl⟩
  · exact ⟨_, cap, rfl, .inr ⟨b, off, rfl, hb, hc⟩⟩
theorem StringSOwn.turn {S S' : List Nat} {w w' : World} {v : Value} {ts : List ByteArray} (h : StringSOwn S w v ts) (ht : Turn S' w w') (hS : ∀ k ∈ S, k ∉ S') : StringSOwn S w' v ts := by
  rcases h with h | ⟨b, off, cap, rfl, rfl, hb, hc, hf⟩
  · exact .inl h
  · have hn := hS b (by simp)
    exact .inr ⟨b, off, cap, rfl, rfl, Nat.lt_of_lt_of_le hb ht.size, hc.turn ht hb hn, fun i hi => (ht.frozen hb hn).trans (hf i hi)⟩
theorem StringSOwn.up {S : List Nat} {w w' : World} {v : Value} {ts : List ByteArray} (h : StringSOwn S w v ts) (hb : Below w.heap.size w w') : StringSOwn S w' v ts := h.turn (Turn.of_below (S := []) hb) (by simp)
theorem StringSOwn.lt {S : List Nat} {w : World} {v : Value} {ts : List ByteArray} (h : StringSOwn S w v ts) : ∀ k ∈ S, k < w.heap.size := by
  rcases h with ⟨rfl, _⟩ | ⟨b, off, cap, rfl, rfl, hb, _⟩
  · simp
  · simpa using hb
def SmallStringS (ts : List ByteArray) : Prop := ts.length ≤ 1048576 ∧ ∀ t ∈ ts, t.size ≤ 1048576
def StringSFit (ts : List ByteArray) : Prop := ts.length ≤ maxLen ∧ StrsOk ts
def nStringS (ts : List ByteArray) : Nat := ts.length
theorem nStringS_le {ts : List ByteArray} (h : SmallStringS ts) : nStringS ts ≤ 100000000 := by have := h.1; unfold nStringS; omega
theorem infoString : (Tryz.prog.info? 9).map (fun i => (i.zero, i.size, i.bytes)) = some (some (.string ByteArray.empty), 1, 16) := by kernel_rfl
theorem strRow_cell {w : World} {B g n : Nat} {xs : List Value} (h : w.ownsRow B 9 1 (.slice (some ⟨g, 0, none⟩) n n) n xs) (k : Nat) (hk : k < n) : ∃ v0, w.cell? ⟨g, k, none⟩ = some v0 ∧ w.frozen? ⟨g, k, none⟩ = false := by
  have hx := h.1
  refine ⟨xs[k]'(by omega), ?_, h.frozenAt _⟩
  rw [h.cellAt _ (by omega)]
  exact List.getElem?_eq_getElem _
set_option maxHeartbeats 1600000 in
theorem eqStringS_row (w : World) (b off cap b' off' cap' : Nat) (ts : List ByteArray) (hl : ts.length ≤ 1048576) (hc : StrsAt w b off ts) (hc' : StrsAt w b' off' ts) (hb : b < w.heap.size) (hb' : b' < w.heap.size) :
    Calls Tryz.prog 7 #[.slice (some ⟨b, off, none⟩) ts.length cap, .slice (some ⟨b', off', none⟩) ts.length cap'] w fun e w' => e = .returned (.bool true) ∧ Below w.heap.size w w' := by
  have HC := hide hc
  have HC' := hide hc'
  clear hc hc'
  go_enter Tryz.func7, Tryz.ntmps7
  go_wp2_with fail
  go_loopw [5] (fun i wr => ∃ (k : Nat), k ≤ ts.length ∧ i = .int .i64 k ∧ Hid (Below w.heap.size w wr)) (fun i _ => ts.length - (intOf i).toNat)
  case atStart => exact ⟨0, Nat.zero_le _, rfl, Below.refl _ _⟩
  case round =>
    obtain ⟨k, hk, rfl, HB⟩ := hrel
    by_cases hlt : k < ts.length
    · have c0 := ((unhide HB).cell (show b < w.heap.size from hb)).trans (unhide HC k hlt)
      have c1 := ((unhide HB).cell (show b' < w.heap.size from hb')).trans (unhide HC' k hlt)
      generalize ts[k] = t at c0 c1
      go_wp2_with fail
      go_quiet (fail)
      have HBD := hide ((unhide HB).trans ((belowN wr nq).mono (unhide HB).size))
      clear c0 c1
      go_wp2_with fail
      go_roundw
      case rel => exact ⟨k + 1, by omega, by go_num, HBD⟩
      case measure => simp [intOf]; omega
    · go_wp2_with fail
      go_ret
      exact ⟨rfl, unhide HB⟩
theorem eqStringS_none (w : World) (a a' : Option Addr) (cap cap' : Nat) : Calls Tryz.prog 7 #[.slice a 0 cap, .slice a' 0 cap'] w fun e w' => e = .returned (.bool true) ∧ Below w.heap.size w w' := by
  go_enter Tryz.func7, Tryz.ntmps7
  go_wp2
  refine wp_loop_rounds 1 ?_
  rw [rounds_succ]
  go_wp2
  go_ret
  exact ⟨rfl, Below.refl _ _⟩
theorem eqStringS_kit (ts : List ByteArray) (v v' : Value) (w : World) (hs : SmallStringS ts) (h : StringSRd w v ts) (h' : StringSRd w v' ts) :
    Calls Tryz.prog 7 #[v, v'] w fun e w' => e = .returned (.bool true) ∧ Below w.heap.size w w' := by
  obtain ⟨a, c, rfl, h⟩ := h
  obtain ⟨a', c', rfl, h'⟩ := h'
  rcases h with rfl | ⟨b, off, rfl, hb, hc⟩
  · exact eqStringS_none w a a' c c'
  · rcases h' with rfl | ⟨b', off', rfl, hb', hc'⟩
    · exact eqStringS_none w _ a' c c'
    · exact eqStringS_row w b off c b' off' c' ts hs.1 hc hc' hb hb'
/-- the marks from k on -/
def marksStringS (k : Nat) (ts : List ByteArray) : List ByteArray := (List.range ts.length).map fun j => mText ((k + j : Nat) : Int)
def mtStr (ts : List ByteArray) (k j : Nat) : List ByteArray := ((List.range j).map fun j => mText ((k + j : Nat) : Int)) ++ ts.drop j
theorem mtStr_len (ts : List ByteArray) (k j : Nat) (h : j ≤ ts.length) : (mtStr ts k j).length = ts.length := by simp [mtStr]; omega
theorem mtStr_step (ts : List ByteArray) (k j : Nat) (h : j < ts.length) : (mtStr ts k j).set j (mText ((k + j : Nat) : Int)) = mtStr ts k (j + 1) := by
  unfold mtStr
  rw [List.range_succ, List.map_append, List.set_append_right _ _ (by simp)]
  simp only [List.length_map, List.length_range, Nat.sub_self]
  rw [List.append_assoc]
  congr 1
  rw [List.drop_eq_getElem_cons h]
  rfl
theorem mtStr_all (ts : List ByteArray) (k : Nat) : mtStr ts k ts.length = marksStringS k ts := by simp [mtStr, marksStringS]
theorem marksStringS_len (k : Nat) (ts : List ByteArray) : (marksStringS k ts).length = ts.length := by simp [marksStringS]
theorem StrsAt.set {w : World} {b off : Nat} {ts : List ByteArray} (h : StrsAt w b off ts) (j : Nat) (hj : j < ts.length) (t : ByteArray) : StrsAt (w.setCell ⟨b, off + j, none⟩ (.string t)) b off (ts.set j t) := by
  intro i hi
  have hi' : i < ts.length := by simpa using hi
  by_cases e : i = j
  · subst e
    rw [List.getElem_set_self]
    exact World.cell?_setCell_same _ _ _ (h i hi')
  · rw [List.getElem_set_ne (fun h => e h.symm)]
    exact (World.cell?_setCell_other _ _ _ _ (by intro e'; have := congrArg Addr.off e'; simp only at this; omega)).trans (h i hi')
set_option maxHeartbeats 3200000 in
theorem markStringS_row (w : World) (b off cap : Nat) (ts : List ByteArray) (k : Nat) (hk : k ≤ 1000000000) (hl : ts.length ≤ 1048576) (hb : b < w.heap.size) (hc : StrsAt w b off ts) (hf : ∀ i, i < ts.length → w.frozen? ⟨b, off + i, none⟩ = false) :
    Calls Tryz.prog 8 #[.slice (some ⟨b, off, none⟩) ts.length cap, .int .i64 (k : Int)] w fun e w' => e = .returned (.int .i64 ((k + ts.length : Nat) : Int)) ∧ Hid (StrsAt w' b off (marksStringS k ts) ∧ Turn [b] w w' ∧ ∀ i, i < ts.length → w'.frozen? ⟨b, off + i, none⟩ = false) := by
  have HC := hide hc
  clear hc
  go_enter Tryz.func8, Tryz.ntmps8
  go_wp2_with fail
  go_loopw [1, 5] (fun kv i wr => ∃ (j : Nat) (xs : List ByteArray), j ≤ ts.length ∧ i = .int .i64 j ∧ kv = .int .i64 ((k + j : Nat) : Int) ∧ Hid (xs = mtStr ts k j) ∧ Hid (StrsAt wr b off xs) ∧ Hid (∀ i, i < ts.length → wr.frozen? ⟨b, off + i, none⟩ = false) ∧ Hid (Turn [b] w wr)) (fun _ i _ => ts.length - (intOf i).toNat)
  case atStart => exact ⟨0, _, Nat.zero_le _, rfl, rfl, rfl, HC, hide hf, Turn.refl _ _⟩
  case round =>
    obtain ⟨j, xs, hj, rfl, rfl, HXS, HV, HFZ, HT⟩ := hrel
    by_cases hlt : j < ts.length
    · have hxl : xs.length = ts.length := by rw [unhide HXS]; exact mtStr_len ts k j (by omega)
      have hjx : j < xs.length := by omega
      have hbr : b < wr.heap.size := Nat.lt_of_lt_of_le hb (unhide HT).size
      have HXE := hide (show xs.set j (mText ((k + j : Nat) : Int)) = mtStr ts k (j + 1) by rw [unhide HXS, ← mtStr_step ts k j hlt])
      have HM := hide (fun W => markText_any ((k + j : Nat) : Int) (by omega) W)
      have hK1 : (0 : Int) ≤ ((k + j : Nat) : Int) := by omega
      have hK2 : ((k + j : Nat) : Int) ≤ 10000000000 := by omega
      have HKE := hide (show ((k + j : Nat) : Int) + 1 = ((k + (j + 1) : Nat) : Int) by omega)
      have HCJ := hide (fun (X : World) (bx : Below wr.heap.size wr X) => show (∃ v0, X.cell? ⟨b, off + j, none⟩ = some v0) ∧ X.frozen? ⟨b, off + j, none⟩ = false from ⟨⟨_, (bx.cell (by exact hbr)).trans (unhide HV j hjx)⟩, (bx.frozen (by exact hbr)).trans (unhide HFZ j hlt)⟩)
      have HSET := hide (fun (X : World) (bx : Below wr.heap.size wr X) (t : ByteArray) => ((unhide HV).below bx hbr).set j hjx t)
      clear hxl
      generalize mText ((k + j : Nat) : Int) = mt at *
      generalize ((k + j : Nat) : Int) = K at *
      go_wp2_with fail
      refine (unhide HM _).mono ?_
      rintro e w1 ⟨rfl, b1⟩
      obtain ⟨⟨v0, c0⟩, f0⟩ := unhide HCJ w1 b1
      have R1 := hide (unhide HSET w1 b1 mt)
      rw [unhide HXE] at R1
      have T1 := hide (((unhide HT).trans (Turn.of_below b1)).setCell (g := b) (by simp) (off + j) (.string mt))
      have F1 := hide (show ∀ i, i < ts.length → (w1.setCell ⟨b, off + j, none⟩ (.string mt)).frozen? ⟨b, off + i, none⟩ = false from fun i hi => by
        rw [World.frozen?_setCell]
        exact (b1.frozen (by exact hbr)).trans (unhide HFZ i hi))
      clear b1
      go_wp2_with fail
      clear c0 f0
      go_roundw
      case rel => exact ⟨j + 1, _, by omega, by go_num, by rw [unhide HKE], hide rfl, R1, F1, T1⟩
      case measure => simp [intOf]; omega
    · have e : j = ts.length := by omega
      subst e
      have HP := hide (show StrsAt wr b off (marksStringS k ts) by rw [← mtStr_all, ← unhide HXS]; exact unhide HV)
      go_wp2_with fail
      go_ret
      exact ⟨rfl, hide ⟨unhide HP, unhide HT, unhide HFZ⟩⟩
theorem markStringS_none' (w : World) (a : Option Addr) (cap : Nat) (K : Int) : Calls Tryz.prog 8 #[.slice a 0 cap, .int .i64 K] w fun e w' => e = .returned (.int .i64 K) ∧ w' = w := by
  go_enter Tryz.func8, Tryz.ntmps8
  go_wp2
  refine wp_loop_rounds 1 ?_
  rw [rounds_succ]
  go_wp2
  go_ret
  exact ⟨rfl, rfl⟩
theorem markStringS_kit (S : List Nat) (ts : List ByteArray) (v : Value) (w : World) (k n : Nat) (K : Int) (hK : K = (k : Int)) (hn : nStringS ts = n) (hk : k ≤ 1000000000) (hs : SmallStringS ts) (h : StringSOwn S w v ts) :
    Calls Tryz.prog 8 #[v, .int .i64 K] w fun e w' => e = .returned (.int .i64 (K + (n : Int))) ∧ Hid (StringSOwn S w' v (marksStringS k ts) ∧ Turn S w w') := by
  subst hK hn
  have hl := hs.1
  rcases h with ⟨rfl, rfl, a, c, rfl⟩ | ⟨b, off, cap, rfl, rfl, hb, hc, hf⟩
  · refine (markStringS_none' w a c k).mono ?_
    rintro e w' ⟨rfl, rfl⟩
    exact ⟨by simp [nStringS], hide ⟨.inl ⟨rfl, rfl, a, c, rfl⟩, Turn.refl _ _⟩⟩
  · refine (markStringS_row w b off cap ts k hk hl hb hc hf).mono ?_
    rintro e w' ⟨rfl, P⟩
    have ht := (unhide P).2.1
    refine ⟨by rw [show ((k + ts.length : Nat) : Int) = (k : Int) + ((nStringS ts : Nat) : Int) by unfold nStringS; omega], hide ⟨.inr ⟨b, off, cap, rfl, by rw [marksStringS_len], Nat.lt_of_lt_of_le hb ht.size, (unhide P).1, by rw [marksStringS_len]; exact (unhide P).2.2⟩, ht⟩⟩
theorem cells_string : Tryz.prog.cellsOf 9 = 1 := by kernel_rfl
theorem openStringS {H : Type} {enc : TypeId × Value → H} {w : World} {base : Nat} {spare : Nat → Bool} {held : Bool} {a : Option Addr} {len cap : Nat} {d : DataW H} {p : List MemPlace}
    (h : DataW.Trod enc Tryz.prog w base spare held 22 (.slice a len cap) d p) :
    ∃ ts : List ByteArray, ts.length = len ∧ len ≤ maxLen ∧ StrsIn w a ts ∧ StrsOk ts := by
  obtain ⟨fuel, hf⟩ := h
  rcases open_slice Tryz.underlying22 hf with ⟨hcs, _⟩ | ⟨a', len', cap', m, n, D, Pl, hcs, hb, hl, hm, hmm, _, hx⟩
  · simp [Value.cells] at hcs
    obtain ⟨rfl, rfl, rfl⟩ := hcs
    exact ⟨[], rfl, by unfold maxLen; omega, .inl rfl, fun _ h => by cases h⟩
  · simp [Value.cells] at hcs
    obtain ⟨rfl, rfl, rfl⟩ := hcs
    have hlm : len ≤ m := by rw [hmm]; split <;> omega
    have each : ∀ i, i < len → ∃ q : ByteArray, w.cell? (a'.add i) = some (.string q) ∧ q.size ≤ maxLen := by
      intro i hi
      obtain ⟨cs', h1, h2⟩ := hx i (by omega)
      rw [cells_string] at h1
      obtain ⟨_, hlen, hcell⟩ := World.cells?_some h1
      match cs', hlen with
      | [v0], _ =>
        obtain ⟨n0, e0, _, hs0⟩ := DataW.trod_string Tryz.underlying9 h2
        simp at e0
        subst e0
        have c0 := hcell 0 (by omega)
        rw [Nat.mul_one] at c0
        exact ⟨n0, by simpa [Addr.add] using c0, hs0⟩
    have hin : Inhabited ByteArray := ⟨ByteArray.empty⟩
    obtain ⟨q, hq⟩ := choose_lt each
    refine ⟨(List.range len).map q, by simp, by omega, ?_, ?_⟩
    · by_cases h0 : len = 0
      · subst h0; exact .inl (by simp)
      · have hc0 := (hq 0 (by omega)).1
        obtain ⟨b, off, spot⟩ := a'
        have hspot : spot = none := by simpa [Addr.add] using World.cell?_spot hc0
        subst hspot
        refine .inr ⟨b, off, rfl, lt_of_cell0 (by simpa [Addr.add] using hc0), ?_⟩
        intro i hi
        have hi' : i < len := by simpa using hi
        obtain ⟨c0, _⟩ := hq i hi'
        simp only [List.getElem_map, List.getElem_range]
        have hadd : (⟨b, off, none⟩ : Addr).add i = ⟨b, off + i, none⟩ := by unfold Addr.add; split <;> simp_all
        rw [hadd] at c0
        exact c0
    · intro x hx
      simp at hx
      obtain ⟨i, hi, rfl⟩ := hx
      exact (hq i hi).2
end Go.Proofs.YtldgffkippejiaaGreatDoor
