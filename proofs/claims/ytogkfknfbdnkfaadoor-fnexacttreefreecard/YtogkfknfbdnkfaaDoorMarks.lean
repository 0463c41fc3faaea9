/-
  The laws' own marks: a text for a number, marks written over a list of texts, marks found again.
-/
import Derived.Test.YtogkfknfbdnkfaaDoorStrs
import Derived.Deep.RegionWith
import Derived.Deep.Slices
import Derived.Deep.QuietTactic
import Derived.BigQuiet
import Derived.ProofKit
import Derived.Lib.ItoaNum
import Derived.Deep.RegionHeld3
set_option linter.unusedVariables false
namespace Go.Proofs.YtogkfknfbdnkfaaDoor
open Go.RowKit Go.Maps Go.Deep

def mDig (m : Nat) : UInt8 := UInt8.ofNat (48 + m % 10)
theorem mDec_len (u : Nat) : ∀ m : Nat, u < 10 ^ (m + 1) → (Lib.decDigits u).length ≤ m + 1 := by
  intro m
  induction m generalizing u with
  | zero =>
    intro h
    rw [Lib.decDigits, dif_pos (by simpa using h)]
    simp
  | succ m ih =>
    intro h
    rw [Lib.decDigits]
    split
    · simp
    · have := ih (u / 10) (by rw [Nat.pow_succ] at h; omega)
      simp; omega
theorem mDec_step (m : Nat) (h : ¬ m < 10) (out : ByteArray) : (⟨(Lib.decDigits m).toArray⟩ : ByteArray) ++ out = ⟨(Lib.decDigits (m / 10)).toArray⟩ ++ (⟨#[mDig m]⟩ ++ out) := by
  rw [Lib.decDigits, dif_neg h]
  apply ByteArray.ext
  simp [mDig]
theorem mDec_last (m : Nat) (h : m < 10) : (⟨(Lib.decDigits m).toArray⟩ : ByteArray) = ⟨#[mDig m]⟩ := by
  rw [Lib.decDigits, dif_pos h, mDig, Nat.mod_eq_of_lt h]
/-- what is still to be written, ahead of what is written -/
def MarkLeft (N m : Nat) (out : ByteArray) : Prop := if m = 0 then out = ⟨(Lib.decDigits N).toArray⟩ else (⟨(Lib.decDigits m).toArray⟩ : ByteArray) ++ out = ⟨(Lib.decDigits N).toArray⟩
theorem MarkLeft.step {N m : Nat} {out : ByteArray} (h : MarkLeft N m out) (hm : m ≠ 0) : MarkLeft N (m / 10) (⟨#[mDig m]⟩ ++ out) := by
  unfold MarkLeft at h ⊢
  rw [if_neg hm] at h
  by_cases h10 : m < 10
  · rw [if_pos (by omega), ← h, mDec_last m h10]
  · rw [if_neg (by omega), ← mDec_step m h10]; exact h
theorem MarkLeft.size {N m : Nat} {out : ByteArray} (h : MarkLeft N m out) (hN : N ≤ 999999999999999999) : out.size ≤ 18 := by
  have hl := mDec_len N 17 (by omega)
  have sl : ∀ l : List UInt8, (⟨l.toArray⟩ : ByteArray).size = l.length := fun l => by simp [ByteArray.size]
  unfold MarkLeft at h
  split at h
  · rw [h, sl]; omega
  · have := congrArg ByteArray.size h
    have e1 := sl (Lib.decDigits N)
    rw [show ∀ a b : ByteArray, (a ++ b).size = a.size + b.size from fun a b => by simp] at this
    omega
/-- the mark of a number -/
def mText (k : Int) : ByteArray := ⟨#[109]⟩ ++ ⟨(Lib.decDigits k.toNat).toArray⟩
theorem mText_zero (k : Int) (h : k ≤ 0) : mText k = ⟨#[109, 48]⟩ := by
  have : k.toNat = 0 := by omega
  unfold mText
  rw [this, mDec_last 0 (by omega)]
  rfl

set_option maxRecDepth 20000 in
set_option maxHeartbeats 1600000 in
theorem markText_any (n : Int) (h1 : n ≤ 999999999999999999) (w : World) : Calls Tryd.prog 20 #[.int .i64 n] w fun e w' => e = .returned (.string (mText n)) ∧ Below w.heap.size w w' := by
  by_cases h0 : n ≤ 0
  · rw [mText_zero n h0]
    go_enter Tryd.func20, Tryd.ntmps20
    go_wp2
    go_ret
    exact ⟨rfl, Below.refl _ _⟩
  · obtain ⟨N, rfl⟩ := Int.eq_ofNat_of_zero_le (show 0 ≤ n by omega)
    have hN : N ≤ 999999999999999999 := by omega
    have hz : N ≠ 0 := by omega
    clear h1
    go_enter Tryd.func20, Tryd.ntmps20
    go_wp2_with fail
    go_loopw [0, 3] (fun nv ov wr => ∃ (m : Nat) (out : ByteArray), m ≤ N ∧ nv = .int .i64 m ∧ ov = .string out ∧ Hid (MarkLeft N m out) ∧ Below w.heap.size w wr) (fun nv _ _ => (intOf nv).toNat)
    case atStart => exact ⟨N, _, Nat.le_refl _, rfl, rfl, hide (by unfold MarkLeft; rw [if_neg hz]; apply ByteArray.ext; simp), Below.refl _ _⟩
    case round =>
      obtain ⟨m, out, hmN, rfl, rfl, hL, hbel⟩ := hrel
      by_cases hm : m = 0
      · subst hm
        have hout := hide (show (⟨#[109]⟩ : ByteArray) ++ out = mText (N : Int) by have := unhide hL; unfold MarkLeft at this; rw [if_pos rfl] at this; rw [this]; rfl)
        have hos : (out.size : Int) ≤ 18 := by have := (unhide hL).size hN; omega
        go_wp2_with fail
        go_ret
        exact ⟨by rw [← unhide hout]; rfl, hbel⟩
      · have hm' : ¬ (m : Int) ≤ 0 := by omega
        have ht : Int.tmod (m : Int) 10 = ((m % 10 : Nat) : Int) := by rw [Int.tmod_eq_emod_of_nonneg (by omega)]; omega
        have hq : Int.tdiv (m : Int) 10 = ((m / 10 : Nat) : Int) := by rw [Int.tdiv_eq_ediv_of_nonneg (by omega)]; omega
        have hd : ¬ ((m % 10 : Nat) : Int) < 0 := by omega
        have HS := hide ((unhide hL).step hm)
        have hos := (unhide hL).size hN
        have hos' : (out.size : Int) ≤ 18 := by omega
        have hcv : (convert 56 9 (.slice (some ⟨wr.heap.size, 0, none⟩) 1 1)).run Tryd.prog (wr.alloc (.cells #[.int .u8 (48 + (m : Int) % 10)] 5)) = .ok (.string (strOfNums [48 + (m : Int) % 10])) (wr.alloc (.cells #[.int .u8 (48 + (m : Int) % 10)] 5)) :=
          run_convert_bytes_arg _ 56 5 Tryd.underlying56 Tryd.underlying5 wr.heap.size 0 1 1 [48 + (m : Int) % 10] rfl (fun i hi => by
            obtain rfl : i = 0 := by omega
            exact World.cell?_alloc_at _ _ _ _ rfl) 9 Tryd.underlying9
        have hstr : strOfNums [48 + (m : Int) % 10] = ⟨#[mDig m]⟩ := by
          have e : (48 + (m : Int) % 10).toNat = 48 + m % 10 := by omega
          simp [strOfNums, e, mDig]
        rw [hstr] at hcv
        have hb' := hbel.alloc hbel.size (.cells #[.int .u8 (48 + (m : Int) % 10)] 5)
        clear hstr
        go_wp2_with fail
        go_roundw
        case rel => exact ⟨m / 10, _, by omega, by go_num, rfl, HS, hb'⟩
        case measure => simp [intOf]; omega

/-- the marks from k on -/
def marks (k : Int) (n : Nat) : List ByteArray := (List.range n).map fun (j : Nat) => mText (k + (j : Int))
theorem marks_len (k : Int) (n : Nat) : (marks k n).length = n := by simp [marks]
theorem marks_get (k : Int) (n j : Nat) (h : j < (marks k n).length) : (marks k n)[j] = mText (k + (j : Int)) := by simp [marks]
/-- the first j texts marked, the others as they were -/
def markTo (ts : List ByteArray) (k : Int) (j : Nat) : List ByteArray := marks k j ++ ts.drop j
theorem markTo_len (ts : List ByteArray) (k : Int) (j : Nat) (h : j ≤ ts.length) : (markTo ts k j).length = ts.length := by simp [markTo, marks_len]; omega
theorem markTo_step (ts : List ByteArray) (k : Int) (j : Nat) (h : j < ts.length) : (markTo ts k j).set j (mText (k + (j : Int))) = markTo ts k (j + 1) := by
  unfold markTo marks
  rw [List.range_succ, List.map_append, List.set_append_right _ _ (by simp)]
  simp only [List.length_map, List.length_range, Nat.sub_self, List.append_assoc]
  rw [List.drop_eq_getElem_cons h, List.set_cons_zero]
  rfl
theorem markTo_all (ts : List ByteArray) (k : Int) : markTo ts k ts.length = marks k ts.length := by simp [markTo]
theorem map_set (ts : List ByteArray) (j : Nat) (s : ByteArray) : (ts.map Value.string).set j (.string s) = (ts.set j s).map .string := by rw [List.map_set]

set_option maxHeartbeats 1600000 in
theorem markStringS_any (w : World) (base g cap : Nat) (ts : List ByteArray) (k : Int) (hk0 : 0 ≤ k) (hk : k ≤ 1048576) (hl : ts.length ≤ 1048576) (hrow : StrRow base w (.slice (some ⟨g, 0, none⟩) ts.length cap) ts) :
    Calls Tryd.prog 11 #[.slice (some ⟨g, 0, none⟩) ts.length cap, .int .i64 k] w fun e w' => e = .returned (.int .i64 (k + (ts.length : Int))) ∧ Hid (StrRow base w' (.slice (some ⟨g, 0, none⟩) ts.length cap) (marks k ts.length) ∧ w.grownBy w' (some g)) := by
  have HR := hide hrow
  have hg : g < w.heap.size := by
    rcases hrow.2 with ⟨h, _⟩ | ⟨g', cap', cur, h, _, hg, _⟩
    · cases h
    · simp only [Value.slice.injEq, Option.some.injEq, Addr.mk.injEq, and_true, true_and] at h
      obtain ⟨rfl, _⟩ := h
      exact (Array.getElem?_eq_some_iff.1 hg).1
  clear hrow
  go_enter Tryd.func11, Tryd.ntmps11
  go_wp2_with fail
  go_loopw [1, 5] (fun kv i wr => ∃ j : Nat, j ≤ ts.length ∧ i = .int .i64 j ∧ kv = .int .i64 (k + (j : Int)) ∧ g < wr.heap.size ∧ Hid (wr.ownsRow base 9 1 (.slice (some ⟨g, 0, none⟩) ts.length cap) ts.length ((markTo ts k j).map .string)) ∧ Hid (w.grownBy wr (some g))) (fun _ i _ => ts.length - (intOf i).toNat)
  case atStart => exact ⟨0, Nat.zero_le _, rfl, by simp, hg, hide (show w.ownsRow base 9 1 (.slice (some ⟨g, 0, none⟩) ts.length cap) ts.length ((markTo ts k 0).map .string) from unhide HR), hide (grown_refl _ _)⟩
  case round =>
    obtain ⟨j, hj, rfl, rfl, hgr, HO, HG⟩ := hrel
    by_cases hlt : j < ts.length
    · have hc0 := hide (fun (w2 : World) (hb : Below wr.heap.size wr w2) => show ∃ v0, w2.cell? ⟨g, j, none⟩ = some v0 ∧ w2.frozen? ⟨g, j, none⟩ = false from by
        have h := ownsRow_below (unhide HO) hb hgr
        have hx := h.1
        refine ⟨((markTo ts k j).map Value.string)[j]'(by omega), ?_, h.frozenAt _⟩
        rw [h.cellAt _ (by omega)]
        exact List.getElem?_eq_getElem _)
      have hkj : k + (j : Int) ≤ 999999999999999999 := by omega
      go_wp2_with (first
        | (go_at_call 20; refine (markText_any _ hkj _).mono ?_; rintro e w2 ⟨rfl, hb2⟩; obtain ⟨v0, d0, f0⟩ := unhide hc0 w2 hb2; have HB2 := hide hb2; clear hb2)
        | fail)
      have HO2 := hide (show (w2.setCell ⟨g, j, none⟩ (.string (mText (k + (j : Int))))).ownsRow base 9 1 (.slice (some ⟨g, 0, none⟩) ts.length cap) ts.length ((markTo ts k (j + 1)).map .string) by
        rw [← markTo_step ts k j hlt, ← map_set]
        exact ((ownsRow_below (unhide HO) (unhide HB2) hgr).stored j _).1)
      have HG2 := hide (show w.grownBy (w2.setCell ⟨g, j, none⟩ (.string (mText (k + (j : Int))))) (some g) from by
        have h1 := unhide HG
        have h2 := unhide HB2
        exact ⟨h2.os.trans h1.os, h2.tape.trans h1.tape, h2.output.trans h1.output, by have := h1.size; have := h2.size; simp; omega, fun i hi hne => by
          rw [Below.heap_setCell _ ⟨g, j, none⟩ _ i (fun e => hne (by rw [e]))]
          exact (h2.block i (Nat.lt_of_lt_of_le hi h1.size)).trans (h1.block i hi hne)⟩)
      have hsz2 : g < w2.heap.size := by have := (unhide HB2).size; omega
      clear d0 f0
      go_roundw
      case rel => exact ⟨j + 1, by omega, by go_num, by congr 1; omega, by simpa using hsz2, HO2, HG2⟩
      case measure => simp [intOf]; omega
    · have e : j = ts.length := by omega
      subst e
      have HP := hide (show StrRow base wr (.slice (some ⟨g, 0, none⟩) ts.length cap) (marks k ts.length) by
        have h := unhide HO
        rw [markTo_all] at h
        unfold StrRow
        rw [marks_len]
        exact h)
      go_wp2_with fail
      go_ret
      exact ⟨rfl, hide ⟨unhide HP, unhide HG⟩⟩

set_option maxHeartbeats 800000 in
theorem markStringS_none (w : World) (a : Option Addr) (cap : Nat) (k : Int) : Calls Tryd.prog 11 #[.slice a 0 cap, .int .i64 k] w fun e w' => e = .returned (.int .i64 k) ∧ w' = w := by
  go_enter Tryd.func11, Tryd.ntmps11
  go_wp2
  refine wp_loop_rounds 1 ?_
  rw [rounds_succ]
  go_wp2
  go_ret
  exact ⟨rfl, rfl⟩

set_option maxHeartbeats 1600000 in
theorem heldStringS_any (w : World) (g cap n : Nat) (k : Int) (hk0 : 0 ≤ k) (hk : k ≤ 1048576) (hl : n ≤ 1048576) (hg : g < w.heap.size) (hc : ∀ j, j < n → w.cell? ⟨g, j, none⟩ = some (.string (mText (k + (j : Int))))) :
    Calls Tryd.prog 12 #[.slice (some ⟨g, 0, none⟩) n cap, .int .i64 k] w fun e w' => e = .returned (.int .i64 (k + (n : Int))) ∧ Below w.heap.size w w' := by
  have HC := hide hc
  clear hc
  go_enter Tryd.func12, Tryd.ntmps12
  go_wp2_with fail
  go_loopw [1, 5] (fun kv i wr => ∃ j : Nat, j ≤ n ∧ i = .int .i64 j ∧ kv = .int .i64 (k + (j : Int)) ∧ Hid (Below w.heap.size w wr)) (fun _ i _ => n - (intOf i).toNat)
  case atStart => exact ⟨0, Nat.zero_le _, rfl, by simp, hide (Below.refl _ _)⟩
  case round =>
    obtain ⟨j, hj, rfl, rfl, HB⟩ := hrel
    by_cases hlt : j < n
    · have hkj : k + (j : Int) ≤ 999999999999999999 := by omega
      have c0 : wr.cell? ⟨g, j, none⟩ = some (.string (mText (k + (j : Int)))) := ((unhide HB).cell (by exact hg)).trans (unhide HC j hlt)
      have hmt := fun w => markText_any (k + (j : Int)) hkj w
      generalize mText (k + (j : Int)) = s at c0 hmt
      have HM := hide hmt
      have HBD := hide (unhide HB).drew
      have KEEP : ∀ w', Below w.heap.size w w' → w'.cell? ⟨g, j, none⟩ = some (.string s) ∧ Hid (Below w.heap.size w w') := fun w' h => ⟨(h.cell (by exact hg)).trans (((unhide HB).cell (by exact hg)).symm.trans c0), hide h⟩
      have HKK := hide KEEP
      clear hmt KEEP
      go_wp2_with fail
      go_region_held3 (fun w' => w'.cell? ⟨g, j, none⟩ = some (.string s) ∧ Hid (Below w.heap.size w w')) ((refine unhide HKK _ ?_; exact unhide (by assumption)))
        (first | (go_at_call 20; refine (unhide HM _).mono ?_; rintro e w2 ⟨rfl, hb2⟩; have HB2 := hide ((unhide HBD).trans (hb2.mono (unhide HBD).size)); clear hb2))
      all_goals
        clear c0
        go_wp2_with fail
        go_roundw
        case rel => exact ⟨j + 1, by omega, by go_num, by congr 1; omega, HB2⟩
        case measure => simp [intOf]; omega
    · have e : j = n := by omega
      subst e
      go_wp2_with fail
      go_ret
      exact ⟨rfl, unhide HB⟩

theorem heldStringS_none (w : World) (a : Option Addr) (cap : Nat) (k : Int) : Calls Tryd.prog 12 #[.slice a 0 cap, .int .i64 k] w fun e w' => e = .returned (.int .i64 k) ∧ w' = w := by
  go_enter Tryd.func12, Tryd.ntmps12
  go_wp2
  refine wp_loop_rounds 1 ?_
  rw [rounds_succ]
  go_wp2
  go_ret
  exact ⟨rfl, rfl⟩

set_option maxHeartbeats 1600000 in
theorem eqStringS_row (w : World) (g cap g' cap' : Nat) (ts : List ByteArray) (hl : ts.length ≤ 1048576) (hg : g < w.heap.size) (hg' : g' < w.heap.size) (hc : ∀ j (h : j < ts.length), w.cell? ⟨g, j, none⟩ = some (.string ts[j])) (hc' : ∀ j (h : j < ts.length), w.cell? ⟨g', j, none⟩ = some (.string ts[j])) :
    Calls Tryd.prog 8 #[.slice (some ⟨g, 0, none⟩) ts.length cap, .slice (some ⟨g', 0, none⟩) ts.length cap'] w fun e w' => e = .returned (.bool true) ∧ Below w.heap.size w w' := by
  have HC := hide hc
  have HC' := hide hc'
  clear hc hc'
  go_enter Tryd.func8, Tryd.ntmps8
  go_wp2_with fail
  go_loopw [5] (fun i wr => ∃ j : Nat, j ≤ ts.length ∧ i = .int .i64 j ∧ Hid (Below w.heap.size w wr)) (fun i _ => ts.length - (intOf i).toNat)
  case atStart => exact ⟨0, Nat.zero_le _, rfl, hide (Below.refl _ _)⟩
  case round =>
    obtain ⟨j, hj, rfl, HB⟩ := hrel
    by_cases hlt : j < ts.length
    · have c0 := ((unhide HB).drew.cell (show g < w.heap.size from hg)).trans (unhide HC j hlt)
      have c1 := ((unhide HB).drew.cell (show g' < w.heap.size from hg')).trans (unhide HC' j hlt)
      generalize ts[j] = s at c0 c1
      have HBD := hide (unhide HB).drew
      go_wp2_with fail
      go_region_held3 (fun w' => w' = wr.drew) (rfl) (fail)
      clear c0 c1
      go_wp2_with fail
      go_roundw
      case rel => exact ⟨j + 1, by omega, by go_num, HBD⟩
      case measure => simp [intOf]; omega
    · go_wp2_with fail
      go_ret
      exact ⟨rfl, unhide HB⟩
theorem eqStringS_none (w : World) (a a' : Option Addr) (cap cap' : Nat) : Calls Tryd.prog 8 #[.slice a 0 cap, .slice a' 0 cap'] w fun e w' => e = .returned (.bool true) ∧ Below w.heap.size w w' := by
  go_enter Tryd.func8, Tryd.ntmps8
  go_wp2
  refine wp_loop_rounds 1 ?_
  rw [rounds_succ]
  go_wp2
  go_ret
  exact ⟨rfl, Below.refl _ _⟩
theorem eqStringS_same (w : World) (v v' : Value) (ts : List ByteArray) (hl : ts.length ≤ 1048576) (h : StrAt w v ts) (h' : StrAt w v' ts) :
    Calls Tryd.prog 8 #[v, v'] w fun e w' => e = .returned (.bool true) ∧ Below w.heap.size w w' := by
  obtain ⟨a, cap, rfl, h⟩ := h
  obtain ⟨a', cap', rfl, h'⟩ := h'
  by_cases h0 : ts = []
  · subst h0; exact eqStringS_none w a a' cap cap'
  · obtain ⟨g, rfl, hg, hc⟩ := h.resolve_left h0
    obtain ⟨g', rfl, hg', hc'⟩ := h'.resolve_left h0
    exact eqStringS_row w g cap g' cap' ts hl hg hg' hc hc'
end Go.Proofs.YtogkfknfbdnkfaaDoor
