/-
  Texts in order, byte by byte.
-/
/-
  Stamps as values: which may be.
-/
/-
  Two stamps side by side: a pair of marks for each source that one of both has.
-/
/-
  The laws' own marks: a text for a number.
-/
import Derived.Test.YtpiapgjiaeddjaaMerged1
import Derived.Laws.Cover1
import Derived.Test.YtpiapgjiaeddjaaMarkRows
import Derived.Test.YtpiapgjiaeddjaaPlain
import Derived.Deep.RegionWith
import Derived.Deep.Slices
import Derived.Deep.QuietTactic
import Derived.BigQuiet
import Derived.ProofKit
import Derived.Lib.ItoaNum
import Derived.Deep.RegionHeld3
set_option linter.unusedVariables false
namespace Go.Proofs.Ytpiapgjiaeddjaa
open Go.RowKit

def lessS (a b : ByteArray) : Bool := Op.bytesLess a.toList b.toList
theorem less_other (x y : List UInt8) : (Op.bytesLess x y || x == y) = !Op.bytesLess y x := by
  induction x generalizing y with
  | nil => cases y <;> simp [Op.bytesLess]
  | cons a x ih =>
    cases y with
    | nil => simp [Op.bytesLess]
    | cons b y =>
      simp only [Op.bytesLess, List.cons_beq_cons]
      have := ih y
      by_cases h1 : a < b
      · have h2 : ¬ b < a := by simp only [UInt8.lt_iff_toNat_lt] at *; omega
        have h3 : (b == a) = false := by rw [beq_eq_false_iff_ne]; intro e; subst e; exact h2 h1
        simp [h1, h2, h3]
      · by_cases h2 : b < a
        · have h3 : (a == b) = false := by rw [beq_eq_false_iff_ne]; intro e; subst e; exact h1 h2
          simp [h1, h2, h3]
        · have h3 : a = b := by
            rw [← UInt8.toNat_inj]
            simp only [UInt8.lt_iff_toNat_lt] at *
            omega
          subst h3
          simp [h1]
          exact this
theorem geq_leq (a b : ByteArray) : (Op.bytesLess a.toList b.toList || a.toList == b.toList) = !lessS b a := less_other _ _
theorem str_same (a b : ByteArray) : (a.toList == b.toList) = decide (a = b) := by
  rw [ByteArray.toList_eq, ByteArray.toList_eq, Bool.eq_iff_iff]
  simp
  constructor
  · intro h; cases a; cases b; simp_all
  · rintro rfl; rfl
end Go.Proofs.Ytpiapgjiaeddjaa

set_option linter.unusedVariables false
namespace Go.Proofs.Ytpiapgjiaeddjaa
open Go.RowKit Go.Maps Go.Deep

def markB (x : MarkV) : Bool := plainB x.a0 && decide (1 ≤ x.a1) && decide (x.a1 ≤ 1099511627776)
/-- the first k are versions, and each stands behind the one ahead of it -/
def MStampTo (ns : List MarkV) (k : Nat) : Prop := ∀ i (h : i < ns.length), i < k → markB ns[i] = true ∧ (0 < i → lessS (ns[i - 1]'(by omega)).a0 ns[i].a0 = true)
instance (ns : List MarkV) (k : Nat) : Decidable (MStampTo ns k) := by unfold MStampTo; infer_instance
def mstampB (ns : List MarkV) : Bool := decide (ns.length ≤ 12) && decide (MStampTo ns ns.length)
theorem mstamp_zero (ns : List MarkV) : MStampTo ns 0 := fun i h hi => absurd hi (Nat.not_lt_zero _)
theorem mstamp_bad {ns : List MarkV} {k : Nat} (hk : k < ns.length) (h : markB ns[k] = false) : mstampB ns = false := by
  have : ¬ MStampTo ns ns.length := fun g => by
    have := (g k hk hk).1
    rw [h] at this
    cases this
  simp [mstampB, this]
theorem mstamp_down {ns : List MarkV} {k : Nat} (hk : k + 1 < ns.length) (h : lessS ns[k].a0 ns[k + 1].a0 = false) : mstampB ns = false := by
  have : ¬ MStampTo ns ns.length := fun g => by
    have := (g (k + 1) hk hk).2 (by omega)
    simp only [Nat.add_sub_cancel] at this
    rw [h] at this
    cases this
  simp [mstampB, this]
theorem mstamp_step0 {ns : List MarkV} (hk : 0 < ns.length) (h : markB ns[0] = true) : MStampTo ns 1 := by
  intro i hi hik
  obtain rfl : i = 0 := by omega
  exact ⟨h, fun h => absurd h (Nat.lt_irrefl _)⟩
theorem mstamp_step {ns : List MarkV} {k : Nat} (hk : k + 1 < ns.length) (hg : MStampTo ns (k + 1)) (h : markB ns[k + 1] = true) (hl : lessS ns[k].a0 ns[k + 1].a0 = true) : MStampTo ns (k + 2) := by
  intro i hi hik
  by_cases e : i = k + 1
  · subst e
    refine ⟨h, fun _ => ?_⟩
    simpa using hl
  · exact hg i hi (by omega)
theorem mstamp_good {ns : List MarkV} (h12 : ns.length ≤ 12) (h : MStampTo ns ns.length) : mstampB ns = true := by simp [mstampB, h12, h]
theorem mstamp_long {ns : List MarkV} (h12 : ¬ ns.length ≤ 12) : mstampB ns = false := by simp [mstampB, h12]
/-- what a version's test comes to -/
theorem mark_cases (x : MarkV) : (markB x = true ∧ plainB x.a0 = true ∧ ¬ x.a1 < 1 ∧ ¬ 1099511627776 < x.a1) ∨ (markB x = false ∧ (plainB x.a0 = false ∨ (plainB x.a0 = true ∧ x.a1 < 1) ∨ (plainB x.a0 = true ∧ ¬ x.a1 < 1 ∧ 1099511627776 < x.a1))) := by
  unfold markB
  cases plainB x.a0
  · right; simp
  · by_cases h1 : x.a1 < 1
    · right; simp; omega
    · by_cases h2 : 1099511627776 < x.a1
      · right; simp; omega
      · left; simp; omega
end Go.Proofs.Ytpiapgjiaeddjaa

set_option linter.unusedVariables false
namespace Go.Proofs.Ytpiapgjiaeddjaa
open Go.RowKit Go.Maps Go.Deep

/-- the marks of both for each source, the version 0 where one has none -/
def sideL : List MarkV → List MarkV → List (MarkV × MarkV)
  | [], [] => []
  | x :: xs, [] => (x, ⟨x.a0, 0⟩) :: sideL xs []
  | [], y :: ys => (⟨y.a0, 0⟩, y) :: sideL [] ys
  | x :: xs, y :: ys =>
    if lessS x.a0 y.a0 then (x, ⟨x.a0, 0⟩) :: sideL xs (y :: ys)
    else if lessS y.a0 x.a0 then (⟨y.a0, 0⟩, y) :: sideL (x :: xs) ys
    else (x, y) :: sideL xs ys
termination_by xs ys => xs.length + ys.length
theorem sideL_len (xa xb : List MarkV) : (sideL xa xb).length ≤ xa.length + xb.length := by
  fun_induction sideL xa xb <;> simp_all <;> omega
/-- what has come, where so many of both are through -/
def SideTo (xa xb : List MarkV) (i j : Nat) (pre : List (MarkV × MarkV)) : Prop := pre ++ sideL (xa.drop i) (xb.drop j) = sideL xa xb
theorem side_start (xa xb : List MarkV) : SideTo xa xb 0 0 [] := by simp [SideTo]
theorem side_end {xa xb : List MarkV} {pre : List (MarkV × MarkV)} (h : SideTo xa xb xa.length xb.length pre) : pre = sideL xa xb := by
  unfold SideTo at h
  simpa [sideL] using h
theorem side_pre {xa xb : List MarkV} {i j : Nat} {pre : List (MarkV × MarkV)} (h : SideTo xa xb i j pre) : pre <+: sideL xa xb := ⟨_, h⟩
theorem side_lt {xa xb : List MarkV} {pre : List (MarkV × MarkV)} {x : MarkV × MarkV} {i' j' : Nat} (h : SideTo xa xb i' j' (pre ++ [x])) : pre.length < xa.length + xb.length := by
  have h1 := congrArg List.length h
  have h2 := sideL_len xa xb
  simp at h1
  omega
theorem side_has {xa xb : List MarkV} {pre : List (MarkV × MarkV)} {x : MarkV × MarkV} {i j : Nat} (h : SideTo xa xb i j (pre ++ [x])) : x ∈ sideL xa xb := by
  unfold SideTo at h
  rw [← h]
  simp
theorem side_a {xa xb : List MarkV} {i : Nat} {pre : List (MarkV × MarkV)} (h : SideTo xa xb i xb.length pre) (hi : i < xa.length) : SideTo xa xb (i + 1) xb.length (pre ++ [(xa[i], ⟨xa[i].a0, 0⟩)]) := by
  unfold SideTo at *
  rw [List.drop_eq_getElem_cons hi] at h
  simp only [List.drop_length, sideL] at h ⊢
  simpa using h
theorem side_b {xa xb : List MarkV} {j : Nat} {pre : List (MarkV × MarkV)} (h : SideTo xa xb xa.length j pre) (hj : j < xb.length) : SideTo xa xb xa.length (j + 1) (pre ++ [(⟨xb[j].a0, 0⟩, xb[j])]) := by
  unfold SideTo at *
  rw [List.drop_eq_getElem_cons hj] at h
  simp only [List.drop_length, sideL] at h ⊢
  simpa using h
theorem side_lo {xa xb : List MarkV} {i j : Nat} {pre : List (MarkV × MarkV)} (h : SideTo xa xb i j pre) (hi : i < xa.length) (hj : j < xb.length) (hl : lessS xa[i].a0 xb[j].a0 = true) : SideTo xa xb (i + 1) j (pre ++ [(xa[i], ⟨xa[i].a0, 0⟩)]) := by
  unfold SideTo at *
  rw [List.drop_eq_getElem_cons hi, List.drop_eq_getElem_cons hj, sideL, if_pos hl] at h
  rw [List.drop_eq_getElem_cons hj]
  simpa using h
theorem side_hi {xa xb : List MarkV} {i j : Nat} {pre : List (MarkV × MarkV)} (h : SideTo xa xb i j pre) (hi : i < xa.length) (hj : j < xb.length) (hl : lessS xa[i].a0 xb[j].a0 = false) (hr : lessS xb[j].a0 xa[i].a0 = true) : SideTo xa xb i (j + 1) (pre ++ [(⟨xb[j].a0, 0⟩, xb[j])]) := by
  unfold SideTo at *
  rw [List.drop_eq_getElem_cons hi, List.drop_eq_getElem_cons hj, sideL, if_neg (by simp [hl]), if_pos hr] at h
  rw [List.drop_eq_getElem_cons hi]
  simpa using h
theorem side_eq {xa xb : List MarkV} {i j : Nat} {pre : List (MarkV × MarkV)} (h : SideTo xa xb i j pre) (hi : i < xa.length) (hj : j < xb.length) (hl : lessS xa[i].a0 xb[j].a0 = false) (hr : lessS xb[j].a0 xa[i].a0 = false) : SideTo xa xb (i + 1) (j + 1) (pre ++ [(xa[i], xb[j])]) := by
  unfold SideTo at *
  rw [List.drop_eq_getElem_cons hi, List.drop_eq_getElem_cons hj, sideL, if_neg (by simp [hl]), if_neg (by simp [hr])] at h
  simpa using h
end Go.Proofs.Ytpiapgjiaeddjaa

set_option linter.unusedVariables false
namespace Go.Proofs.Ytpiapgjiaeddjaa
open Go.RowKit Go.Maps Go.Deep

def mDig (m : Nat) : UInt8 := UInt8.ofNat (48 + m % 10)
theorem mDec_len (u : Nat) : ∀ m : Nat, u < 10 ^ (m + 1) → (Lib.decDigits u).length ≤ m + 1 := by
  intro m
  induction m generalizing u with
  | zero =>
    intro h
    rw [Lib.decDigits, dif_pos (by simpa using h)]
    simp
  | succ m ih =>
    intro h
    rw [Lib.decDigits]
    split
    · simp
    · have := ih (u / 10) (by rw [Nat.pow_succ] at h; omega)
      simp; omega
theorem mDec_step (m : Nat) (h : ¬ m < 10) (out : ByteArray) : (⟨(Lib.decDigits m).toArray⟩ : ByteArray) ++ out = ⟨(Lib.decDigits (m / 10)).toArray⟩ ++ (⟨#[mDig m]⟩ ++ out) := by
  rw [Lib.decDigits, dif_neg h]
  apply ByteArray.ext
  simp [mDig]
theorem mDec_last (m : Nat) (h : m < 10) : (⟨(Lib.decDigits m).toArray⟩ : ByteArray) = ⟨#[mDig m]⟩ := by
  rw [Lib.decDigits, dif_pos h, mDig, Nat.mod_eq_of_lt h]
/-- what is still to be written, ahead of what is written -/
def MarkLeft (N m : Nat) (out : ByteArray) : Prop := if m = 0 then out = ⟨(Lib.decDigits N).toArray⟩ else (⟨(Lib.decDigits m).toArray⟩ : ByteArray) ++ out = ⟨(Lib.decDigits N).toArray⟩
theorem MarkLeft.step {N m : Nat} {out : ByteArray} (h : MarkLeft N m out) (hm : m ≠ 0) : MarkLeft N (m / 10) (⟨#[mDig m]⟩ ++ out) := by
  unfold MarkLeft at h ⊢
  rw [if_neg hm] at h
  by_cases h10 : m < 10
  · rw [if_pos (by omega), ← h, mDec_last m h10]
  · rw [if_neg (by omega), ← mDec_step m h10]; exact h
theorem MarkLeft.size {N m : Nat} {out : ByteArray} (h : MarkLeft N m out) (hN : N ≤ 999999999999999999) : out.size ≤ 18 := by
  have hl := mDec_len N 17 (by omega)
  have sl : ∀ l : List UInt8, (⟨l.toArray⟩ : ByteArray).size = l.length := fun l => by simp [ByteArray.size]
  unfold MarkLeft at h
  split at h
  · rw [h, sl]; omega
  · have := congrArg ByteArray.size h
    have e1 := sl (Lib.decDigits N)
    rw [show ∀ a b : ByteArray, (a ++ b).size = a.size + b.size from fun a b => by simp] at this
    omega
/-- the mark of a number -/
def mText (k : Int) : ByteArray := ⟨#[109]⟩ ++ ⟨(Lib.decDigits k.toNat).toArray⟩
theorem mText_zero (k : Int) (h : k ≤ 0) : mText k = ⟨#[109, 48]⟩ := by
  have : k.toNat = 0 := by omega
  unfold mText
  rw [this, mDec_last 0 (by omega)]
  rfl

set_option maxRecDepth 20000 in
set_option maxHeartbeats 1600000 in
theorem markText_any (n : Int) (h1 : n ≤ 999999999999999999) (w : World) : Calls Try.prog 52 #[.int .i64 n] w fun e w' => e = .returned (.string (mText n)) ∧ Below w.heap.size w w' := by
  by_cases h0 : n ≤ 0
  · rw [mText_zero n h0]
    go_enter Try.func52, Try.ntmps52
    go_wp2
    go_ret
    exact ⟨rfl, Below.refl _ _⟩
  · obtain ⟨N, rfl⟩ := Int.eq_ofNat_of_zero_le (show 0 ≤ n by omega)
    have hN : N ≤ 999999999999999999 := by omega
    have hz : N ≠ 0 := by omega
    clear h1
    go_enter Try.func52, Try.ntmps52
    go_wp2_with fail
    go_loopw [0, 3] (fun nv ov wr => ∃ (m : Nat) (out : ByteArray), m ≤ N ∧ nv = .int .i64 m ∧ ov = .string out ∧ Hid (MarkLeft N m out) ∧ Below w.heap.size w wr) (fun nv _ _ => (intOf nv).toNat)
    case atStart => exact ⟨N, _, Nat.le_refl _, rfl, rfl, hide (by unfold MarkLeft; rw [if_neg hz]; apply ByteArray.ext; simp), Below.refl _ _⟩
    case round =>
      obtain ⟨m, out, hmN, rfl, rfl, hL, hbel⟩ := hrel
      by_cases hm : m = 0
      · subst hm
        have hout := hide (show (⟨#[109]⟩ : ByteArray) ++ out = mText (N : Int) by have := unhide hL; unfold MarkLeft at this; rw [if_pos rfl] at this; rw [this]; rfl)
        have hos : (out.size : Int) ≤ 18 := by have := (unhide hL).size hN; omega
        go_wp2_with fail
        go_ret
        exact ⟨by rw [← unhide hout]; rfl, hbel⟩
      · have hm' : ¬ (m : Int) ≤ 0 := by omega
        have ht : Int.tmod (m : Int) 10 = ((m % 10 : Nat) : Int) := by rw [Int.tmod_eq_emod_of_nonneg (by omega)]; omega
        have hq : Int.tdiv (m : Int) 10 = ((m / 10 : Nat) : Int) := by rw [Int.tdiv_eq_ediv_of_nonneg (by omega)]; omega
        have hd : ¬ ((m % 10 : Nat) : Int) < 0 := by omega
        have HS := hide ((unhide hL).step hm)
        have hos := (unhide hL).size hN
        have hos' : (out.size : Int) ≤ 18 := by omega
        have hcv : (convert 104 9 (.slice (some ⟨wr.heap.size, 0, none⟩) 1 1)).run Try.prog (wr.alloc (.cells #[.int .u8 (48 + (m : Int) % 10)] 5)) = .ok (.string (strOfNums [48 + (m : Int) % 10])) (wr.alloc (.cells #[.int .u8 (48 + (m : Int) % 10)] 5)) :=
          run_convert_bytes_arg _ 104 5 Try.underlying104 Try.underlying5 wr.heap.size 0 1 1 [48 + (m : Int) % 10] rfl (fun i hi => by
            obtain rfl : i = 0 := by omega
            exact World.cell?_alloc_at _ _ _ _ rfl) 9 Try.underlying9
        have hstr : strOfNums [48 + (m : Int) % 10] = ⟨#[mDig m]⟩ := by
          have e : (48 + (m : Int) % 10).toNat = 48 + m % 10 := by omega
          simp [strOfNums, e, mDig]
        rw [hstr] at hcv
        have hb' := hbel.alloc hbel.size (.cells #[.int .u8 (48 + (m : Int) % 10)] 5)
        clear hstr
        go_wp2_with fail
        go_roundw
        case rel => exact ⟨m / 10, _, by omega, by go_num, rfl, HS, hb'⟩
        case measure => simp [intOf]; omega

end Go.Proofs.Ytpiapgjiaeddjaa
