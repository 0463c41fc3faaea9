/-
  Lists of Ndx in memory, and the law's own helpers over them: how much they hold, how they are copied, how two lists are compared, and how one that comes in is opened. (Made by wip/mkrows.py.)
-/
/-
  The laws' own marks: a text for a number.
-/
import Derived.Test.YtaonajalokhngaaGreatDoorMerged10
import Derived.Test.YtaonajalokhngaaGreatDoorMerged5
import Derived.Deep.RegionWith
import Derived.Deep.Slices
import Derived.ProofKit
import Derived.OpenShut
import Derived.Deep.QuietTactic
import Derived.BigQuiet
import Derived.Lib.ItoaNum
import Derived.Deep.RegionHeld3
set_option linter.unusedVariables false
namespace Go.Proofs.YtaonajalokhngaaGreatDoor
open Go.RowKit Go.Maps Go.Deep


/-- they lie one behind the other, from a place of a block on -/
def NdxAt (w : World) (b off : Nat) (ns : List NodeV) : Prop :=
  ∀ i (h : i < ns.length), w.cell? ⟨b, off + i * 4, none⟩ = some (.int .i64 (ns[i].kind)) ∧ w.cell? ⟨b, off + i * 4 + 1, none⟩ = some (.int .i64 (ns[i].num)) ∧ w.cell? ⟨b, off + i * 4 + 2, none⟩ = some (.string (ns[i].name)) ∧ w.cell? ⟨b, off + i * 4 + 3, none⟩ = some (.int .i64 (ns[i].kids))
def NdxFit (x : NodeV) : Prop := x.name.size ≤ maxLen ∧ (-9223372036854775808 ≤ x.kind ∧ x.kind ≤ 9223372036854775807) ∧ (-9223372036854775808 ≤ x.num ∧ x.num ≤ 9223372036854775807) ∧ (-9223372036854775808 ≤ x.kids ∧ x.kids ≤ 9223372036854775807)
def NdxOk (ns : List NodeV) : Prop := ∀ x ∈ ns, NdxFit x
/-- what the bound gives where it is not passed -/
def NdxSmall (ns : List NodeV) : Prop := ns.length ≤ 1048576 ∧ ∀ x ∈ ns, x.name.size ≤ 1048576

/-- what is left, or less than nothing -/
def NdxSLeft (n2 : Nat) (left r : Int) : Prop := r ≤ left ∧ (0 ≤ r → (n2 : Int) ≤ left)
def RetNdxSz (ns : List NodeV) (left0 : Int) (e : Ending) : Prop := ∃ r : Int, e = .returned (.int .i64 r) ∧ r ≤ left0 ∧ (0 ≤ r → NdxSmall ns)
theorem infoNdx : (Tryz.prog.info? 47).map (fun i => (i.zero, i.size, i.bytes)) = some (some (.agg #[.int .i64 0, .int .i64 0, .string ByteArray.empty, .int .i64 0]), 4, 40) := by kernel_rfl

def NdxTo (xs : List Value) (ns : List NodeV) (k : Nat) : Prop :=
  ∀ i (h : i < ns.length), i < k → xs[i * 4]? = some (.int .i64 (ns[i].kind)) ∧ xs[i * 4 + 1]? = some (.int .i64 (ns[i].num)) ∧ xs[i * 4 + 2]? = some (.string (ns[i].name)) ∧ xs[i * 4 + 3]? = some (.int .i64 (ns[i].kids))
theorem ndxTo_step (xs : List Value) (ns : List NodeV) (k : Nat) (hk : k < ns.length) (hx : xs.length = ns.length * 4) (h : NdxTo xs ns k) :
    NdxTo ((((xs.set (k * 4) (.int .i64 (ns[k].kind))).set (k * 4 + 1) (.int .i64 (ns[k].num))).set (k * 4 + 2) (.string (ns[k].name))).set (k * 4 + 3) (.int .i64 (ns[k].kids))) ns (k + 1) := by
  intro i hi hik
  by_cases e : i = k
  · subst e
    simp [List.getElem?_set, hx]
    omega
  · obtain ⟨c0, c1, c2, c3⟩ := h i hi (by omega)
    refine ⟨?_, ?_, ?_, ?_⟩ <;> (repeat rw [List.getElem?_set_ne (by omega)]) <;> assumption

theorem ownsRowNdx_below {w w' : World} {base B : Nat} {e : TypeId} {size : Nat} {g n cap : Nat} {xs : List Value} (h : w.ownsRow base e size (.slice (some ⟨g, 0, none⟩) n cap) n xs) (hb : Below B w w') (hg : g < B) :
    w'.ownsRow base e size (.slice (some ⟨g, 0, none⟩) n cap) n xs := by
  refine ⟨h.1, ?_⟩
  rcases h.2 with ⟨h', _⟩ | ⟨g', cap', cur, h', h1, h2, h3⟩
  · simp at h'
  · refine .inr ⟨g', cap', cur, h', h1, ?_, h3⟩
    simp only [Value.slice.injEq, Option.some.injEq, Addr.mk.injEq, and_true, true_and] at h'
    obtain ⟨rfl, rfl⟩ := h'
    rw [hb.block g hg]; exact h2
theorem ndxCells {w : World} {base : Nat} {e : TypeId} {g n cap : Nat} {xs : List Value} (h : w.ownsRow base e 4 (.slice (some ⟨g, 0, none⟩) n cap) n xs) (k : Nat) (hk : k < n) :
    ∃ v0 v1 v2 v3, w.cell? ⟨g, k * 4, none⟩ = some v0 ∧ w.cell? ⟨g, k * 4 + 1, none⟩ = some v1 ∧ w.cell? ⟨g, k * 4 + 2, none⟩ = some v2 ∧ w.cell? ⟨g, k * 4 + 3, none⟩ = some v3 ∧ w.frozen? ⟨g, k * 4, none⟩ = false ∧ w.frozen? ⟨g, k * 4 + 1, none⟩ = false ∧ w.frozen? ⟨g, k * 4 + 2, none⟩ = false ∧ w.frozen? ⟨g, k * 4 + 3, none⟩ = false := by
  have hx := h.1
  refine ⟨xs[k * 4]'(by omega), xs[k * 4 + 1]'(by omega), xs[k * 4 + 2]'(by omega), xs[k * 4 + 3]'(by omega), ?_, ?_, ?_, ?_, h.frozenAt _, h.frozenAt _, h.frozenAt _, h.frozenAt _⟩
  all_goals
    rw [h.cellAt _ (by omega)]
    exact List.getElem?_eq_getElem _
theorem ndxStore {w : World} {base : Nat} {e : TypeId} {g n cap : Nat} {xs : List Value} (h : w.ownsRow base e 4 (.slice (some ⟨g, 0, none⟩) n cap) n xs) (k : Nat) (v0 v1 v2 v3 : Value) :
    (((((w.setCell ⟨g, k * 4, none⟩ v0).setCell ⟨g, k * 4 + 1, none⟩ v1).setCell ⟨g, k * 4 + 2, none⟩ v2).setCell ⟨g, k * 4 + 3, none⟩ v3)).ownsRow base e 4 (.slice (some ⟨g, 0, none⟩) n cap) n ((((xs.set (k * 4) v0).set (k * 4 + 1) v1).set (k * 4 + 2) v2).set (k * 4 + 3) v3) :=
  ((((h.stored (k * 4) v0).1.stored (k * 4 + 1) v1).1.stored (k * 4 + 2) v2).1.stored (k * 4 + 3) v3).1
theorem ndxOfRow {w : World} {base : Nat} {e : TypeId} {g n cap : Nat} {xs : List Value} {ns : List NodeV} (h : w.ownsRow base e 4 (.slice (some ⟨g, 0, none⟩) n cap) n xs) (hn : ns.length = n) (ht : NdxTo xs ns n) : NdxAt w g 0 ns := by
  intro i hi
  obtain ⟨c0, c1, c2, c3⟩ := ht i hi (by omega)
  refine ⟨?_, ?_, ?_, ?_⟩
  all_goals
    rw [Nat.zero_add, h.cellAt _ (by omega)]
    assumption

set_option maxHeartbeats 800000 in
theorem eqNdx_same (z0 : Int) (z1 : Int) (z2 : ByteArray) (z3 : Int) (w : World) :
    Calls Tryz.prog 15 #[.agg #[.int .i64 z0, .int .i64 z1, .string z2, .int .i64 z3], .agg #[.int .i64 z0, .int .i64 z1, .string z2, .int .i64 z3]] w fun e w' => e = .returned (.bool true) ∧ Below w.heap.size w w' := by
  go_enter Tryz.func15, Tryz.ntmps15
  go_wp2
  go_ret
  exact ⟨rfl, ((Below.refl _ _).alloc (Nat.le_refl _) _).alloc (by simp) _⟩

set_option maxHeartbeats 1600000 in
theorem eqNdxS_same (w : World) (b off cap b' off' cap' : Nat) (ns : List NodeV) (hl : ns.length ≤ 281474976710656) (hc : NdxAt w b off ns) (hc' : NdxAt w b' off' ns) (hb : b < w.heap.size) (hb' : b' < w.heap.size) :
    Calls Tryz.prog 6 #[.slice (some ⟨b, off, none⟩) ns.length cap, .slice (some ⟨b', off', none⟩) ns.length cap'] w fun e w' => e = .returned (.bool true) ∧ Below w.heap.size w w' := by
  go_enter Tryz.func6, Tryz.ntmps6
  go_wp2
  go_loopw [5] (fun i wr => ∃ (k : Nat), k ≤ ns.length ∧ i = .int .i64 k ∧ Below w.heap.size w wr) (fun i _ => ns.length - (intOf i).toNat)
  case atStart => exact ⟨0, Nat.zero_le _, rfl, Below.refl _ _⟩
  case round =>
    obtain ⟨k, hk, rfl, hbel⟩ := hrel
    by_cases hlt : k < ns.length
    · obtain ⟨c0, c1, c2, c3⟩ := hc k hlt
      obtain ⟨d0, d1, d2, d3⟩ := hc' k hlt
      rw [← hbel.cell (by exact hb)] at c0 c1 c2 c3
      rw [← hbel.cell (by exact hb')] at d0 d1 d2 d3
      go_wp2
      go_region_with (go_at_call 15; refine (eqNdx_same _ _ _ _ _).mono ?_; rintro e w2 ⟨rfl, hb2⟩)
      all_goals
        have hb3 : Below w.heap.size w w2 := hbel.drew.trans (hb2.mono hbel.size)
        clear c0 c1 c2 c3 d0 d1 d2 d3
        go_wp2
        go_roundw
        case rel => exact ⟨k + 1, by omega, by go_num, hb3⟩
        case measure => simp [intOf]; omega
    · go_wp2
      go_ret
      exact ⟨rfl, hbel⟩

/-- a slice value leads to these: empty, or a row of them -/
def NdxIn (w : World) (a : Option Addr) (ns : List NodeV) : Prop :=
  ns = [] ∨ ∃ b off, a = some ⟨b, off, none⟩ ∧ b < w.heap.size ∧ NdxAt w b off ns
theorem NdxAt.below {w w' : World} {B b off : Nat} {ns : List NodeV} (h : NdxAt w b off ns) (hb : Below B w w') (hB : b < B) : NdxAt w' b off ns := by
  intro i hi
  obtain ⟨c0, c1, c2, c3⟩ := h i hi
  exact ⟨(hb.cell (by exact hB)).trans c0, (hb.cell (by exact hB)).trans c1, (hb.cell (by exact hB)).trans c2, (hb.cell (by exact hB)).trans c3⟩
theorem NdxIn.below {w w' : World} {a : Option Addr} {ns : List NodeV} (h : NdxIn w a ns) (hb : Below w.heap.size w w') : NdxIn w' a ns := by
  rcases h with h | ⟨b, off, e, hlt, hn⟩
  · exact .inl h
  · exact .inr ⟨b, off, e, Nat.lt_of_lt_of_le hlt hb.size, hn.below hb hlt⟩
theorem cellsINdx : Tryz.prog.cellsOf 3 = 1 := by kernel_rfl
theorem cellsSNdx : Tryz.prog.cellsOf 9 = 1 := by kernel_rfl
theorem lt_of_cellNdx {w : World} {b off : Nat} {v : Value} (h : w.cell? ⟨b, off, none⟩ = some v) : b < w.heap.size := by
  by_cases hb : b < w.heap.size
  · exact hb
  · exfalso
    have : w.heap[b]? = none := Array.getElem?_eq_none (by omega)
    simp [World.cell?, this] at h
theorem ndxRange {k : Int} (h : (Lit.int .i64 k).wf = true) : -9223372036854775808 ≤ k ∧ k ≤ 9223372036854775807 := bounds_i64 h
end Go.Proofs.YtaonajalokhngaaGreatDoor

set_option linter.unusedVariables false
namespace Go.Proofs.YtaonajalokhngaaGreatDoor
open Go.RowKit Go.Maps Go.Deep

def mDig (m : Nat) : UInt8 := UInt8.ofNat (48 + m % 10)
theorem mDec_len (u : Nat) : ∀ m : Nat, u < 10 ^ (m + 1) → (Lib.decDigits u).length ≤ m + 1 := by
  intro m
  induction m generalizing u with
  | zero =>
    intro h
    rw [Lib.decDigits, dif_pos (by simpa using h)]
    simp
  | succ m ih =>
    intro h
    rw [Lib.decDigits]
    split
    · simp
    · have := ih (u / 10) (by rw [Nat.pow_succ] at h; omega)
      simp; omega
theorem mDec_step (m : Nat) (h : ¬ m < 10) (out : ByteArray) : (⟨(Lib.decDigits m).toArray⟩ : ByteArray) ++ out = ⟨(Lib.decDigits (m / 10)).toArray⟩ ++ (⟨#[mDig m]⟩ ++ out) := by
  rw [Lib.decDigits, dif_neg h]
  apply ByteArray.ext
  simp [mDig]
theorem mDec_last (m : Nat) (h : m < 10) : (⟨(Lib.decDigits m).toArray⟩ : ByteArray) = ⟨#[mDig m]⟩ := by
  rw [Lib.decDigits, dif_pos h, mDig, Nat.mod_eq_of_lt h]
/-- what is still to be written, ahead of what is written -/
def MarkLeft (N m : Nat) (out : ByteArray) : Prop := if m = 0 then out = ⟨(Lib.decDigits N).toArray⟩ else (⟨(Lib.decDigits m).toArray⟩ : ByteArray) ++ out = ⟨(Lib.decDigits N).toArray⟩
theorem MarkLeft.step {N m : Nat} {out : ByteArray} (h : MarkLeft N m out) (hm : m ≠ 0) : MarkLeft N (m / 10) (⟨#[mDig m]⟩ ++ out) := by
  unfold MarkLeft at h ⊢
  rw [if_neg hm] at h
  by_cases h10 : m < 10
  · rw [if_pos (by omega), ← h, mDec_last m h10]
  · rw [if_neg (by omega), ← mDec_step m h10]; exact h
theorem MarkLeft.size {N m : Nat} {out : ByteArray} (h : MarkLeft N m out) (hN : N ≤ 999999999999999999) : out.size ≤ 18 := by
  have hl := mDec_len N 17 (by omega)
  have sl : ∀ l : List UInt8, (⟨l.toArray⟩ : ByteArray).size = l.length := fun l => by simp [ByteArray.size]
  unfold MarkLeft at h
  split at h
  · rw [h, sl]; omega
  · have := congrArg ByteArray.size h
    have e1 := sl (Lib.decDigits N)
    rw [show ∀ a b : ByteArray, (a ++ b).size = a.size + b.size from fun a b => by simp] at this
    omega
/-- the mark of a number -/
def mText (k : Int) : ByteArray := ⟨#[109]⟩ ++ ⟨(Lib.decDigits k.toNat).toArray⟩
theorem mText_zero (k : Int) (h : k ≤ 0) : mText k = ⟨#[109, 48]⟩ := by
  have : k.toNat = 0 := by omega
  unfold mText
  rw [this, mDec_last 0 (by omega)]
  rfl

set_option maxRecDepth 20000 in
set_option maxHeartbeats 1600000 in
theorem markText_any (n : Int) (h1 : n ≤ 999999999999999999) (w : World) : Calls Tryz.prog 16 #[.int .i64 n] w fun e w' => e = .returned (.string (mText n)) ∧ Below w.heap.size w w' := by
  by_cases h0 : n ≤ 0
  · rw [mText_zero n h0]
    go_enter Tryz.func16, Tryz.ntmps16
    go_wp2
    go_ret
    exact ⟨rfl, Below.refl _ _⟩
  · obtain ⟨N, rfl⟩ := Int.eq_ofNat_of_zero_le (show 0 ≤ n by omega)
    have hN : N ≤ 999999999999999999 := by omega
    have hz : N ≠ 0 := by omega
    clear h1
    go_enter Tryz.func16, Tryz.ntmps16
    go_wp2_with fail
    go_loopw [0, 3] (fun nv ov wr => ∃ (m : Nat) (out : ByteArray), m ≤ N ∧ nv = .int .i64 m ∧ ov = .string out ∧ Hid (MarkLeft N m out) ∧ Below w.heap.size w wr) (fun nv _ _ => (intOf nv).toNat)
    case atStart => exact ⟨N, _, Nat.le_refl _, rfl, rfl, hide (by unfold MarkLeft; rw [if_neg hz]; apply ByteArray.ext; simp), Below.refl _ _⟩
    case round =>
      obtain ⟨m, out, hmN, rfl, rfl, hL, hbel⟩ := hrel
      by_cases hm : m = 0
      · subst hm
        have hout := hide (show (⟨#[109]⟩ : ByteArray) ++ out = mText (N : Int) by have := unhide hL; unfold MarkLeft at this; rw [if_pos rfl] at this; rw [this]; rfl)
        have hos : (out.size : Int) ≤ 18 := by have := (unhide hL).size hN; omega
        go_wp2_with fail
        go_ret
        exact ⟨by rw [← unhide hout]; rfl, hbel⟩
      · have hm' : ¬ (m : Int) ≤ 0 := by omega
        have ht : Int.tmod (m : Int) 10 = ((m % 10 : Nat) : Int) := by rw [Int.tmod_eq_emod_of_nonneg (by omega)]; omega
        have hq : Int.tdiv (m : Int) 10 = ((m / 10 : Nat) : Int) := by rw [Int.tdiv_eq_ediv_of_nonneg (by omega)]; omega
        have hd : ¬ ((m % 10 : Nat) : Int) < 0 := by omega
        have HS := hide ((unhide hL).step hm)
        have hos := (unhide hL).size hN
        have hos' : (out.size : Int) ≤ 18 := by omega
        have hcv : (convert 66 9 (.slice (some ⟨wr.heap.size, 0, none⟩) 1 1)).run Tryz.prog (wr.alloc (.cells #[.int .u8 (48 + (m : Int) % 10)] 5)) = .ok (.string (strOfNums [48 + (m : Int) % 10])) (wr.alloc (.cells #[.int .u8 (48 + (m : Int) % 10)] 5)) :=
          run_convert_bytes_arg _ 66 5 Tryz.underlying66 Tryz.underlying5 wr.heap.size 0 1 1 [48 + (m : Int) % 10] rfl (fun i hi => by
            obtain rfl : i = 0 := by omega
            exact World.cell?_alloc_at _ _ _ _ rfl) 9 Tryz.underlying9
        have hstr : strOfNums [48 + (m : Int) % 10] = ⟨#[mDig m]⟩ := by
          have e : (48 + (m : Int) % 10).toNat = 48 + m % 10 := by omega
          simp [strOfNums, e, mDig]
        rw [hstr] at hcv
        have hb' := hbel.alloc hbel.size (.cells #[.int .u8 (48 + (m : Int) % 10)] 5)
        clear hstr
        go_wp2_with fail
        go_roundw
        case rel => exact ⟨m / 10, _, by omega, by go_num, rfl, HS, hb'⟩
        case measure => simp [intOf]; omega

end Go.Proofs.YtaonajalokhngaaGreatDoor
