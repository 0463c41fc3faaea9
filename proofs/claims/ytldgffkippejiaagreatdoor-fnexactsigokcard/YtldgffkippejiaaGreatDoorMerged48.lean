/-
  DERIVED: THE SHELF's CONTRACTS AT THIS DUMP, IN PLAIN WORDS (tools/lay-plain.mjs out of 'TryzShelf.lean', which tools/lay-shelf.mjs wrote): THE SAME DECLARATIONS UNDER THE SAME NAMES: 'import', 'namespace', 'open', 'def', 'theorem' AND NOTHING ELSE: no command of the shelf's: FOR A HAND-IN. Each laying: the table of numbers ('.._ren') and one theorem, a field a fact of the dump's own or the kernel's comparison; each contract: ONE APPLICATION.
-/
/-
  A list of bytes that comes in, opened.
-/
/-
  The laws' own marks: a text for a number.
-/
/-
  A region that draws its order and whose calls may make new blocks (and write into none that was there): walked once, in the order of the text, over the class of all later worlds.
-/
import Derived.Shelf.Strconv.Atoi
import Derived.Shelf.Strconv.AtoiErrFast
import Derived.Shelf.Strconv.ParseIntEmpty
import Derived.Shelf.Strconv.AtoiFail
import Derived.Shelf.LaysM
import Derived.Shelf.Strconv.Clone
import Derived.Shelf.Strconv.SyntaxError
import Derived.Shelf.LaysC
import Derived.Shelf.Strconv.ToError
import Derived.Shelf.Strconv.Lower
import Derived.Shelf.Strconv.ParseUint10
import Derived.Shelf.Strconv.ParseUint10Empty
import Derived.Shelf.Strconv.ParseUint10Any
import Derived.Shelf.Strconv.ParseInt10
import Derived.Shelf.Strconv.AtoiLong
import Derived.Shelf.Strconv.AtoiInnerAll
import Derived.Shelf.Strconv.RangeError
import Derived.Shelf.Strconv.ToErrorRange
import Derived.Shelf.Strconv.AtoiAll
import Derived.Shelf.Strconv.ErrVarAll
import Derived.Shelf.Sort.Plain
import Derived.Shelf.Slices.Turned
import Derived.Shelf.Slices.CompactS
import Derived.Shelf.Slices.Cells
import Derived.Shelf.Slices.In.SortNone
import Derived.Test.YtldgffkippejiaaGreatDoorProg
import Derived.Test.YtldgffkippejiaaGreatDoorMerged8
import Derived.ProofKit
import Derived.OpenShut
import Derived.Deep.RegionWith
import Derived.Deep.Slices
import Derived.Deep.QuietTactic
import Derived.BigQuiet
import Derived.Lib.ItoaNum
import Derived.Deep.RegionHeld3
namespace Go.Proofs
open Go.Shelf
def Tryz.laysM316_ren : Go.Shelf.Ren := ⟨fun | 316 => 47 | n => n, fun | 9 => 9 | 3 => 3 | 4 => 4 | 37 => 59 | 0 => 0 | 127 => 105 | 5 => 5 | n => n, fun | n => n⟩
theorem Tryz.laysM316 : Go.Proofs.LaysM.n316 Tryz.prog Tryz.laysM316_ren := {
  mixed := by kernel_rfl
  f316 := Tryz.func47.trans (congrArg some (by kernel_rfl))
  t0 := Tryz.underlying0
  a0 := Tryz.isAgg0
  z0 := Tryz.sizeOf0
  v0 := Tryz.zeroValue0
  t3 := Tryz.underlying3
  a3 := Tryz.isAgg3
  z3 := Tryz.sizeOf3
  v3 := Tryz.zeroValue3
  t4 := Tryz.underlying4
  a4 := Tryz.isAgg4
  z4 := Tryz.sizeOf4
  v4 := Tryz.zeroValue4
  t9 := Tryz.underlying9
  a9 := Tryz.isAgg9
  z9 := Tryz.sizeOf9
  v9 := Tryz.zeroValue9
  t37 := Tryz.underlying59
  a37 := Tryz.isAgg59
  z37 := Tryz.sizeOf59
  v37 := Tryz.zeroValue59
  t127 := Tryz.underlying105
  a127 := Tryz.isAgg105
  z127 := Tryz.sizeOf105
  v127 := Tryz.zeroValue105
  t5 := Tryz.underlying5
  a5 := Tryz.isAgg5
  z5 := Tryz.sizeOf5
  v5 := Tryz.zeroValue5
  i0 := by kernel_rfl
  i3 := by kernel_rfl
  i4 := by kernel_rfl
  i5 := by kernel_rfl
  i9 := by kernel_rfl
  i37 := by kernel_rfl
  i127 := by kernel_rfl }
open Go.RowKit in
/-- internal/stringslite.Clone (what strings.Clone calls): "Clone returns a fresh copy of s.": THE SAME BYTES. Of what was there nothing has turned (a new row is laid, and frozen, where s is not empty). (LAID: no walk: one application.) -/
theorem Tryz.stringslite_Clone (s : ByteArray) (w : World) (hlim : s.size ≤ 281474976710656) :
    Calls Tryz.prog 47 #[.string s] w fun e w' => e = .returned (.string s) ∧ Below w.heap.size w w' := Any.stringslite_Clone Tryz.laysM316 s w hlim
end Go.Proofs

namespace Go.Proofs.YtldgffkippejiaaGreatDoor
open Go.RowKit Go.Maps Go.Deep Go.ChangeShapes Go.WideShapes Go.ChangeAt

theorem cells_byteA : Tryz.prog.cellsOf 5 = 1 := by kernel_rfl
theorem choose_byte {n : Nat} {P : Nat → UInt8 → Prop} (h : ∀ i, i < n → ∃ c, P i c) : ∃ bs : List UInt8, bs.length = n ∧ ∀ i (hi : i < bs.length), P i bs[i] := by
  induction n with
  | zero => exact ⟨[], rfl, fun i hi => absurd hi (Nat.not_lt_zero _)⟩
  | succ n ih =>
    obtain ⟨bs, hl, hb⟩ := ih (fun i hi => h i (by omega))
    obtain ⟨c, hc⟩ := h n (by omega)
    refine ⟨bs ++ [c], by simp [hl], fun i hi => ?_⟩
    by_cases e : i < bs.length
    · rw [List.getElem_append_left e]; exact hb i e
    · have : i = n := by simp at hi; omega
      subst this
      rw [List.getElem_append_right (by omega)]
      simpa [hl] using hc
theorem open_byte_cell {H : Type} {enc : TypeId × Value → H} {w : World} {base : Nat} {spare : Nat → Bool} {held : Bool} {c : Value} {fuel : Nat} {y : DataW H × List MemPlace}
    (hf : DataW.trod enc Tryz.prog w base spare held fuel 59 [c] = some y) :
    ∃ a cap, ∃ bs : List UInt8, c = .slice a bs.length cap ∧ bs.length ≤ maxLen ∧ bs.length ≤ cap ∧ ByIn w a bs := by
  rcases open_slice Tryz.underlying59 hf with ⟨hcs, _⟩ | ⟨a', len, cap, m, n, D, Pl, hcs, hb, hl, hm, hmm, _, hx⟩
  · simp at hcs
    subst hcs
    exact ⟨none, 0, [], rfl, by unfold maxLen; simp, Nat.le_refl _, .inl rfl⟩
  · simp at hcs
    subst hcs
    have hlm : len ≤ m := by rw [hmm]; split <;> omega
    have each : ∀ i, i < len → ∃ c : UInt8, w.cell? (a'.add i) = some (.int .u8 (c.toNat : Int)) := by
      intro i hi
      obtain ⟨cs', h1, h2⟩ := hx i (by omega)
      rw [cells_byteA] at h1
      obtain ⟨_, hlen, hcell⟩ := World.cells?_some h1
      match cs', hlen with
      | [v0], _ =>
        obtain ⟨n0, e0, _, hr⟩ := DataW.trod_int Tryz.underlying5 h2
        simp at e0
        subst e0
        have c0 := hcell 0 (by omega)
        have hr' : 0 ≤ n0 ∧ n0 ≤ 255 := by
          have hr2 := Bool.and_eq_true_iff.1 hr
          exact ⟨of_decide_eq_true hr2.1, of_decide_eq_true hr2.2⟩
        obtain ⟨v, rfl⟩ := Int.eq_ofNat_of_zero_le hr'.1
        rw [Nat.mul_one] at c0
        refine ⟨UInt8.ofNat v, ?_⟩
        rw [UInt8.toNat_ofNat', Nat.mod_eq_of_lt (by omega)]
        simpa [Addr.add] using c0
    obtain ⟨bs, hbl, hbs⟩ := choose_byte each
    refine ⟨some a', cap, bs, by rw [hbl], by omega, by omega, ?_⟩
    by_cases h0 : len = 0
    · exact .inl (List.eq_nil_of_length_eq_zero (by omega))
    · have hc0 := hbs 0 (by omega)
      obtain ⟨b, off, spot⟩ := a'
      have hspot : spot = none := by simpa [Addr.add] using World.cell?_spot hc0
      subst hspot
      refine .inr ⟨b, off, rfl, lt_of_cell0 (by simpa [Addr.add] using hc0), ?_⟩
      intro i hi
      have h2 := hbs i hi
      by_cases e : i = 0
      · subst e; simpa [Addr.add] using h2
      · simpa [Addr.add, e] using h2
theorem open_byteS {H : Type} {enc : TypeId × Value → H} {w : World} {base : Nat} {spare : Nat → Bool} {held : Bool} {a : Option Addr} {len cap : Nat} {d : DataW H} {p : List MemPlace}
    (h : DataW.Trod enc Tryz.prog w base spare held 59 (.slice a len cap) d p) :
    ∃ bs : List UInt8, bs.length = len ∧ len ≤ maxLen ∧ len ≤ cap ∧ ByIn w a bs := by
  obtain ⟨fuel, hf⟩ := h
  obtain ⟨a', cap', bs, e, h1, h2, h3⟩ := open_byte_cell (c := .slice a len cap) (by simpa [Value.cells] using hf)
  simp only [Value.slice.injEq] at e
  obtain ⟨rfl, rfl, rfl⟩ := e
  exact ⟨bs, rfl, h1, h2, h3⟩
end Go.Proofs.YtldgffkippejiaaGreatDoor

set_option linter.unusedVariables false
namespace Go.Proofs.YtldgffkippejiaaGreatDoor
open Go.RowKit Go.Maps Go.Deep

def mDig (m : Nat) : UInt8 := UInt8.ofNat (48 + m % 10)
theorem mDec_len (u : Nat) : ∀ m : Nat, u < 10 ^ (m + 1) → (Lib.decDigits u).length ≤ m + 1 := by
  intro m
  induction m generalizing u with
  | zero =>
    intro h
    rw [Lib.decDigits, dif_pos (by simpa using h)]
    simp
  | succ m ih =>
    intro h
    rw [Lib.decDigits]
    split
    · simp
    · have := ih (u / 10) (by rw [Nat.pow_succ] at h; omega)
      simp; omega
theorem mDec_step (m : Nat) (h : ¬ m < 10) (out : ByteArray) : (⟨(Lib.decDigits m).toArray⟩ : ByteArray) ++ out = ⟨(Lib.decDigits (m / 10)).toArray⟩ ++ (⟨#[mDig m]⟩ ++ out) := by
  rw [Lib.decDigits, dif_neg h]
  apply ByteArray.ext
  simp [mDig]
theorem mDec_last (m : Nat) (h : m < 10) : (⟨(Lib.decDigits m).toArray⟩ : ByteArray) = ⟨#[mDig m]⟩ := by
  rw [Lib.decDigits, dif_pos h, mDig, Nat.mod_eq_of_lt h]
/-- what is still to be written, ahead of what is written -/
def MarkLeft (N m : Nat) (out : ByteArray) : Prop := if m = 0 then out = ⟨(Lib.decDigits N).toArray⟩ else (⟨(Lib.decDigits m).toArray⟩ : ByteArray) ++ out = ⟨(Lib.decDigits N).toArray⟩
theorem MarkLeft.step {N m : Nat} {out : ByteArray} (h : MarkLeft N m out) (hm : m ≠ 0) : MarkLeft N (m / 10) (⟨#[mDig m]⟩ ++ out) := by
  unfold MarkLeft at h ⊢
  rw [if_neg hm] at h
  by_cases h10 : m < 10
  · rw [if_pos (by omega), ← h, mDec_last m h10]
  · rw [if_neg (by omega), ← mDec_step m h10]; exact h
theorem MarkLeft.size {N m : Nat} {out : ByteArray} (h : MarkLeft N m out) (hN : N ≤ 999999999999999999) : out.size ≤ 18 := by
  have hl := mDec_len N 17 (by omega)
  have sl : ∀ l : List UInt8, (⟨l.toArray⟩ : ByteArray).size = l.length := fun l => by simp [ByteArray.size]
  unfold MarkLeft at h
  split at h
  · rw [h, sl]; omega
  · have := congrArg ByteArray.size h
    have e1 := sl (Lib.decDigits N)
    rw [show ∀ a b : ByteArray, (a ++ b).size = a.size + b.size from fun a b => by simp] at this
    omega
/-- the mark of a number -/
def mText (k : Int) : ByteArray := ⟨#[109]⟩ ++ ⟨(Lib.decDigits k.toNat).toArray⟩
theorem mText_zero (k : Int) (h : k ≤ 0) : mText k = ⟨#[109, 48]⟩ := by
  have : k.toNat = 0 := by omega
  unfold mText
  rw [this, mDec_last 0 (by omega)]
  rfl

set_option maxRecDepth 20000 in
set_option maxHeartbeats 1600000 in
theorem markText_any (n : Int) (h1 : n ≤ 999999999999999999) (w : World) : Calls Tryz.prog 18 #[.int .i64 n] w fun e w' => e = .returned (.string (mText n)) ∧ Below w.heap.size w w' := by
  by_cases h0 : n ≤ 0
  · rw [mText_zero n h0]
    go_enter Tryz.func18, Tryz.ntmps18
    go_wp2
    go_ret
    exact ⟨rfl, Below.refl _ _⟩
  · obtain ⟨N, rfl⟩ := Int.eq_ofNat_of_zero_le (show 0 ≤ n by omega)
    have hN : N ≤ 999999999999999999 := by omega
    have hz : N ≠ 0 := by omega
    clear h1
    go_enter Tryz.func18, Tryz.ntmps18
    go_wp2_with fail
    go_loopw [0, 3] (fun nv ov wr => ∃ (m : Nat) (out : ByteArray), m ≤ N ∧ nv = .int .i64 m ∧ ov = .string out ∧ Hid (MarkLeft N m out) ∧ Below w.heap.size w wr) (fun nv _ _ => (intOf nv).toNat)
    case atStart => exact ⟨N, _, Nat.le_refl _, rfl, rfl, hide (by unfold MarkLeft; rw [if_neg hz]; apply ByteArray.ext; simp), Below.refl _ _⟩
    case round =>
      obtain ⟨m, out, hmN, rfl, rfl, hL, hbel⟩ := hrel
      by_cases hm : m = 0
      · subst hm
        have hout := hide (show (⟨#[109]⟩ : ByteArray) ++ out = mText (N : Int) by have := unhide hL; unfold MarkLeft at this; rw [if_pos rfl] at this; rw [this]; rfl)
        have hos : (out.size : Int) ≤ 18 := by have := (unhide hL).size hN; omega
        go_wp2_with fail
        go_ret
        exact ⟨by rw [← unhide hout]; rfl, hbel⟩
      · have hm' : ¬ (m : Int) ≤ 0 := by omega
        have ht : Int.tmod (m : Int) 10 = ((m % 10 : Nat) : Int) := by rw [Int.tmod_eq_emod_of_nonneg (by omega)]; omega
        have hq : Int.tdiv (m : Int) 10 = ((m / 10 : Nat) : Int) := by rw [Int.tdiv_eq_ediv_of_nonneg (by omega)]; omega
        have hd : ¬ ((m % 10 : Nat) : Int) < 0 := by omega
        have HS := hide ((unhide hL).step hm)
        have hos := (unhide hL).size hN
        have hos' : (out.size : Int) ≤ 18 := by omega
        have hcv : (convert 59 9 (.slice (some ⟨wr.heap.size, 0, none⟩) 1 1)).run Tryz.prog (wr.alloc (.cells #[.int .u8 (48 + (m : Int) % 10)] 5)) = .ok (.string (strOfNums [48 + (m : Int) % 10])) (wr.alloc (.cells #[.int .u8 (48 + (m : Int) % 10)] 5)) :=
          run_convert_bytes_arg _ 59 5 Tryz.underlying59 Tryz.underlying5 wr.heap.size 0 1 1 [48 + (m : Int) % 10] rfl (fun i hi => by
            obtain rfl : i = 0 := by omega
            exact World.cell?_alloc_at _ _ _ _ rfl) 9 Tryz.underlying9
        have hstr : strOfNums [48 + (m : Int) % 10] = ⟨#[mDig m]⟩ := by
          have e : (48 + (m : Int) % 10).toNat = 48 + m % 10 := by omega
          simp [strOfNums, e, mDig]
        rw [hstr] at hcv
        have hb' := hbel.alloc hbel.size (.cells #[.int .u8 (48 + (m : Int) % 10)] 5)
        clear hstr
        go_wp2_with fail
        go_roundw
        case rel => exact ⟨m / 10, _, by omega, by go_num, rfl, HS, hb'⟩
        case measure => simp [intOf]; omega

end Go.Proofs.YtldgffkippejiaaGreatDoor

set_option linter.unusedVariables false
namespace Go.Proofs.YtldgffkippejiaaGreatDoor
open Go.RowKit Go.Maps

/-- a world in which all blocks of W are as they were -/
structure LaterW (W : World) where
  to : World
  bel : Below W.heap.size W to
instance (W : World) : Nonempty (LaterW W) := ⟨⟨W, Below.refl _ _⟩⟩
theorem LaterW.cell {W : World} (x : LaterW W) {g i : Nat} {v : Value} (h : W.cell? ⟨g, i, none⟩ = some v) : x.to.cell? ⟨g, i, none⟩ = some v := (x.bel.cell (lt_of_cell0 h)).trans h
theorem LaterW.frozen {W : World} (x : LaterW W) {g i : Nat} (hg : g < W.heap.size) (h : W.frozen? ⟨g, i, none⟩ = false) : x.to.frozen? ⟨g, i, none⟩ = false := (x.bel.frozen (by exact hg)).trans h
theorem LaterW.on {W w' : World} (x : LaterW W) (h : Below x.to.heap.size x.to w') : ∃ y : LaterW W, w' = y.to := ⟨⟨w', x.bel.trans (h.mono x.bel.size)⟩, rfl⟩
theorem wp_region_later {P : Program} {id : Nat} {Q : Exit → Act → World → Prop} {a : Act} {w : World} {l : List Oper} (hm : P.follows .mixedOrders = true) (hB : Region.lexB .any l.toArray = true)
    (h : wpQuiet P l.toArray (fun w' => ∃ x : LaterW w, w' = x.to) (fun a' => ∀ w', (∃ x : LaterW w, w' = x.to) → Q .normal a' w') l a) : (Code.region id l.toArray true).wp P Q a w :=
  wp_region_quiet (C := fun w' => ∃ x : LaterW w, w' = x.to) hm hB ⟨⟨{ w with drawn := w.drawn + 1 }, ⟨rfl, rfl, rfl, Nat.le_refl _, fun _ _ => rfl⟩⟩, rfl⟩ h
theorem quiet_ret {P : Program} {W : World} {f : FuncId} {args : Array Value} {x : LaterW W} {v : Value} (h : Calls P f args x.to fun e w' => e = .returned v ∧ Below x.to.heap.size x.to w') : Calls P f args x.to fun e w' => e = .returned v ∧ ∃ y : LaterW W, w' = y.to :=
  h.mono fun _ _ ⟨he, hb⟩ => ⟨he, x.on hb⟩
end Go.Proofs.YtldgffkippejiaaGreatDoor
