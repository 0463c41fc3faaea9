/-
  Small words that every text of ours uses: facts that are hidden from the walk, endings, blocks.
-/
/-
  What may turn from one world to another: new blocks, and the listed ones.
-/
/-
  Lists of bytes in memory: for reading, and as rows of one's own; the laws' own helpers over them: how much they hold, how they are copied, compared, marked, and found marked again.
-/
import Derived.Test.YtlgmmibncoedgaaProg
import Derived.WalkKit
import Derived.Maps.OwnSet
import Derived.Deep.Draws
import Derived.Deep.RegionWith
import Derived.Deep.RegionHeld3
import Derived.Deep.Slices
import Derived.ProofKit
namespace Go.Proofs.Ytlgmmibncoedgaa
open Go.RowKit

theorem hide {p : Prop} (h : p) : Hid p := h
theorem unhide {p : Prop} (h : Hid p) : p := h
theorem ret_bool {a b : Bool} (h : a = b) : Ending.returned (.bool a) = .returned (.bool b) := by rw [h]
theorem ret_int {k : IntKind} {a b : Int} (h : a = b) : Ending.returned (.int k a) = .returned (.int k b) := by rw [h]
theorem lt_of_cell0 {w : World} {b off : Nat} {v : Value} (h : w.cell? ⟨b, off, none⟩ = some v) : b < w.heap.size := by
  by_cases hb : b < w.heap.size
  · exact hb
  · exfalso
    have : w.heap[b]? = none := Array.getElem?_eq_none (by omega)
    simp [World.cell?, this] at h
end Go.Proofs.Ytlgmmibncoedgaa

namespace Go.Proofs.Ytlgmmibncoedgaa
open Go.RowKit Go.Maps

/-- new blocks, and writes into the listed blocks alone -/
structure Turn (S : List Nat) (w w' : World) : Prop where
  os : w'.os = w.os
  tape : w'.tape = w.tape
  output : w'.output = w.output
  size : w.heap.size ≤ w'.heap.size
  block : ∀ k, k < w.heap.size → k ∉ S → w'.heap[k]? = w.heap[k]?
theorem Turn.refl (S : List Nat) (w : World) : Turn S w w := ⟨rfl, rfl, rfl, Nat.le_refl _, fun _ _ _ => rfl⟩
theorem Turn.trans {S : List Nat} {a b c : World} (h : Turn S a b) (k : Turn S b c) : Turn S a c :=
  ⟨k.os.trans h.os, k.tape.trans h.tape, k.output.trans h.output, Nat.le_trans h.size k.size, fun i hi hS => (k.block i (Nat.lt_of_lt_of_le hi h.size) hS).trans (h.block i hi hS)⟩
theorem Turn.mono {S S' : List Nat} {a b : World} (h : Turn S a b) (hs : ∀ k ∈ S, k ∈ S' ∨ a.heap.size ≤ k) : Turn S' a b :=
  ⟨h.os, h.tape, h.output, h.size, fun k hk hS => h.block k hk (fun hm => (hs k hm).elim hS (fun e => by omega))⟩
theorem Turn.of_below {S : List Nat} {a b : World} (h : Below a.heap.size a b) : Turn S a b := ⟨h.os, h.tape, h.output, h.size, fun k hk _ => h.block k hk⟩
theorem Turn.below {S : List Nat} {a b : World} (h : Turn S a b) {B : Nat} (hB : B ≤ a.heap.size) (hS : ∀ k ∈ S, B ≤ k) : Below B a b :=
  ⟨h.os, h.tape, h.output, h.size, fun k hk => h.block k (by omega) (fun hm => by have := hS k hm; omega)⟩
theorem Turn.of_grown {S : List Nat} {a b : World} {row : Option Nat} (h : a.grownBy b row) (hr : ∀ k, row = some k → k ∈ S ∨ a.heap.size ≤ k) : Turn S a b :=
  ⟨h.os, h.tape, h.output, h.size, fun k hk hS => h.block k hk (fun e => (hr k e.symm).elim hS (fun e => by omega))⟩
theorem Turn.alloc {S : List Nat} {a b : World} (h : Turn S a b) (o : Obj) : Turn S a (b.alloc o) := h.trans (Turn.of_below ((Below.refl _ _).alloc (Nat.le_refl _) o))
theorem Turn.of_alloc (S : List Nat) (w : World) (o : Obj) : Turn S w (w.alloc o) := (Turn.refl S w).alloc o

theorem Turn.setCell {S : List Nat} {a b : World} (h : Turn S a b) {g : Nat} (hg : g ∈ S) (i : Nat) (v : Value) : Turn S a (b.setCell ⟨g, i, none⟩ v) :=
  h.trans ⟨rfl, rfl, rfl, by simp, fun k _ hS => Below.heap_setCell b ⟨g, i, none⟩ v k (fun e => hS (by rw [e]; exact hg))⟩
theorem Turn.dn {S : List Nat} {a b : World} (h : Turn S a b) (n : Nat) : Turn S a (b.drewN n) := h.trans ⟨rfl, rfl, rfl, Nat.le_refl _, fun _ _ _ => rfl⟩
theorem Turn.cell {S : List Nat} {a b : World} (h : Turn S a b) {g i : Nat} (hg : g < a.heap.size) (hS : g ∉ S) : b.cell? ⟨g, i, none⟩ = a.cell? ⟨g, i, none⟩ := World.cell?_of_block (w := a) (a := ⟨g, i, none⟩) (h.block g hg hS)
theorem Turn.frozen {S : List Nat} {a b : World} (h : Turn S a b) {g i : Nat} (hg : g < a.heap.size) (hS : g ∉ S) : b.frozen? ⟨g, i, none⟩ = a.frozen? ⟨g, i, none⟩ := World.frozen?_of_block (w := a) (a := ⟨g, i, none⟩) (h.block g hg hS)
theorem belowN (w : World) (n : Nat) : Below w.heap.size w (w.drewN n) := ⟨rfl, rfl, rfl, Nat.le_refl _, fun _ _ => rfl⟩
theorem vbox {w w2 : World} {x0 x1 : Value} {T : TypeId} (hb : Below (w.alloc (.cells #[x0, x1] T)).heap.size (w.alloc (.cells #[x0, x1] T)) w2) :
    w2.cell? ⟨w.heap.size, 0, none⟩ = some x0 ∧ w2.cell? ⟨w.heap.size, 1, none⟩ = some x1 := by
  refine ⟨?_, ?_⟩
  all_goals
    rw [hb.cell (by simp), World.cell?_alloc_at _ _ _ _ rfl]
    rfl

end Go.Proofs.Ytlgmmibncoedgaa

set_option linter.unusedVariables false
namespace Go.Proofs.Ytlgmmibncoedgaa
open Go.RowKit Go.Maps Go.Deep

def byV (c : UInt8) : Value := .int .u8 (c.toNat : Int)
/-- bytes lie one behind the other, from a place of a block on -/
def ByAt (w : World) (b off : Nat) (bs : List UInt8) : Prop := ∀ i (h : i < bs.length), w.cell? ⟨b, off + i, none⟩ = some (.int .u8 (bs[i].toNat : Int))
def ByIn (w : World) (a : Option Addr) (bs : List UInt8) : Prop := bs = [] ∨ ∃ b off, a = some ⟨b, off, none⟩ ∧ b < w.heap.size ∧ ByAt w b off bs
/-- a slice value that leads to these bytes, for reading -/
def ByRd (w : World) (v : Value) (bs : List UInt8) : Prop := ∃ a cap, v = .slice a bs.length cap ∧ ByIn w a bs ∧ bs.length ≤ cap
/-- a slice value of one's own with these bytes; S: its block, where it has one -/
def ByOwn (S : List Nat) (w : World) (v : Value) (bs : List UInt8) : Prop :=
  (S = [] ∧ bs = [] ∧ ∃ a cap, v = .slice a 0 cap) ∨ ∃ b off cap, S = [b] ∧ v = .slice (some ⟨b, off, none⟩) bs.length cap ∧ b < w.heap.size ∧ ByAt w b off bs ∧ (∀ i, i < bs.length → w.frozen? ⟨b, off + i, none⟩ = false) ∧ bs.length ≤ cap

theorem ByAt.below {w w' : World} {B b off : Nat} {bs : List UInt8} (h : ByAt w b off bs) (hb : Below B w w') (hB : b < B) : ByAt w' b off bs := fun i hi => (hb.cell (by exact hB)).trans (h i hi)
theorem ByAt.turn {w w' : World} {S : List Nat} {b off : Nat} {bs : List UInt8} (h : ByAt w b off bs) (ht : Turn S w w') (hb : b < w.heap.size) (hS : b ∉ S) : ByAt w' b off bs := fun i hi => (ht.cell hb hS).trans (h i hi)
theorem ByIn.below {w w' : World} {B : Nat} {a : Option Addr} {bs : List UInt8} (h : ByIn w a bs) (hb : Below B w w') (hB : ∀ x, a = some x → 1 ≤ bs.length → x.block < B) : ByIn w' a bs := by
  rcases h with h | ⟨b, off, e, hlt, hn⟩
  · exact .inl h
  · by_cases h0 : bs.length = 0
    · exact .inl (List.eq_nil_of_length_eq_zero h0)
    · exact .inr ⟨b, off, e, Nat.lt_of_lt_of_le hlt hb.size, hn.below hb (hB _ e (by omega))⟩
theorem ByIn.up {w w' : World} {a : Option Addr} {bs : List UInt8} (h : ByIn w a bs) (hb : Below w.heap.size w w') : ByIn w' a bs := by
  rcases h with h | ⟨b, off, e, hlt, hn⟩
  · exact .inl h
  · exact .inr ⟨b, off, e, Nat.lt_of_lt_of_le hlt hb.size, hn.below hb hlt⟩
theorem ByRd.up {w w' : World} {v : Value} {bs : List UInt8} (h : ByRd w v bs) (hb : Below w.heap.size w w') : ByRd w' v bs := by
  obtain ⟨a, cap, e, h, hc⟩ := h
  exact ⟨a, cap, e, h.up hb, hc⟩
theorem ByRd.nil (w : World) (a : Option Addr) (cap : Nat) : ByRd w (.slice a 0 cap) [] := ⟨a, cap, rfl, .inl rfl, Nat.zero_le _⟩
theorem ByOwn.nil (w : World) (a : Option Addr) (cap : Nat) : ByOwn [] w (.slice a 0 cap) [] := .inl ⟨rfl, rfl, a, cap, rfl⟩
theorem ByOwn.rd {S : List Nat} {w : World} {v : Value} {bs : List UInt8} (h : ByOwn S w v bs) : ByRd w v bs := by
  rcases h with ⟨_, rfl, a, cap, rfl⟩ | ⟨b, off, cap, _, rfl, hb, hc, _, hcap⟩
  · exact ByRd.nil _ _ _
  · exact ⟨_, cap, rfl, .inr ⟨b, off, rfl, hb, hc⟩, hcap⟩
theorem ByOwn.turn {S S' : List Nat} {w w' : World} {v : Value} {bs : List UInt8} (h : ByOwn S w v bs) (ht : Turn S' w w') (hS : ∀ k ∈ S, k ∉ S') : ByOwn S w' v bs := by
  rcases h with h | ⟨b, off, cap, rfl, rfl, hb, hc, hf, hcap⟩
  · exact .inl h
  · have hn := hS b (by simp)
    exact .inr ⟨b, off, cap, rfl, rfl, Nat.lt_of_lt_of_le hb ht.size, hc.turn ht hb hn, fun i hi => (ht.frozen hb hn).trans (hf i hi), hcap⟩
theorem ByOwn.up {S : List Nat} {w w' : World} {v : Value} {bs : List UInt8} (h : ByOwn S w v bs) (hb : Below w.heap.size w w') : ByOwn S w' v bs := h.turn (Turn.of_below (S := []) hb) (by simp)
theorem ByOwn.lt {S : List Nat} {w : World} {v : Value} {bs : List UInt8} (h : ByOwn S w v bs) : ∀ k ∈ S, k < w.heap.size := by
  rcases h with ⟨rfl, _⟩ | ⟨b, off, cap, rfl, rfl, hb, _⟩
  · simp
  · simpa using hb
theorem ByOwn.nodup {S : List Nat} {w : World} {v : Value} {bs : List UInt8} (h : ByOwn S w v bs) : S.Nodup := by
  rcases h with ⟨rfl, _⟩ | ⟨b, off, cap, rfl, _⟩ <;> simp
/-- a row that was made by appending is one's own -/
theorem ByOwn.of_row {w : World} {B : Nat} {v : Value} {bs : List UInt8} (h : w.ownsRow B 5 1 v bs.length (bs.map byV)) : ∃ S, ByOwn S w v bs ∧ ∀ k ∈ S, B ≤ k := by
  have hh := h
  rcases h with ⟨_, ⟨rfl, h0⟩ | ⟨g, cap, cur, rfl, hB, hg, hnc, _⟩⟩
  · have : bs = [] := List.eq_nil_of_length_eq_zero h0
    subst this
    exact ⟨[], ByOwn.nil _ _ _, by simp⟩
  · refine ⟨[g], .inr ⟨g, 0, cap, rfl, rfl, (Array.getElem?_eq_some_iff.1 hg).1, fun i hi => ?_, fun i hi => hh.frozenAt _, hnc⟩, by simpa using hB⟩
    rw [Nat.zero_add, hh.cellAt _ (by omega)]
    simp [byV, hi]
theorem ByRd.len {w : World} {v : Value} {bs : List UInt8} (h : ByRd w v bs) : ∃ a cap, v = .slice a bs.length cap := by
  obtain ⟨a, cap, e, _⟩ := h
  exact ⟨a, cap, e⟩

theorem infoByte : (Try.prog.info? 5).map (fun i => (i.zero, i.size, i.bytes)) = some (some (.int .u8 0), 1, 1) := by kernel_rfl
theorem info_parts1 {t : TypeId} {z : Value} {a b : Nat} (h : (Try.prog.info? t).map (fun i => (i.zero, i.size, i.bytes)) = some (some z, a, b)) : ∃ i, Try.prog.info? t = some i ∧ i.zero = some z ∧ i.size = a ∧ i.bytes = b := by
  cases hi : Try.prog.info? t with
  | none => rw [hi] at h; cases h
  | some i =>
    rw [hi] at h
    simp only [Option.map_some, Option.some.injEq, Prod.mk.injEq] at h
    exact ⟨i, rfl, h.1, h.2.1, h.2.2⟩


theorem byRow_cell {w : World} {B g n : Nat} {xs : List Value} (h : w.ownsRow B 5 1 (.slice (some ⟨g, 0, none⟩) n n) n xs) (k : Nat) (hk : k < n) : ∃ v0, w.cell? ⟨g, k, none⟩ = some v0 ∧ w.frozen? ⟨g, k, none⟩ = false := by
  have hx := h.1
  refine ⟨xs[k]'(by omega), ?_, h.frozenAt _⟩
  rw [h.cellAt _ (by omega)]
  exact List.getElem?_eq_getElem _

set_option maxHeartbeats 1600000 in
theorem toByteS_row (w : World) (b off cap : Nat) (bs : List UInt8) (hl : bs.length ≤ 1048576) (hc : ByAt w b off bs) (hb : b < w.heap.size) :
    Calls Try.prog 22 #[.slice (some ⟨b, off, none⟩) bs.length cap] w fun e w' => e = .returned (.slice (some ⟨w.heap.size, 0, none⟩) bs.length bs.length) ∧ w'.ownsRow w.heap.size 5 1 (.slice (some ⟨w.heap.size, 0, none⟩) bs.length bs.length) bs.length (bs.map byV) ∧ w.heap.size < w'.heap.size ∧ Below w.heap.size w w' := by
  obtain ⟨i0, hi, hz0, hz1, hz2⟩ := info_parts1 infoByte
  have HC := hide hc
  clear hc
  go_enter Try.func22, Try.ntmps22
  go_wp2_with (first
    | (at_make; refine wpList_make_full _ rfl _ _ 22 rfl w.heap.size 5 i0 _ 1 Try.underlying22 hi hz0 hz1 _ _ _ _ bs.length rfl rfl rfl rfl (by rw [hz2]; omega) (by unfold maxLen; omega) (Nat.le_refl _) ?_; intro w1 hown hgrow)
    | go_in)
  clear hz0 hz1 hz2 hi
  have hlt1 : w.heap.size < w1.heap.size := by
    rcases hown.2 with ⟨h', _⟩ | ⟨g', cap', cur, h', _, hg, _⟩
    · simp at h'
    · simp only [Value.slice.injEq, Option.some.injEq, Addr.mk.injEq, and_true, true_and] at h'
      obtain ⟨rfl, rfl⟩ := h'
      exact (Array.getElem?_eq_some_iff.1 hg).1
  have hbw1 : Below w.heap.size w w1 := (Below.refl _ _).grown hgrow (Nat.le_refl _) (fun k hk => by cases hk)
  go_loopw [4] (fun i wr => ∃ (k : Nat) (xs : List Value), k ≤ bs.length ∧ i = .int .i64 k ∧ Hid (wr.ownsRow w.heap.size 5 1 (.slice (some ⟨w.heap.size, 0, none⟩) bs.length bs.length) bs.length xs) ∧ Hid (∀ j (h : j < bs.length), j < k → xs[j]? = some (byV bs[j])) ∧ w.heap.size < wr.heap.size ∧ Hid (Below w.heap.size w wr)) (fun i _ => bs.length - (intOf i).toNat)
  case atStart => exact ⟨0, _, Nat.zero_le _, rfl, hown, fun j _ hj => absurd hj (Nat.not_lt_zero _), hlt1, hbw1⟩
  case round =>
    obtain ⟨k, xs, hk, rfl, HR, HT, hsz, HB⟩ := hrel
    by_cases hlt : k < bs.length
    · have c0 := ((unhide HB).cell (show b < w.heap.size from hb)).trans (unhide HC k hlt)
      obtain ⟨v0, d0, f0⟩ := byRow_cell (unhide HR) k hlt
      have HS := hide ((unhide HR).stored k (byV bs[k])).1
      have HS2 := hide (show ∀ j (h : j < bs.length), j < k + 1 → (xs.set k (byV bs[k]))[j]? = some (byV bs[j]) by
        intro j hj hjk
        have hx := (unhide HR).1
        by_cases e : k = j
        · subst e
          rw [List.getElem?_set_self (by omega)]
        · rw [List.getElem?_set_ne e]
          exact unhide HT j hj (by omega))
      have HBS := hide ((unhide HB).setCell (p := ⟨w.heap.size, k, none⟩) (Nat.le_refl _) (byV bs[k]))
      clear HT hown
      generalize hv : (bs[k].toNat : Int) = x at c0
      rw [show byV bs[k] = .int .u8 x by rw [← hv]; rfl] at HS HBS HS2
      clear hv
      go_wp2_with fail
      clear d0 f0 c0
      go_roundw
      case rel => exact ⟨k + 1, _, by omega, by go_num, HS, HS2, by simpa using hsz, HBS⟩
      case measure => simp [intOf]; omega
    · have e : k = bs.length := by omega
      subst e
      have hxs : xs = bs.map byV := by
        have hx := (unhide HR).1
        refine List.ext_getElem (by simpa using hx) fun j h1 h2 => ?_
        have := unhide HT j (by omega) (by omega)
        rw [List.getElem?_eq_getElem h1] at this
        simpa using this
      rw [hxs] at HR
      clear hxs
      go_wp2_with fail
      go_ret
      exact ⟨rfl, unhide HR, hsz, unhide HB⟩

set_option maxHeartbeats 800000 in
theorem toByteS_none (w : World) (a : Option Addr) (cap : Nat) :
    Calls Try.prog 22 #[.slice a 0 cap] w fun e w' => e = .returned (.slice (some ⟨w.heap.size, 0, none⟩) 0 0) ∧ w'.ownsRow w.heap.size 5 1 (.slice (some ⟨w.heap.size, 0, none⟩) 0 0) 0 [] ∧ w.heap.size < w'.heap.size ∧ Below w.heap.size w w' := by
  obtain ⟨i0, hi, hz0, hz1, hz2⟩ := info_parts1 infoByte
  go_enter Try.func22, Try.ntmps22
  go_wp2_with (first
    | (at_make; refine wpList_make_full _ rfl _ _ 22 rfl w.heap.size 5 i0 _ 1 Try.underlying22 hi hz0 hz1 _ _ _ _ 0 rfl rfl rfl rfl (by rw [hz2]; omega) (by unfold maxLen; omega) (Nat.le_refl _) ?_; intro w1 hown hgrow)
    | go_in)
  have hlt1 : w.heap.size < w1.heap.size := by
    rcases hown.2 with ⟨h', _⟩ | ⟨g', cap', cur, h', _, hg, _⟩
    · simp at h'
    · simp only [Value.slice.injEq, Option.some.injEq, Addr.mk.injEq, and_true, true_and] at h'
      obtain ⟨rfl, rfl⟩ := h'
      exact (Array.getElem?_eq_some_iff.1 hg).1
  have hbw1 : Below w.heap.size w w1 := (Below.refl _ _).grown hgrow (Nat.le_refl _) (fun k hk => by cases hk)
  have HO := hide (show w1.ownsRow w.heap.size 5 1 (.slice (some ⟨w.heap.size, 0, none⟩) 0 0) 0 [] by
    have hx := List.eq_nil_of_length_eq_zero (hown.1.trans (Nat.zero_mul 1))
    rw [hx] at hown
    exact hown)
  clear hown hgrow
  refine wp_loop_rounds 1 ?_
  rw [rounds_succ]
  go_wp2
  go_ret
  exact ⟨rfl, unhide HO, hlt1, hbw1⟩
theorem toByteS_in (w : World) (a : Option Addr) (cap : Nat) (bs : List UInt8) (hl : bs.length ≤ 1048576) (h : ByIn w a bs) :
    Calls Try.prog 22 #[.slice a bs.length cap] w fun e w' => e = .returned (.slice (some ⟨w.heap.size, 0, none⟩) bs.length bs.length) ∧ w'.ownsRow w.heap.size 5 1 (.slice (some ⟨w.heap.size, 0, none⟩) bs.length bs.length) bs.length (bs.map byV) ∧ w.heap.size < w'.heap.size ∧ Below w.heap.size w w' := by
  rcases h with rfl | ⟨b, off, rfl, hb, hn⟩
  · exact toByteS_none w a cap
  · exact toByteS_row w b off cap bs hl hn hb
/-- the copy is one's own, in the next block -/
theorem toByteS_own (w : World) (a : Option Addr) (cap : Nat) (bs : List UInt8) (hl : bs.length ≤ 1048576) (h : ByIn w a bs) :
    Calls Try.prog 22 #[.slice a bs.length cap] w fun e w' => e = .returned (.slice (some ⟨w.heap.size, 0, none⟩) bs.length bs.length) ∧ ByOwn [w.heap.size] w' (.slice (some ⟨w.heap.size, 0, none⟩) bs.length bs.length) bs ∧ w.heap.size < w'.heap.size ∧ Below w.heap.size w w' := by
  refine (toByteS_in w a cap bs hl h).mono ?_
  rintro e w' ⟨rfl, hr, hz, hb⟩
  refine ⟨rfl, .inr ⟨w.heap.size, 0, bs.length, rfl, rfl, hz, fun i hi => ?_, fun i hi => hr.frozenAt _, Nat.le_refl _⟩, hz, hb⟩
  rw [Nat.zero_add, hr.cellAt _ (by omega)]
  simp [byV, hi]

set_option maxHeartbeats 1600000 in
theorem eqByteS_row (w : World) (b off cap b' off' cap' : Nat) (bs : List UInt8) (hl : bs.length ≤ maxLen) (hc : ByAt w b off bs) (hc' : ByAt w b' off' bs) (hb : b < w.heap.size) (hb' : b' < w.heap.size) :
    Calls Try.prog 24 #[.slice (some ⟨b, off, none⟩) bs.length cap, .slice (some ⟨b', off', none⟩) bs.length cap'] w fun e w' => e = .returned (.bool true) ∧ Below w.heap.size w w' := by
  unfold maxLen at hl
  have HC := hide hc
  have HC' := hide hc'
  clear hc hc'
  go_enter Try.func24, Try.ntmps24
  go_wp2_with fail
  go_loopw [5] (fun i wr => ∃ (k : Nat), k ≤ bs.length ∧ i = .int .i64 k ∧ Hid (Below w.heap.size w wr)) (fun i _ => bs.length - (intOf i).toNat)
  case atStart => exact ⟨0, Nat.zero_le _, rfl, Below.refl _ _⟩
  case round =>
    obtain ⟨k, hk, rfl, HB⟩ := hrel
    by_cases hlt : k < bs.length
    · have c0 := ((unhide HB).drew.cell (show b < w.heap.size from hb)).trans (unhide HC k hlt)
      have c1 := ((unhide HB).drew.cell (show b' < w.heap.size from hb')).trans (unhide HC' k hlt)
      have HBD := hide (unhide HB).drew
      generalize (bs[k].toNat : Int) = x at c0 c1
      go_wp2_with fail
      go_region_held3 (fun w' => w' = wr.drew) (rfl) (fail)
      clear c0 c1
      go_wp2_with fail
      go_roundw
      case rel => exact ⟨k + 1, by omega, by go_num, HBD⟩
      case measure => simp [intOf]; omega
    · go_wp2_with fail
      go_ret
      exact ⟨rfl, unhide HB⟩
theorem eqByteS_none (w : World) (a a' : Option Addr) (cap cap' : Nat) : Calls Try.prog 24 #[.slice a 0 cap, .slice a' 0 cap'] w fun e w' => e = .returned (.bool true) ∧ Below w.heap.size w w' := by
  go_enter Try.func24, Try.ntmps24
  go_wp2
  refine wp_loop_rounds 1 ?_
  rw [rounds_succ]
  go_wp2
  go_ret
  exact ⟨rfl, Below.refl _ _⟩
theorem eqByteS_same (w : World) (v v' : Value) (bs : List UInt8) (hl : bs.length ≤ maxLen) (h : ByRd w v bs) (h' : ByRd w v' bs) :
    Calls Try.prog 24 #[v, v'] w fun e w' => e = .returned (.bool true) ∧ Below w.heap.size w w' := by
  obtain ⟨a, cap, rfl, h, _⟩ := h
  obtain ⟨a', cap', rfl, h', _⟩ := h'
  by_cases h0 : bs = []
  · subst h0; exact eqByteS_none w a a' cap cap'
  · obtain ⟨b, off, rfl, hb, hc⟩ := h.resolve_left h0
    obtain ⟨b', off', rfl, hb', hc'⟩ := h'.resolve_left h0
    exact eqByteS_row w b off cap b' off' cap' bs hl hc hc' hb hb'

/-- the marks from k on -/
def byMarks (k n : Nat) : List UInt8 := (List.range n).map fun j => UInt8.ofNat (k + j)
theorem byMarks_len (k n : Nat) : (byMarks k n).length = n := by simp [byMarks]
theorem byMarks_get (k n j : Nat) (h : j < (byMarks k n).length) : (byMarks k n)[j] = UInt8.ofNat (k + j) := by simp [byMarks]
theorem byMark_val (k : Nat) : ((UInt8.ofNat k).toNat : Int) = IntKind.u8.wrap (k : Int) := by
  rw [UInt8.toNat_ofNat']
  show _ = (k : Int) % 256
  omega

set_option maxHeartbeats 1600000 in
theorem markByteS_row (w : World) (b off n cap k : Nat) (hk : k ≤ 4294967296) (hl : n ≤ 1048576) (hb : b < w.heap.size) (hc : ∀ i, i < n → ∃ v, w.cell? ⟨b, off + i, none⟩ = some v) (hf : ∀ i, i < n → w.frozen? ⟨b, off + i, none⟩ = false) :
    Calls Try.prog 25 #[.slice (some ⟨b, off, none⟩) n cap, .int .i64 (k : Int)] w fun e w' => e = .returned (.int .i64 ((k + n : Nat) : Int)) ∧ Hid (ByAt w' b off (byMarks k n) ∧ (∀ i, i < n → w'.frozen? ⟨b, off + i, none⟩ = false) ∧ Turn [b] w w') := by
  have HC := hide hc
  have HF := hide hf
  clear hc hf
  go_enter Try.func25, Try.ntmps25
  go_wp2_with fail
  go_loopw [1, 5] (fun kv i wr => ∃ j : Nat, j ≤ n ∧ i = .int .i64 j ∧ kv = .int .i64 ((k : Int) + (j : Int)) ∧ Hid (∀ i, i < n → ∃ v, wr.cell? ⟨b, off + i, none⟩ = some v) ∧ Hid (∀ i, i < n → wr.frozen? ⟨b, off + i, none⟩ = false) ∧ Hid (∀ i, i < j → wr.cell? ⟨b, off + i, none⟩ = some (.int .u8 (IntKind.u8.wrap ((k : Int) + (i : Int))))) ∧ Hid (Turn [b] w wr)) (fun _ i _ => n - (intOf i).toNat)
  case atStart => exact ⟨0, Nat.zero_le _, rfl, by simp, HC, HF, fun i hi => absurd hi (Nat.not_lt_zero _), Turn.refl _ _⟩
  case round =>
    obtain ⟨j, hj, rfl, rfl, HCr, HFr, HM, HT⟩ := hrel
    by_cases hlt : j < n
    · obtain ⟨v0, c0⟩ := unhide HCr j hlt
      have f0 := unhide HFr j hlt
      have HC2 := hide (show ∀ i, i < n → ∃ v, (wr.setCell ⟨b, off + j, none⟩ (.int .u8 (IntKind.u8.wrap ((k : Int) + (j : Int))))).cell? ⟨b, off + i, none⟩ = some v from fun i hi => by
        obtain ⟨v, hv⟩ := unhide HCr i hi
        exact cell?_setCell_some hv)
      have HF2 := hide (show ∀ i, i < n → (wr.setCell ⟨b, off + j, none⟩ (.int .u8 (IntKind.u8.wrap ((k : Int) + (j : Int))))).frozen? ⟨b, off + i, none⟩ = false from fun i hi => by
        rw [World.frozen?_setCell]; exact unhide HFr i hi)
      have HM2 := hide (show ∀ i, i < j + 1 → (wr.setCell ⟨b, off + j, none⟩ (.int .u8 (IntKind.u8.wrap ((k : Int) + (j : Int))))).cell? ⟨b, off + i, none⟩ = some (.int .u8 (IntKind.u8.wrap ((k : Int) + (i : Int)))) from fun i hi => by
        by_cases e : i = j
        · subst e
          exact World.cell?_setCell_same _ _ _ c0
        · rw [World.cell?_setCell_other _ _ _ _ (by intro h; have := congrArg Addr.off h; simp only at this; omega)]
          exact unhide HM i (by omega))
      have HT2 := hide ((unhide HT).setCell (by simp : b ∈ [b]) (off + j) (.int .u8 (IntKind.u8.wrap ((k : Int) + (j : Int)))))
      clear HCr HFr HM HT
      go_wp2_with fail
      clear c0 f0
      go_roundw
      case rel => exact ⟨j + 1, by omega, by go_num, by go_num, HC2, HF2, HM2, HT2⟩
      case measure => simp [intOf]; omega
    · have e : j = n := by omega
      subst e
      have HA := hide (show ByAt wr b off (byMarks k j) from fun i hi => by
        rw [byMarks_len] at hi
        rw [unhide HM i hi, byMarks_get, byMark_val]
        congr 2)
      go_wp2_with fail
      go_ret
      exact ⟨ret_int (by omega), hide ⟨unhide HA, unhide HFr, unhide HT⟩⟩
theorem markByteS_none (w : World) (a : Option Addr) (cap k : Nat) : Calls Try.prog 25 #[.slice a 0 cap, .int .i64 (k : Int)] w fun e w' => e = .returned (.int .i64 (k : Int)) ∧ w' = w := by
  go_enter Try.func25, Try.ntmps25
  go_wp2
  refine wp_loop_rounds 1 ?_
  rw [rounds_succ]
  go_wp2
  go_ret
  exact ⟨rfl, rfl⟩
theorem markByteS_any (S : List Nat) (w : World) (v : Value) (bs : List UInt8) (k : Nat) (hk : k ≤ 4294967296) (hl : bs.length ≤ 1048576) (h : ByOwn S w v bs) :
    Calls Try.prog 25 #[v, .int .i64 (k : Int)] w fun e w' => e = .returned (.int .i64 ((k + bs.length : Nat) : Int)) ∧ Hid (ByOwn S w' v (byMarks k bs.length) ∧ Turn S w w') := by
  rcases h with ⟨rfl, rfl, a, cap, rfl⟩ | ⟨b, off, cap, rfl, rfl, hb, hc, hf, hcap⟩
  · refine (markByteS_none w a cap k).mono ?_
    rintro e w' ⟨rfl, rfl⟩
    exact ⟨rfl, ByOwn.nil _ _ _, Turn.refl _ _⟩
  · refine (markByteS_row w b off bs.length cap k hk hl hb (fun i hi => ⟨_, hc i hi⟩) hf).mono ?_
    rintro e w' ⟨rfl, h1, h2, h3⟩
    refine ⟨rfl, .inr ⟨b, off, cap, rfl, by rw [byMarks_len], Nat.lt_of_lt_of_le hb h3.size, h1, fun i hi => h2 i (by rwa [byMarks_len] at hi), by rw [byMarks_len]; exact hcap⟩, h3⟩

end Go.Proofs.Ytlgmmibncoedgaa
