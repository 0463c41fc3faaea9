/-
  strconv.Itoa by the shelf's contract, at every number; the table that it reads.
-/
/-
  A list of bytes that comes in, opened.
-/
/-
  Lists of texts in memory, and the law's own helpers over them: how much they hold, how they are copied, compared, marked, and how one that comes in is opened.
-/
/-
  Rows of texts that one may append to.
-/
/-
  Rows of texts, opened.
-/
import Derived.Test.YtiebfcefmdiajaaGreatDoorShelfA
import Derived.Test.YtiebfcefmdiajaaGreatDoorMerged34
import Derived.Lib.LaidTab
import Derived.WalkSmall
import Derived.Test.YtiebfcefmdiajaaGreatDoorMerged4
import Derived.ProofKit
import Derived.OpenShut
import Derived.Test.YtiebfcefmdiajaaGreatDoorMerged38
import Derived.Deep.RegionHeld3
import Derived.Deep.RegionWith
import Derived.Deep.Slices
import Derived.Deep.AppendLies
set_option linter.unusedVariables false
namespace Go.Proofs.YtiebfcefmdiajaaGreatDoor
open Go.RowKit Go.Maps

theorem below_grown_dn (B : Nat) (w : World) (q : Nat) (os : Array Obj) (hB : B ≤ w.heap.size) : Below B w (Sort.grow (w.drewN q) os) := by
  refine ⟨rfl, rfl, rfl, ?_, fun i hi => ?_⟩
  · simp [Sort.grow]
  · have h : i < (w.drewN q).heap.size := Nat.lt_of_lt_of_le hi hB
    simp only [Sort.grow, Array.getElem?_append_left h]
    rfl
theorem gPow : Tryz.prog.globalNamed "internal/strconv.uint64pow10" = some 2 := by kernel_rfl
theorem lt_of_cellP {w : World} {b off : Nat} {v : Value} (h : w.cell? ⟨b, off, none⟩ = some v) : b < w.heap.size := by
  by_cases hb : b < w.heap.size
  · exact hb
  · exfalso
    have : w.heap[b]? = none := Array.getElem?_eq_none (by omega)
    simp [World.cell?, this] at h
theorem tab_below {w w' : World} {B : Nat} (h : Lib.TabIs Tryz.prog w "internal/strconv.uint64pow10" .u64 Lib.pow10Tab) (hb : Below B w w') (hB : w.heap.size ≤ B) : Lib.TabIs Tryz.prog w' "internal/strconv.uint64pow10" .u64 Lib.pow10Tab := by
  have hc := Lib.TabIs.cell h gPow 0 (by decide)
  have hl := lt_of_cellP hc
  exact var?_below hb gPow (Nat.lt_of_lt_of_le hl hB) h
def PowIn (w : World) : Prop := Lib.TabIs Tryz.prog w "internal/strconv.uint64pow10" .u64 Lib.pow10Tab
theorem PowIn.below {w w' : World} {B : Nat} (h : PowIn w) (hb : Below B w w') (hB : w.heap.size ≤ B) : PowIn w' := tab_below h hb hB
theorem itoa_any (n : Int) (h0 : -9223372036854775808 ≤ n) (h1 : n ≤ 9223372036854775807) (w : World) (h : PowIn w) : Calls Tryz.prog 52 #[.int .i64 n] w fun e w' => e = .returned (.string (itoaB n)) ∧ Below w.heap.size w w' := by
  refine (Tryz.strconv_Itoa n h0 h1 w h).mono ?_
  rintro e w' ⟨rfl, kk, os, rfl⟩
  exact ⟨rfl, below_grown_dn _ _ _ _ (Nat.le_refl _)⟩

end Go.Proofs.YtiebfcefmdiajaaGreatDoor

namespace Go.Proofs.YtiebfcefmdiajaaGreatDoor
open Go.RowKit Go.Maps Go.Deep Go.ChangeShapes Go.WideShapes Go.ChangeAt

theorem cells_byteA : Tryz.prog.cellsOf 5 = 1 := by kernel_rfl
theorem choose_byte {n : Nat} {P : Nat → UInt8 → Prop} (h : ∀ i, i < n → ∃ c, P i c) : ∃ bs : List UInt8, bs.length = n ∧ ∀ i (hi : i < bs.length), P i bs[i] := by
  induction n with
  | zero => exact ⟨[], rfl, fun i hi => absurd hi (Nat.not_lt_zero _)⟩
  | succ n ih =>
    obtain ⟨bs, hl, hb⟩ := ih (fun i hi => h i (by omega))
    obtain ⟨c, hc⟩ := h n (by omega)
    refine ⟨bs ++ [c], by simp [hl], fun i hi => ?_⟩
    by_cases e : i < bs.length
    · rw [List.getElem_append_left e]; exact hb i e
    · have : i = n := by simp at hi; omega
      subst this
      rw [List.getElem_append_right (by omega)]
      simpa [hl] using hc
theorem open_byte_cell {H : Type} {enc : TypeId × Value → H} {w : World} {base : Nat} {spare : Nat → Bool} {held : Bool} {c : Value} {fuel : Nat} {y : DataW H × List MemPlace}
    (hf : DataW.trod enc Tryz.prog w base spare held fuel 30 [c] = some y) :
    ∃ a cap, ∃ bs : List UInt8, c = .slice a bs.length cap ∧ bs.length ≤ maxLen ∧ bs.length ≤ cap ∧ ByIn w a bs := by
  rcases open_slice Tryz.underlying30 hf with ⟨hcs, _⟩ | ⟨a', len, cap, m, n, D, Pl, hcs, hb, hl, hm, hmm, _, hx⟩
  · simp at hcs
    subst hcs
    exact ⟨none, 0, [], rfl, by unfold maxLen; simp, Nat.le_refl _, .inl rfl⟩
  · simp at hcs
    subst hcs
    have hlm : len ≤ m := by rw [hmm]; split <;> omega
    have each : ∀ i, i < len → ∃ c : UInt8, w.cell? (a'.add i) = some (.int .u8 (c.toNat : Int)) := by
      intro i hi
      obtain ⟨cs', h1, h2⟩ := hx i (by omega)
      rw [cells_byteA] at h1
      obtain ⟨_, hlen, hcell⟩ := World.cells?_some h1
      match cs', hlen with
      | [v0], _ =>
        obtain ⟨n0, e0, _, hr⟩ := DataW.trod_int Tryz.underlying5 h2
        simp at e0
        subst e0
        have c0 := hcell 0 (by omega)
        have hr' : 0 ≤ n0 ∧ n0 ≤ 255 := by
          have hr2 := Bool.and_eq_true_iff.1 hr
          exact ⟨of_decide_eq_true hr2.1, of_decide_eq_true hr2.2⟩
        obtain ⟨v, rfl⟩ := Int.eq_ofNat_of_zero_le hr'.1
        rw [Nat.mul_one] at c0
        refine ⟨UInt8.ofNat v, ?_⟩
        rw [UInt8.toNat_ofNat', Nat.mod_eq_of_lt (by omega)]
        simpa [Addr.add] using c0
    obtain ⟨bs, hbl, hbs⟩ := choose_byte each
    refine ⟨some a', cap, bs, by rw [hbl], by omega, by omega, ?_⟩
    by_cases h0 : len = 0
    · exact .inl (List.eq_nil_of_length_eq_zero (by omega))
    · have hc0 := hbs 0 (by omega)
      obtain ⟨b, off, spot⟩ := a'
      have hspot : spot = none := by simpa [Addr.add] using World.cell?_spot hc0
      subst hspot
      refine .inr ⟨b, off, rfl, lt_of_cell0 (by simpa [Addr.add] using hc0), ?_⟩
      intro i hi
      have h2 := hbs i hi
      by_cases e : i = 0
      · subst e; simpa [Addr.add] using h2
      · simpa [Addr.add, e] using h2
theorem open_byteS {H : Type} {enc : TypeId × Value → H} {w : World} {base : Nat} {spare : Nat → Bool} {held : Bool} {a : Option Addr} {len cap : Nat} {d : DataW H} {p : List MemPlace}
    (h : DataW.Trod enc Tryz.prog w base spare held 30 (.slice a len cap) d p) :
    ∃ bs : List UInt8, bs.length = len ∧ len ≤ maxLen ∧ len ≤ cap ∧ ByIn w a bs := by
  obtain ⟨fuel, hf⟩ := h
  obtain ⟨a', cap', bs, e, h1, h2, h3⟩ := open_byte_cell (c := .slice a len cap) (by simpa [Value.cells] using hf)
  simp only [Value.slice.injEq] at e
  obtain ⟨rfl, rfl, rfl⟩ := e
  exact ⟨bs, rfl, h1, h2, h3⟩
end Go.Proofs.YtiebfcefmdiajaaGreatDoor

set_option linter.unusedVariables false
namespace Go.Proofs.YtiebfcefmdiajaaGreatDoor
open Go.RowKit Go.Maps Go.Deep Go.ChangeShapes Go.WideShapes Go.ChangeAt

def StrsAt (w : World) (b off : Nat) (ts : List ByteArray) : Prop := ∀ i (h : i < ts.length), w.cell? ⟨b, off + i, none⟩ = some (.string ts[i])
def StrsIn (w : World) (a : Option Addr) (ts : List ByteArray) : Prop := ts = [] ∨ ∃ b off, a = some ⟨b, off, none⟩ ∧ b < w.heap.size ∧ StrsAt w b off ts
def StrsOk (ts : List ByteArray) : Prop := ∀ t ∈ ts, t.size ≤ maxLen
def StringSRd (w : World) (v : Value) (ts : List ByteArray) : Prop := ∃ a c, v = .slice a ts.length c ∧ StrsIn w a ts
def StringSOwn (S : List Nat) (w : World) (v : Value) (ts : List ByteArray) : Prop :=
  (S = [] ∧ ts = [] ∧ ∃ a c, v = .slice a 0 c) ∨ ∃ b off cap, S = [b] ∧ v = .slice (some ⟨b, off, none⟩) ts.length cap ∧ b < w.heap.size ∧ StrsAt w b off ts ∧ ∀ i, i < ts.length → w.frozen? ⟨b, off + i, none⟩ = false
theorem StrsAt.below {w w' : World} {B b off : Nat} {ts : List ByteArray} (h : StrsAt w b off ts) (hb : Below B w w') (hB : b < B) : StrsAt w' b off ts := fun i hi => (hb.cell (by exact hB)).trans (h i hi)
theorem StrsAt.turn {w w' : World} {S : List Nat} {b off : Nat} {ts : List ByteArray} (h : StrsAt w b off ts) (ht : Turn S w w') (hb : b < w.heap.size) (hS : b ∉ S) : StrsAt w' b off ts := fun i hi => (ht.cell hb hS).trans (h i hi)
theorem StrsIn.below {w w' : World} {a : Option Addr} {ts : List ByteArray} (h : StrsIn w a ts) (hb : Below w.heap.size w w') : StrsIn w' a ts := by
  rcases h with h | ⟨b, off, e, hb', hc⟩
  · exact .inl h
  · exact .inr ⟨b, off, e, Nat.lt_of_lt_of_le hb' hb.size, hc.below hb hb'⟩
theorem StringSRd.up {w w' : World} {v : Value} {ts : List ByteArray} (h : StringSRd w v ts) (hb : Below w.heap.size w w') : StringSRd w' v ts := by
  obtain ⟨a, c, e, h⟩ := h
  exact ⟨a, c, e, h.below hb⟩
theorem StringSRd.form {w : World} {v : Value} {ts : List ByteArray} (h : StringSRd w v ts) : ∃ a n c, v = .slice a n c := by
  obtain ⟨a, c, e, _⟩ := h
  exact ⟨a, _, c, e⟩
theorem StringSOwn.rd {S : List Nat} {w : World} {v : Value} {ts : List ByteArray} (h : StringSOwn S w v ts) : StringSRd w v ts := by
  rcases h with ⟨_, rfl, a, c, rfl⟩ | ⟨b, off, cap, _, rfl, hb, hc, _⟩
  · exact ⟨a, c, rfl, .inl rfl⟩
  · exact ⟨_, cap, rfl, .inr ⟨b, off, rfl, hb, hc⟩⟩
theorem StringSOwn.turn {S S' : List Nat} {w w' : World} {v : Value} {ts : List ByteArray} (h : StringSOwn S w v ts) (ht : Turn S' w w') (hS : ∀ k ∈ S, k ∉ S') : StringSOwn S w' v ts := by
  rcases h with h | ⟨b, off, cap, rfl, rfl, hb, hc, hf⟩
  · exact .inl h
  · have hn := hS b (by simp)
    exact .inr ⟨b, off, cap, rfl, rfl, Nat.lt_of_lt_of_le hb ht.size, hc.turn ht hb hn, fun i hi => (ht.frozen hb hn).trans (hf i hi)⟩
theorem StringSOwn.up {S : List Nat} {w w' : World} {v : Value} {ts : List ByteArray} (h : StringSOwn S w v ts) (hb : Below w.heap.size w w') : StringSOwn S w' v ts := h.turn (Turn.of_below (S := []) hb) (by simp)
theorem StringSOwn.lt {S : List Nat} {w : World} {v : Value} {ts : List ByteArray} (h : StringSOwn S w v ts) : ∀ k ∈ S, k < w.heap.size := by
  rcases h with ⟨rfl, _⟩ | ⟨b, off, cap, rfl, rfl, hb, _⟩
  · simp
  · simpa using hb
def SmallStringS (ts : List ByteArray) : Prop := ts.length ≤ 1048576 ∧ ∀ t ∈ ts, t.size ≤ 1048576
def StringSFit (ts : List ByteArray) : Prop := ts.length ≤ maxLen ∧ StrsOk ts
def nStringS (ts : List ByteArray) : Nat := ts.length
theorem nStringS_le {ts : List ByteArray} (h : SmallStringS ts) : nStringS ts ≤ 100000000 := by have := h.1; unfold nStringS; omega
theorem infoString : (Tryz.prog.info? 9).map (fun i => (i.zero, i.size, i.bytes)) = some (some (.string ByteArray.empty), 1, 16) := by kernel_rfl
end Go.Proofs.YtiebfcefmdiajaaGreatDoor

set_option linter.unusedVariables false
namespace Go.Proofs.YtiebfcefmdiajaaGreatDoor
open Go.RowKit Go.Maps Go.Deep

def TxRow (B : Nat) (w : World) (v : Value) (ts : List ByteArray) : Prop := w.ownsRow B 9 1 v ts.length (ts.map .string)
theorem TxRow.nil (B : Nat) (w : World) : TxRow B w (.slice none 0 0) [] := ⟨rfl, .inl ⟨rfl, rfl⟩⟩
theorem TxRow.slice {B : Nat} {w : World} {v : Value} {ts : List ByteArray} (h : TxRow B w v ts) : ∃ a c, v = .slice a ts.length c := by
  rcases h with ⟨_, ⟨rfl, h0⟩ | ⟨g, cap, cur, rfl, _⟩⟩
  · exact ⟨none, 0, by rw [h0]⟩
  · exact ⟨_, cap, rfl⟩
theorem TxRow.ge {B : Nat} {w : World} {v : Value} {ts : List ByteArray} (h : TxRow B w v ts) : ∀ g, v.ownBlock = some g → B ≤ g := by
  intro g hg
  rcases h.2 with ⟨rfl, _⟩ | ⟨g', cap, cur, rfl, hB, _⟩
  · simp [Value.ownBlock] at hg
  · simp [Value.ownBlock] at hg; omega
theorem TxRow.lt {B : Nat} {w : World} {v : Value} {ts : List ByteArray} (h : TxRow B w v ts) : ∀ g, v.ownBlock = some g → g < w.heap.size := by
  intro g hg
  rcases h.2 with ⟨rfl, _⟩ | ⟨g', cap, cur, rfl, hB, hh, _⟩
  · simp [Value.ownBlock] at hg
  · simp [Value.ownBlock] at hg
    subst hg
    exact (Array.getElem?_eq_some_iff.1 hh).1
theorem TxRow.keep {B : Nat} {w w' : World} {v : Value} {ts : List ByteArray} (h : TxRow B w v ts) (hk : ∀ g, v.ownBlock = some g → w'.heap[g]? = w.heap[g]?) : TxRow B w' v ts := by
  rcases h with ⟨hl, h | ⟨g, cap, cur, rfl, hB, hg, hr⟩⟩
  · exact ⟨hl, .inl h⟩
  · exact ⟨hl, .inr ⟨g, cap, cur, rfl, hB, (hk g rfl).trans hg, hr⟩⟩
theorem TxRow.up {B : Nat} {w w' : World} {v : Value} {ts : List ByteArray} (h : TxRow B w v ts) (hb : Below w.heap.size w w') : TxRow B w' v ts := h.keep (fun g hg => hb.block g (h.lt g hg))
theorem TxRow.turn {B g : Nat} {w w' : World} {v : Value} {ts : List ByteArray} (h : TxRow B w v ts) (t : Turn [g] w w') (hg : g < B) : TxRow B w' v ts :=
  h.keep (fun y hy => t.block y (h.lt y hy) (by have := h.ge y hy; simp; omega))
theorem TxRow.rd {B : Nat} {w : World} {v : Value} {ts : List ByteArray} (h : TxRow B w v ts) : StringSRd w v ts := by
  have hh : w.ownsRow B 9 1 v ts.length (ts.map .string) := h
  rcases h with ⟨_, ⟨rfl, h0⟩ | ⟨g, cap, cur, rfl, hB, hg, hnc, _⟩⟩
  · have : ts = [] := List.eq_nil_of_length_eq_zero h0
    subst this
    exact ⟨none, 0, rfl, .inl rfl⟩
  · refine ⟨some ⟨g, 0, none⟩, cap, rfl, .inr ⟨g, 0, rfl, (Array.getElem?_eq_some_iff.1 hg).1, fun i hi => ?_⟩⟩
    rw [Nat.zero_add, hh.cellAt _ (by omega)]
    simp [hi]
theorem infoTx : (Tryz.prog.info? 9).map (fun i => (i.zero, i.size, i.bytes)) = some (some (.string ByteArray.empty), 1, 16) := by kernel_rfl
theorem news_tx {w : World} {g : Nat} {x : ByteArray} (c0 : w.cell? ⟨g, 0, none⟩ = some (.string x)) : ∀ j u, ([.string x] : List Value)[j]? = some u → w.cell? ((⟨g, 0, none⟩ : Addr).add j) = some u := by
  intro j u hj
  match j, hj with
  | 0, hj => simp at hj; subst hj; simpa [Addr.add] using c0
/-- one more text -/
theorem wpList_txAppend {w : World} {ops : Array Oper} {rest : List Oper} {o : Oper} {a : Act} {Q : Exit → Act → World → Prop} (hgd : o.guard = none) (s x : Operand)
    (ho : o.op = .call { callee := .builtin .append, args := #[s, x], argTypes := #[41, 41] }) (B : Nat) (v : Value) (ts : List ByteArray) (y : ByteArray) (g : Nat) (hs : a.eval s = v) (hx : a.eval x = .slice (some ⟨g, 0, none⟩) 1 1)
    (hv : TxRow B w v ts) (c0 : w.cell? ⟨g, 0, none⟩ = some (.string y)) (hl : ts.length ≤ 1000000) (hB : B ≤ w.heap.size)
    (h : ∀ g' n c w', TxRow B w' (.slice (some ⟨g', 0, none⟩) n c) (ts ++ [y]) → w.grownBy w' v.ownBlock → wpList Tryz.prog ops Q rest (a.put o.dst (.slice (some ⟨g', 0, none⟩) n c)) w') : wpList Tryz.prog ops Q (o :: rest) a w := by
  obtain ⟨i0, hi, hz0, hz1, hz2⟩ := info_parts1 infoTx
  refine wpList_append_lies w hgd s x 41 ho B 9 i0 _ 1 16 Tryz.underlying41 hi hz0 hz1 hz2 rfl (by decide) v ts.length (ts.map .string) hs hv ⟨g, 0, none⟩ 1 1 [.string y] hx rfl (news_tx c0) (by intro u hu; simp at hu; rw [hu]; rfl) (by decide) (by unfold maxLen; omega) (by omega) hB w.heap.size rfl ?_
  intro g' cap w' h2 h3 h4 h5
  refine h g' _ cap w' ?_ h3
  unfold TxRow
  rw [List.length_append, List.map_append]
  exact h2
end Go.Proofs.YtiebfcefmdiajaaGreatDoor

set_option linter.unusedVariables false
namespace Go.Proofs.YtiebfcefmdiajaaGreatDoor
open Go.RowKit Go.Maps Go.Deep

theorem TxRow.at {B : Nat} {w : World} {a : Option Addr} {n c : Nat} {ts : List ByteArray} (h : TxRow B w (.slice a n c) ts) (h0 : 0 < ts.length) : n = ts.length ∧ ∃ g, a = some ⟨g, 0, none⟩ ∧ g < w.heap.size ∧ ∀ i (hi : i < ts.length), w.cell? ⟨g, i, none⟩ = some (.string ts[i]) := by
  have hh : w.ownsRow B 9 1 (.slice a n c) ts.length (ts.map .string) := h
  rcases h with ⟨_, ⟨e, h00⟩ | ⟨g, cap, cur, e, hB, hg, hnc, _⟩⟩
  · omega
  · simp only [Value.slice.injEq] at e
    obtain ⟨rfl, rfl, rfl⟩ := e
    exact ⟨rfl, g, rfl, (Array.getElem?_eq_some_iff.1 hg).1, fun i hi => by rw [hh.cellAt _ (by omega)]; simp [hi]⟩
end Go.Proofs.YtiebfcefmdiajaaGreatDoor
