/-
  A list of bytes that comes in, opened.
-/
/-
  The laws' own helpers over one disk: how much it holds, how it is copied, compared, marked and found marked again; how one that comes in is opened.
-/
/-
  The laws' helpers over bytes, in the form in which the walks of exact laws take them.
-/
/-
  The laws' helpers over disks, in the form in which the walks of exact laws take them.
-/
/-
  DiskFall and DiskRise of both sides.
-/
import Derived.Test.YtddmomcanakoiaaMerged13
import Derived.ProofKit
import Derived.OpenShut
import Derived.Test.YtddmomcanakoiaaMerged22
import Derived.Test.YtddmomcanakoiaaMerged28
import Derived.Test.YtddmomcanakoiaaDrives
namespace Go.Proofs.Ytddmomcanakoiaa
open Go.RowKit Go.Maps Go.Deep Go.ChangeShapes Go.WideShapes Go.ChangeAt

theorem cells_byteA : Try.prog.cellsOf 5 = 1 := by kernel_rfl
theorem choose_byte {n : Nat} {P : Nat → UInt8 → Prop} (h : ∀ i, i < n → ∃ c, P i c) : ∃ bs : List UInt8, bs.length = n ∧ ∀ i (hi : i < bs.length), P i bs[i] := by
  induction n with
  | zero => exact ⟨[], rfl, fun i hi => absurd hi (Nat.not_lt_zero _)⟩
  | succ n ih =>
    obtain ⟨bs, hl, hb⟩ := ih (fun i hi => h i (by omega))
    obtain ⟨c, hc⟩ := h n (by omega)
    refine ⟨bs ++ [c], by simp [hl], fun i hi => ?_⟩
    by_cases e : i < bs.length
    · rw [List.getElem_append_left e]; exact hb i e
    · have : i = n := by simp at hi; omega
      subst this
      rw [List.getElem_append_right (by omega)]
      simpa [hl] using hc
theorem open_byte_cell {H : Type} {enc : TypeId × Value → H} {w : World} {base : Nat} {spare : Nat → Bool} {held : Bool} {c : Value} {fuel : Nat} {y : DataW H × List MemPlace}
    (hf : DataW.trod enc Try.prog w base spare held fuel 22 [c] = some y) :
    ∃ a cap, ∃ bs : List UInt8, c = .slice a bs.length cap ∧ bs.length ≤ maxLen ∧ bs.length ≤ cap ∧ ByIn w a bs := by
  rcases open_slice Try.underlying22 hf with ⟨hcs, _⟩ | ⟨a', len, cap, m, n, D, Pl, hcs, hb, hl, hm, hmm, _, hx⟩
  · simp at hcs
    subst hcs
    exact ⟨none, 0, [], rfl, by unfold maxLen; simp, Nat.le_refl _, .inl rfl⟩
  · simp at hcs
    subst hcs
    have hlm : len ≤ m := by rw [hmm]; split <;> omega
    have each : ∀ i, i < len → ∃ c : UInt8, w.cell? (a'.add i) = some (.int .u8 (c.toNat : Int)) := by
      intro i hi
      obtain ⟨cs', h1, h2⟩ := hx i (by omega)
      rw [cells_byteA] at h1
      obtain ⟨_, hlen, hcell⟩ := World.cells?_some h1
      match cs', hlen with
      | [v0], _ =>
        obtain ⟨n0, e0, _, hr⟩ := DataW.trod_int Try.underlying5 h2
        simp at e0
        subst e0
        have c0 := hcell 0 (by omega)
        have hr' : 0 ≤ n0 ∧ n0 ≤ 255 := by
          have hr2 := Bool.and_eq_true_iff.1 hr
          exact ⟨of_decide_eq_true hr2.1, of_decide_eq_true hr2.2⟩
        obtain ⟨v, rfl⟩ := Int.eq_ofNat_of_zero_le hr'.1
        rw [Nat.mul_one] at c0
        refine ⟨UInt8.ofNat v, ?_⟩
        rw [UInt8.toNat_ofNat', Nat.mod_eq_of_lt (by omega)]
        simpa [Addr.add] using c0
    obtain ⟨bs, hbl, hbs⟩ := choose_byte each
    refine ⟨some a', cap, bs, by rw [hbl], by omega, by omega, ?_⟩
    by_cases h0 : len = 0
    · exact .inl (List.eq_nil_of_length_eq_zero (by omega))
    · have hc0 := hbs 0 (by omega)
      obtain ⟨b, off, spot⟩ := a'
      have hspot : spot = none := by simpa [Addr.add] using World.cell?_spot hc0
      subst hspot
      refine .inr ⟨b, off, rfl, lt_of_cell0 (by simpa [Addr.add] using hc0), ?_⟩
      intro i hi
      have h2 := hbs i hi
      by_cases e : i = 0
      · subst e; simpa [Addr.add] using h2
      · simpa [Addr.add, e] using h2
theorem open_byteS {H : Type} {enc : TypeId × Value → H} {w : World} {base : Nat} {spare : Nat → Bool} {held : Bool} {a : Option Addr} {len cap : Nat} {d : DataW H} {p : List MemPlace}
    (h : DataW.Trod enc Try.prog w base spare held 22 (.slice a len cap) d p) :
    ∃ bs : List UInt8, bs.length = len ∧ len ≤ maxLen ∧ len ≤ cap ∧ ByIn w a bs := by
  obtain ⟨fuel, hf⟩ := h
  obtain ⟨a', cap', bs, e, h1, h2, h3⟩ := open_byte_cell (c := .slice a len cap) (by simpa [Value.cells] using hf)
  simp only [Value.slice.injEq] at e
  obtain ⟨rfl, rfl, rfl⟩ := e
  exact ⟨bs, rfl, h1, h2, h3⟩
end Go.Proofs.Ytddmomcanakoiaa

set_option linter.unusedVariables false
namespace Go.Proofs.Ytddmomcanakoiaa
open Go.RowKit Go.Maps Go.Deep Go.ChangeShapes Go.WideShapes Go.ChangeAt

theorem bcellD {W w1 : World} (hb : Below W.heap.size W w1) : (∀ b o, b < W.heap.size → w1.cell? ⟨b, o, none⟩ = W.cell? ⟨b, o, none⟩) ∧ (∀ b o, b < W.heap.size → w1.frozen? ⟨b, o, none⟩ = W.frozen? ⟨b, o, none⟩) :=
  ⟨fun b o h => hb.cell (p := ⟨b, o, none⟩) h, fun b o h => hb.frozen (p := ⟨b, o, none⟩) h⟩

def RetOwn (d : DiskV) (w : World) (e : Ending) (w' : World) : Prop := ∃ v S, e = .returned v ∧ DiskOwn S w' v d ∧ (∀ k ∈ S, w.heap.size ≤ k) ∧ Below w.heap.size w w'
theorem cellsI : Try.prog.cellsOf 3 = 1 := by kernel_rfl
theorem cellsBool : Try.prog.cellsOf 4 = 1 := by kernel_rfl
theorem cellsBy : Try.prog.cellsOf 22 = 1 := by kernel_rfl
theorem intRange {k : Int} (h : (Lit.int .i64 k).wf = true) : -9223372036854775808 ≤ k ∧ k ≤ 9223372036854775807 := bounds_i64 h
theorem aggOf {P : Program} {W : World} {r : Reach} {base n : Nat} {t : TypeId} {fs : Array Field} {v : Value} (ht : P.underlying t = some (.struct fs)) (hn : P.cellsOf t = n) (h : Value.okWide P W r base t v) : ∃ cs : Array Value, v = .agg cs ∧ cs.size = n := by
  simp only [Value.okWide, ht] at h
  obtain ⟨cs, h1, h2, _⟩ := h
  exact ⟨cs, h1, by rw [h2, hn]⟩
theorem array4 {cs : Array Value} (h : cs.size = 4) : ∃ a b c d, cs = #[a, b, c, d] := by
  obtain ⟨l⟩ := cs
  match l, h with
  | [a, b, c, d], _ => exact ⟨a, b, c, d, rfl⟩
end Go.Proofs.Ytddmomcanakoiaa

set_option linter.unusedVariables false
namespace Go.Proofs.Ytddmomcanakoiaa
open Go.RowKit Go.Maps Go.Deep

def SmallByteS (bs : List UInt8) : Prop := bs.length ≤ 1048576
def nByteS (bs : List UInt8) : Nat := bs.length
theorem nByteS_le {bs : List UInt8} (h : SmallByteS bs) : nByteS bs ≤ 100000000 := by unfold SmallByteS at h; unfold nByteS; omega
theorem ByRd.form {w : World} {v : Value} {bs : List UInt8} (h : ByRd w v bs) : ∃ a n c, v = .slice a n c := by
  obtain ⟨a, c, e⟩ := h.len
  exact ⟨a, _, c, e⟩
def ByFit (bs : List UInt8) : Prop := bs.length ≤ maxLen
theorem small_of_len {w : World} {a : Option Addr} {n c : Nat} {bs : List UInt8} (h : ByRd w (.slice a n c) bs) (hl : (n : Int) ≤ 1048576) : SmallByteS bs := by
  obtain ⟨a', c', e, _⟩ := h
  simp only [Value.slice.injEq] at e
  unfold SmallByteS
  omega
end Go.Proofs.Ytddmomcanakoiaa

set_option linter.unusedVariables false
namespace Go.Proofs.Ytddmomcanakoiaa
open Go.RowKit Go.Maps Go.Deep

def SmallDisk (d : DiskV) : Prop := d.safe.length ≤ 1048576 ∧ d.soft.length ≤ 1048576
def nDisk (d : DiskV) : Nat := d.safe.length + d.soft.length
theorem nDisk_le {d : DiskV} (h : SmallDisk d) : nDisk d ≤ 100000000 := by unfold SmallDisk at h; unfold nDisk; omega
theorem DiskRd.form {w : World} {v : Value} {d : DiskV} (h : DiskRd w v d) : ∃ a0 n0 c0 a1 n1 c1 fs dn, v = .agg #[.slice a0 n0 c0, .slice a1 n1 c1, .int .i64 fs, .bool dn] := by
  obtain ⟨v0, v1, rfl, h0, h1⟩ := h
  obtain ⟨a0, c0, rfl⟩ := h0.len
  obtain ⟨a1, c1, rfl⟩ := h1.len
  exact ⟨_, _, _, _, _, _, _, _, rfl⟩
end Go.Proofs.Ytddmomcanakoiaa

set_option linter.unusedVariables false
namespace Go.Proofs.Ytddmomcanakoiaa
open Go.RowKit Go.Maps Go.Deep

def noDisk : DiskV := ⟨[], [], 0, false⟩
def fallB (d : DiskV) (keep : Int) : Bool := diskOkB d && !d.down && decide (0 ≤ keep)
def fallV (d : DiskV) (keep : Int) : DiskV := if fallB d keep then ⟨d.safe ++ d.soft.take keep.toNat, [], -1, true⟩ else noDisk
def riseB (d : DiskV) (fuse : Int) : Bool := diskOkB d && d.down && decide (-1 ≤ fuse) && decide (fuse ≤ 400)
def riseV (d : DiskV) (fuse : Int) : DiskV := if riseB d fuse then ⟨d.safe, [], fuse, false⟩ else noDisk

/-- a disk of one's own, and a bool, are handed back -/
def RetDiskB (res : DiskV) (b : Bool) (w : World) (e : Ending) (w' : World) : Prop := ∃ v S, e = .returned (.tuple #[v, .bool b]) ∧ Hid (DiskOwn S w' v res) ∧ Hid (∀ k ∈ S, w.heap.size ≤ k) ∧ Below w.heap.size w w'
theorem retDisk_no {w w' : World} (hb : Below w.heap.size w w') : RetDiskB noDisk false w (.returned (.tuple #[.agg #[.slice none 0 0, .slice none 0 0, .int .i64 0, .bool false], .bool false])) w' :=
  ⟨_, [], rfl, ⟨_, _, [], [], rfl, rfl, ByOwn.nil _ _ _, ByOwn.nil _ _ _, by simp⟩, by intro k hk; simp at hk, hb⟩
/-- one row, and nothing behind it -/
theorem retDisk_row {res : DiskV} {b : Bool} {w w' : World} {a : Option Addr} {n c : Nat} (hr : ByRow w.heap.size w' (.slice a n c) res.safe) (h0 : res.soft = []) (hb : Below w.heap.size w w') :
    RetDiskB res b w (.returned (.tuple #[.agg #[.slice a n c, .slice none 0 0, .int .i64 res.fuse, .bool res.down], .bool b])) w' := by
  obtain ⟨S, h1, h2, _⟩ := hr.own
  exact ⟨_, S ++ [], rfl, ⟨_, _, S, [], rfl, rfl, h1, by rw [h0]; exact ByOwn.nil _ _ _, by simp⟩, by intro k hk; simp at hk; exact h2 k hk, hb⟩

theorem TwoRows.turn {B : Nat} {S : List Nat} {w w' : World} {v0 v1 : Value} {xs ys : List UInt8} (h : TwoRows B w v0 v1 xs ys) (ht : Turn S w w') (hS : ∀ k ∈ S, k < B) : TwoRows B w' v0 v1 xs ys :=
  ⟨h.1.turn ht (fun k hk hm => by have := h.1.ge k hk; have := hS k hm; omega), h.2.1.turn ht (fun k hk hm => by have := h.2.1.ge k hk; have := hS k hm; omega), h.2.2⟩
theorem retDisk_two {res : DiskV} {b : Bool} {B : Nat} {w w' : World} {v0 v1 : Value} (h : TwoRows B w' v0 v1 res.safe res.soft) (hB : w.heap.size ≤ B) (hb : Below w.heap.size w w') :
    RetDiskB res b w (.returned (.tuple #[.agg #[v0, v1, .int .i64 res.fuse, .bool res.down], .bool b])) w' := by
  obtain ⟨S, h1, h2, h3⟩ := h.1.own
  obtain ⟨T, k1, k2, k3⟩ := h.2.1.own
  exact ⟨_, S ++ T, rfl, ⟨_, _, S, T, rfl, rfl, h1, k1, fun k hk hm => h.2.2 k (h3 k hk) (k3 k hm)⟩, by intro k hk; rcases List.mem_append.1 hk with hk | hk; exact Nat.le_trans hB (h2 k hk); exact Nat.le_trans hB (k2 k hk), hb⟩

theorem BoxF.below {B : Nat} {w w' : World} {g : Nat} {xs : List Value} (h : BoxF w g xs) (hb : Below B w w') (hg : g < B) : BoxF w' g xs :=
  ⟨⟨Nat.lt_of_lt_of_le h.1.1 hb.size, fun i v hv => (hb.cell (by exact hg)).trans (h.1.2 i v hv)⟩, fun i hi => (hb.frozen (by exact hg)).trans (h.2 i hi)⟩
theorem drive_new {d : DiskV} {B : Nat} {w : World} {v0 v1 : Value} (h : TwoRows B w v0 v1 d.safe d.soft) (hB : B ≤ w.heap.size) (T : TypeId) : Drive B (w.alloc (.cells #[v0, v1, .int .i64 d.fuse, .bool d.down] T)) w.heap.size v0 v1 d := by
  have hb := (Below.refl w.heap.size w).alloc (Nat.le_refl _) (.cells #[v0, v1, .int .i64 d.fuse, .bool d.down] T)
  obtain ⟨⟨c0, c1, c2, c3⟩, f0, f1, f2, f3⟩ := (boxF_new4 w v0 v1 (.int .i64 d.fuse) (.bool d.down) T).four
  exact ⟨hB, by simp, c0, c1, c2, c3, fun i hi => match i, hi with | 0, _ => f0 | 1, _ => f1 | 2, _ => f2 | 3, _ => f3, h.1.up hb, h.2.1.up hb, fun k hk e => by have := h.1.lt k hk; omega, fun k hk e => by have := h.2.1.lt k hk; omega, h.2.2⟩
theorem cut_in {w : World} {a : Option Addr} {m c : Nat} {bs : List UInt8} (h : ByRd w (.slice a m c) bs) (n : Nat) (hn : n ≤ bs.length) : ByRd w (.slice a n c) (bs.take n) := by
  obtain ⟨a', c', e, hin, hcap⟩ := h
  simp only [Value.slice.injEq] at e
  obtain ⟨rfl, rfl, rfl⟩ := e
  refine ⟨a, c, by simp [Nat.min_eq_left hn], ?_, by simp; omega⟩
  rcases hin with rfl | ⟨b, off, e, hb, hc⟩
  · exact .inl (by simp)
  · exact .inr ⟨b, off, e, hb, fun i hi => by
      simp at hi
      rw [List.getElem_take]
      exact hc i (by omega)⟩

end Go.Proofs.Ytddmomcanakoiaa
