/-
  A list of bytes that comes in, opened.
-/
/-
  Who listens to a stream, as a value: for reading and of one's own; both sides of SplitOk; the laws' own helpers over one.
-/
import Derived.Test.YtlgmmibncoedgaaBytes
import Derived.ProofKit
import Derived.OpenShut
import Derived.Test.YtlgmmibncoedgaaMerged15
import Derived.Test.YtlgmmibncoedgaaBoxes
namespace Go.Proofs.Ytlgmmibncoedgaa
open Go.RowKit Go.Maps Go.Deep Go.ChangeShapes Go.WideShapes Go.ChangeAt

theorem cells_byteA : Try.prog.cellsOf 5 = 1 := by kernel_rfl
theorem choose_byte {n : Nat} {P : Nat → UInt8 → Prop} (h : ∀ i, i < n → ∃ c, P i c) : ∃ bs : List UInt8, bs.length = n ∧ ∀ i (hi : i < bs.length), P i bs[i] := by
  induction n with
  | zero => exact ⟨[], rfl, fun i hi => absurd hi (Nat.not_lt_zero _)⟩
  | succ n ih =>
    obtain ⟨bs, hl, hb⟩ := ih (fun i hi => h i (by omega))
    obtain ⟨c, hc⟩ := h n (by omega)
    refine ⟨bs ++ [c], by simp [hl], fun i hi => ?_⟩
    by_cases e : i < bs.length
    · rw [List.getElem_append_left e]; exact hb i e
    · have : i = n := by simp at hi; omega
      subst this
      rw [List.getElem_append_right (by omega)]
      simpa [hl] using hc
theorem open_byte_cell {H : Type} {enc : TypeId × Value → H} {w : World} {base : Nat} {spare : Nat → Bool} {held : Bool} {c : Value} {fuel : Nat} {y : DataW H × List MemPlace}
    (hf : DataW.trod enc Try.prog w base spare held fuel 22 [c] = some y) :
    ∃ a cap, ∃ bs : List UInt8, c = .slice a bs.length cap ∧ bs.length ≤ maxLen ∧ bs.length ≤ cap ∧ ByIn w a bs := by
  rcases open_slice Try.underlying22 hf with ⟨hcs, _⟩ | ⟨a', len, cap, m, n, D, Pl, hcs, hb, hl, hm, hmm, _, hx⟩
  · simp at hcs
    subst hcs
    exact ⟨none, 0, [], rfl, by unfold maxLen; simp, Nat.le_refl _, .inl rfl⟩
  · simp at hcs
    subst hcs
    have hlm : len ≤ m := by rw [hmm]; split <;> omega
    have each : ∀ i, i < len → ∃ c : UInt8, w.cell? (a'.add i) = some (.int .u8 (c.toNat : Int)) := by
      intro i hi
      obtain ⟨cs', h1, h2⟩ := hx i (by omega)
      rw [cells_byteA] at h1
      obtain ⟨_, hlen, hcell⟩ := World.cells?_some h1
      match cs', hlen with
      | [v0], _ =>
        obtain ⟨n0, e0, _, hr⟩ := DataW.trod_int Try.underlying5 h2
        simp at e0
        subst e0
        have c0 := hcell 0 (by omega)
        have hr' : 0 ≤ n0 ∧ n0 ≤ 255 := by
          have hr2 := Bool.and_eq_true_iff.1 hr
          exact ⟨of_decide_eq_true hr2.1, of_decide_eq_true hr2.2⟩
        obtain ⟨v, rfl⟩ := Int.eq_ofNat_of_zero_le hr'.1
        rw [Nat.mul_one] at c0
        refine ⟨UInt8.ofNat v, ?_⟩
        rw [UInt8.toNat_ofNat', Nat.mod_eq_of_lt (by omega)]
        simpa [Addr.add] using c0
    obtain ⟨bs, hbl, hbs⟩ := choose_byte each
    refine ⟨some a', cap, bs, by rw [hbl], by omega, by omega, ?_⟩
    by_cases h0 : len = 0
    · exact .inl (List.eq_nil_of_length_eq_zero (by omega))
    · have hc0 := hbs 0 (by omega)
      obtain ⟨b, off, spot⟩ := a'
      have hspot : spot = none := by simpa [Addr.add] using World.cell?_spot hc0
      subst hspot
      refine .inr ⟨b, off, rfl, lt_of_cell0 (by simpa [Addr.add] using hc0), ?_⟩
      intro i hi
      have h2 := hbs i hi
      by_cases e : i = 0
      · subst e; simpa [Addr.add] using h2
      · simpa [Addr.add, e] using h2
theorem open_byteS {H : Type} {enc : TypeId × Value → H} {w : World} {base : Nat} {spare : Nat → Bool} {held : Bool} {a : Option Addr} {len cap : Nat} {d : DataW H} {p : List MemPlace}
    (h : DataW.Trod enc Try.prog w base spare held 22 (.slice a len cap) d p) :
    ∃ bs : List UInt8, bs.length = len ∧ len ≤ maxLen ∧ len ≤ cap ∧ ByIn w a bs := by
  obtain ⟨fuel, hf⟩ := h
  obtain ⟨a', cap', bs, e, h1, h2, h3⟩ := open_byte_cell (c := .slice a len cap) (by simpa [Value.cells] using hf)
  simp only [Value.slice.injEq] at e
  obtain ⟨rfl, rfl, rfl⟩ := e
  exact ⟨bs, rfl, h1, h2, h3⟩
end Go.Proofs.Ytlgmmibncoedgaa

set_option linter.unusedVariables false
namespace Go.Proofs.Ytlgmmibncoedgaa
open Go.RowKit Go.Maps Go.Deep Go.ChangeShapes Go.WideShapes Go.ChangeAt

structure SplitV where
  buf : List UInt8
  lost : Int
def SplitFit (d : SplitV) : Prop := d.buf.length ≤ maxLen ∧ (-9223372036854775808 ≤ d.lost ∧ d.lost ≤ 9223372036854775807)
def SmallSplit (d : SplitV) : Prop := d.buf.length ≤ 1048576
def SplitRd (w : World) (v : Value) (d : SplitV) : Prop := ∃ v0, v = .agg #[v0, .int .i64 d.lost] ∧ ByRd w v0 d.buf
def SplitOwn (S : List Nat) (w : World) (v : Value) (d : SplitV) : Prop := ∃ v0, v = .agg #[v0, .int .i64 d.lost] ∧ ByOwn S w v0 d.buf
theorem SplitRd.up {w w' : World} {v : Value} {d : SplitV} (h : SplitRd w v d) (hb : Below w.heap.size w w') : SplitRd w' v d := by
  obtain ⟨v0, e, h0⟩ := h
  exact ⟨v0, e, h0.up hb⟩
theorem SplitOwn.rd {S : List Nat} {w : World} {v : Value} {d : SplitV} (h : SplitOwn S w v d) : SplitRd w v d := by
  obtain ⟨v0, e, h0⟩ := h
  exact ⟨v0, e, h0.rd⟩
theorem SplitOwn.turn {S S' : List Nat} {w w' : World} {v : Value} {d : SplitV} (h : SplitOwn S w v d) (ht : Turn S' w w') (hS : ∀ k ∈ S, k ∉ S') : SplitOwn S w' v d := by
  obtain ⟨v0, e, h0⟩ := h
  exact ⟨v0, e, h0.turn ht hS⟩
theorem SplitOwn.up {S : List Nat} {w w' : World} {v : Value} {d : SplitV} (h : SplitOwn S w v d) (hb : Below w.heap.size w w') : SplitOwn S w' v d := h.turn (Turn.of_below (S := []) hb) (by simp)
theorem SplitOwn.lt {S : List Nat} {w : World} {v : Value} {d : SplitV} (h : SplitOwn S w v d) : ∀ k ∈ S, k < w.heap.size := by
  obtain ⟨v0, e, h0⟩ := h
  exact h0.lt
theorem SplitRd.form {w : World} {v : Value} {d : SplitV} (h : SplitRd w v d) : ∃ a0 n0 c0 fs, v = .agg #[.slice a0 n0 c0, .int .i64 fs] := by
  obtain ⟨v0, rfl, h0⟩ := h
  obtain ⟨a0, c0, rfl⟩ := h0.len
  exact ⟨_, _, _, _, rfl⟩
def nSplit (d : SplitV) : Nat := d.buf.length
theorem nSplit_le {d : SplitV} (h : SmallSplit d) : nSplit d ≤ 100000000 := by unfold SmallSplit at h; unfold nSplit; omega
def splitOkB (d : SplitV) : Bool := decide (0 ≤ d.lost) && decide (d.buf.length ≤ 270) && waitB d.buf

theorem bcell {W w1 : World} (hb : Below W.heap.size W w1) : (∀ b o, b < W.heap.size → w1.cell? ⟨b, o, none⟩ = W.cell? ⟨b, o, none⟩) ∧ (∀ b o, b < W.heap.size → w1.frozen? ⟨b, o, none⟩ = W.frozen? ⟨b, o, none⟩) :=
  ⟨fun b o h => hb.cell (p := ⟨b, o, none⟩) h, fun b o h => hb.frozen (p := ⟨b, o, none⟩) h⟩
theorem cellsI : Try.prog.cellsOf 3 = 1 := by kernel_rfl
theorem cellsBy : Try.prog.cellsOf 22 = 1 := by kernel_rfl
theorem aggOf {P : Program} {W : World} {r : Reach} {base n : Nat} {t : TypeId} {fs : Array Field} {v : Value} (ht : P.underlying t = some (.struct fs)) (hn : P.cellsOf t = n) (h : Value.okWide P W r base t v) : ∃ cs : Array Value, v = .agg cs ∧ cs.size = n := by
  simp only [Value.okWide, ht] at h
  obtain ⟨cs, h1, h2, _⟩ := h
  exact ⟨cs, h1, by rw [h2, hn]⟩
theorem array2 {cs : Array Value} (h : cs.size = 2) : ∃ a b, cs = #[a, b] := by
  obtain ⟨l⟩ := cs
  match l, h with
  | [a, b], _ => exact ⟨a, b, rfl⟩
end Go.Proofs.Ytlgmmibncoedgaa
