/-
  A list of bytes that comes in, opened.
-/
/-
  The specification's draw of a window, a source and a version.
-/
import Derived.Test.YtlbhandkpnjgmaaMerged7
import Derived.ProofKit
import Derived.OpenShut
import Derived.Test.YtlbhandkpnjgmaaMerged45
namespace Go.Proofs.Ytlbhandkpnjgmaa
open Go.RowKit Go.Maps Go.Deep Go.ChangeShapes Go.WideShapes Go.ChangeAt

theorem cells_byteA : Try.prog.cellsOf 5 = 1 := by kernel_rfl
theorem choose_byte {n : Nat} {P : Nat → UInt8 → Prop} (h : ∀ i, i < n → ∃ c, P i c) : ∃ bs : List UInt8, bs.length = n ∧ ∀ i (hi : i < bs.length), P i bs[i] := by
  induction n with
  | zero => exact ⟨[], rfl, fun i hi => absurd hi (Nat.not_lt_zero _)⟩
  | succ n ih =>
    obtain ⟨bs, hl, hb⟩ := ih (fun i hi => h i (by omega))
    obtain ⟨c, hc⟩ := h n (by omega)
    refine ⟨bs ++ [c], by simp [hl], fun i hi => ?_⟩
    by_cases e : i < bs.length
    · rw [List.getElem_append_left e]; exact hb i e
    · have : i = n := by simp at hi; omega
      subst this
      rw [List.getElem_append_right (by omega)]
      simpa [hl] using hc
theorem open_byte_cell {H : Type} {enc : TypeId × Value → H} {w : World} {base : Nat} {spare : Nat → Bool} {held : Bool} {c : Value} {fuel : Nat} {y : DataW H × List MemPlace}
    (hf : DataW.trod enc Try.prog w base spare held fuel 22 [c] = some y) :
    ∃ a cap, ∃ bs : List UInt8, c = .slice a bs.length cap ∧ bs.length ≤ maxLen ∧ bs.length ≤ cap ∧ ByIn w a bs := by
  rcases open_slice Try.underlying22 hf with ⟨hcs, _⟩ | ⟨a', len, cap, m, n, D, Pl, hcs, hb, hl, hm, hmm, _, hx⟩
  · simp at hcs
    subst hcs
    exact ⟨none, 0, [], rfl, by unfold maxLen; simp, Nat.le_refl _, .inl rfl⟩
  · simp at hcs
    subst hcs
    have hlm : len ≤ m := by rw [hmm]; split <;> omega
    have each : ∀ i, i < len → ∃ c : UInt8, w.cell? (a'.add i) = some (.int .u8 (c.toNat : Int)) := by
      intro i hi
      obtain ⟨cs', h1, h2⟩ := hx i (by omega)
      rw [cells_byteA] at h1
      obtain ⟨_, hlen, hcell⟩ := World.cells?_some h1
      match cs', hlen with
      | [v0], _ =>
        obtain ⟨n0, e0, _, hr⟩ := DataW.trod_int Try.underlying5 h2
        simp at e0
        subst e0
        have c0 := hcell 0 (by omega)
        have hr' : 0 ≤ n0 ∧ n0 ≤ 255 := by
          have hr2 := Bool.and_eq_true_iff.1 hr
          exact ⟨of_decide_eq_true hr2.1, of_decide_eq_true hr2.2⟩
        obtain ⟨v, rfl⟩ := Int.eq_ofNat_of_zero_le hr'.1
        rw [Nat.mul_one] at c0
        refine ⟨UInt8.ofNat v, ?_⟩
        rw [UInt8.toNat_ofNat', Nat.mod_eq_of_lt (by omega)]
        simpa [Addr.add] using c0
    obtain ⟨bs, hbl, hbs⟩ := choose_byte each
    refine ⟨some a', cap, bs, by rw [hbl], by omega, by omega, ?_⟩
    by_cases h0 : len = 0
    · exact .inl (List.eq_nil_of_length_eq_zero (by omega))
    · have hc0 := hbs 0 (by omega)
      obtain ⟨b, off, spot⟩ := a'
      have hspot : spot = none := by simpa [Addr.add] using World.cell?_spot hc0
      subst hspot
      refine .inr ⟨b, off, rfl, lt_of_cell0 (by simpa [Addr.add] using hc0), ?_⟩
      intro i hi
      have h2 := hbs i hi
      by_cases e : i = 0
      · subst e; simpa [Addr.add] using h2
      · simpa [Addr.add, e] using h2
theorem open_byteS {H : Type} {enc : TypeId × Value → H} {w : World} {base : Nat} {spare : Nat → Bool} {held : Bool} {a : Option Addr} {len cap : Nat} {d : DataW H} {p : List MemPlace}
    (h : DataW.Trod enc Try.prog w base spare held 22 (.slice a len cap) d p) :
    ∃ bs : List UInt8, bs.length = len ∧ len ≤ maxLen ∧ len ≤ cap ∧ ByIn w a bs := by
  obtain ⟨fuel, hf⟩ := h
  obtain ⟨a', cap', bs, e, h1, h2, h3⟩ := open_byte_cell (c := .slice a len cap) (by simpa [Value.cells] using hf)
  simp only [Value.slice.injEq] at e
  obtain ⟨rfl, rfl, rfl⟩ := e
  exact ⟨bs, rfl, h1, h2, h3⟩
end Go.Proofs.Ytlbhandkpnjgmaa

set_option linter.unusedVariables false
namespace Go.Proofs.Ytlbhandkpnjgmaa
open Go.RowKit Go.Maps Go.Deep

def nm5 (k : Nat) : ByteArray := [(⟨#[119]⟩ : ByteArray), ⟨#[120]⟩, ⟨#[121]⟩, ⟨#[122]⟩, ⟨#[118]⟩].getD k ⟨#[]⟩
theorem nm5_size (k : Nat) : (nm5 k).size ≤ 100 := by
  unfold nm5
  match k with
  | 0 => decide
  | 1 => decide
  | 2 => decide
  | 3 => decide
  | 4 => decide
  | k + 5 => simp; decide
theorem nm5_cell (w : World) (k : Nat) (hk : k < 5) : (w.alloc (.cells #[.string ⟨#[119]⟩, .string ⟨#[120]⟩, .string ⟨#[121]⟩, .string ⟨#[122]⟩, .string ⟨#[118]⟩] 9)).cell? ⟨w.heap.size, k, none⟩ = some (.string (nm5 k)) := by
  have h := (boxF_new w [.string ⟨#[119]⟩, .string ⟨#[120]⟩, .string ⟨#[121]⟩, .string ⟨#[122]⟩, .string ⟨#[118]⟩] 9).1
  match k, hk with
  | 0, _ => exact h.at 0 _ rfl
  | 1, _ => exact h.at 1 _ rfl
  | 2, _ => exact h.at 2 _ rfl
  | 3, _ => exact h.at 3 _ rfl
  | 4, _ => exact h.at 4 _ rfl
theorem bytesIn34 {w : World} {a : Option Addr} {bs : List UInt8} (h : ByIn w a bs) : BytesIn w a bs.length := by
  rcases h with rfl | ⟨b, off, rfl, hb, hc⟩
  · exact .inl rfl
  · exact .inr ⟨b, off, rfl, hb, fun i hi => ⟨bs[i].toNat, by have := bs[i].toNat_lt; omega, hc i hi⟩⟩
def RetDF34 (w : World) (e : Ending) (w' : World) : Prop := ∃ a n c ns s, ∃ v : Nat, e = .returned (.tuple #[.slice a n c, .string s, .int .i64 (v : Int)]) ∧ Hid (ItemSRd w' (.slice a n c) ns) ∧ Hid (WinFit 6 ns) ∧ Hid (s.size ≤ 100 ∧ v < 8) ∧ Below w.heap.size w w'
end Go.Proofs.Ytlbhandkpnjgmaa
