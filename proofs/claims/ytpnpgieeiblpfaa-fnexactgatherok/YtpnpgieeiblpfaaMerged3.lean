/-
  A list of bytes that comes in, opened.
-/
/-
  A region that draws its order and whose calls may make new blocks (and write into none that was there): walked once, in the order of the text, over the class of all later worlds.
-/
import Derived.Test.YtpnpgieeiblpfaaBytes
import Derived.ProofKit
import Derived.OpenShut
import Derived.Test.YtpnpgieeiblpfaaMerged2
import Derived.BigQuiet
import Derived.Deep.QuietTactic
namespace Go.Proofs.Ytpnpgieeiblpfaa
open Go.RowKit Go.Maps Go.Deep Go.ChangeShapes Go.WideShapes Go.ChangeAt

theorem cells_byteA : Try.prog.cellsOf 5 = 1 := by kernel_rfl
theorem choose_byte {n : Nat} {P : Nat → UInt8 → Prop} (h : ∀ i, i < n → ∃ c, P i c) : ∃ bs : List UInt8, bs.length = n ∧ ∀ i (hi : i < bs.length), P i bs[i] := by
  induction n with
  | zero => exact ⟨[], rfl, fun i hi => absurd hi (Nat.not_lt_zero _)⟩
  | succ n ih =>
    obtain ⟨bs, hl, hb⟩ := ih (fun i hi => h i (by omega))
    obtain ⟨c, hc⟩ := h n (by omega)
    refine ⟨bs ++ [c], by simp [hl], fun i hi => ?_⟩
    by_cases e : i < bs.length
    · rw [List.getElem_append_left e]; exact hb i e
    · have : i = n := by simp at hi; omega
      subst this
      rw [List.getElem_append_right (by omega)]
      simpa [hl] using hc
theorem open_byte_cell {H : Type} {enc : TypeId × Value → H} {w : World} {base : Nat} {spare : Nat → Bool} {held : Bool} {c : Value} {fuel : Nat} {y : DataW H × List MemPlace}
    (hf : DataW.trod enc Try.prog w base spare held fuel 87 [c] = some y) :
    ∃ a cap, ∃ bs : List UInt8, c = .slice a bs.length cap ∧ bs.length ≤ maxLen ∧ bs.length ≤ cap ∧ ByIn w a bs := by
  rcases open_slice Try.underlying87 hf with ⟨hcs, _⟩ | ⟨a', len, cap, m, n, D, Pl, hcs, hb, hl, hm, hmm, _, hx⟩
  · simp at hcs
    subst hcs
    exact ⟨none, 0, [], rfl, by unfold maxLen; simp, Nat.le_refl _, .inl rfl⟩
  · simp at hcs
    subst hcs
    have hlm : len ≤ m := by rw [hmm]; split <;> omega
    have each : ∀ i, i < len → ∃ c : UInt8, w.cell? (a'.add i) = some (.int .u8 (c.toNat : Int)) := by
      intro i hi
      obtain ⟨cs', h1, h2⟩ := hx i (by omega)
      rw [cells_byteA] at h1
      obtain ⟨_, hlen, hcell⟩ := World.cells?_some h1
      match cs', hlen with
      | [v0], _ =>
        obtain ⟨n0, e0, _, hr⟩ := DataW.trod_int Try.underlying5 h2
        simp at e0
        subst e0
        have c0 := hcell 0 (by omega)
        have hr' : 0 ≤ n0 ∧ n0 ≤ 255 := by
          have hr2 := Bool.and_eq_true_iff.1 hr
          exact ⟨of_decide_eq_true hr2.1, of_decide_eq_true hr2.2⟩
        obtain ⟨v, rfl⟩ := Int.eq_ofNat_of_zero_le hr'.1
        rw [Nat.mul_one] at c0
        refine ⟨UInt8.ofNat v, ?_⟩
        rw [UInt8.toNat_ofNat', Nat.mod_eq_of_lt (by omega)]
        simpa [Addr.add] using c0
    obtain ⟨bs, hbl, hbs⟩ := choose_byte each
    refine ⟨some a', cap, bs, by rw [hbl], by omega, by omega, ?_⟩
    by_cases h0 : len = 0
    · exact .inl (List.eq_nil_of_length_eq_zero (by omega))
    · have hc0 := hbs 0 (by omega)
      obtain ⟨b, off, spot⟩ := a'
      have hspot : spot = none := by simpa [Addr.add] using World.cell?_spot hc0
      subst hspot
      refine .inr ⟨b, off, rfl, lt_of_cell0 (by simpa [Addr.add] using hc0), ?_⟩
      intro i hi
      have h2 := hbs i hi
      by_cases e : i = 0
      · subst e; simpa [Addr.add] using h2
      · simpa [Addr.add, e] using h2
theorem open_byteS {H : Type} {enc : TypeId × Value → H} {w : World} {base : Nat} {spare : Nat → Bool} {held : Bool} {a : Option Addr} {len cap : Nat} {d : DataW H} {p : List MemPlace}
    (h : DataW.Trod enc Try.prog w base spare held 87 (.slice a len cap) d p) :
    ∃ bs : List UInt8, bs.length = len ∧ len ≤ maxLen ∧ len ≤ cap ∧ ByIn w a bs := by
  obtain ⟨fuel, hf⟩ := h
  obtain ⟨a', cap', bs, e, h1, h2, h3⟩ := open_byte_cell (c := .slice a len cap) (by simpa [Value.cells] using hf)
  simp only [Value.slice.injEq] at e
  obtain ⟨rfl, rfl, rfl⟩ := e
  exact ⟨bs, rfl, h1, h2, h3⟩
end Go.Proofs.Ytpnpgieeiblpfaa

set_option linter.unusedVariables false
namespace Go.Proofs.Ytpnpgieeiblpfaa
open Go.RowKit Go.Maps

/-- a world in which all blocks of W are as they were -/
structure LaterW (W : World) where
  to : World
  bel : Below W.heap.size W to
instance (W : World) : Nonempty (LaterW W) := ⟨⟨W, Below.refl _ _⟩⟩
theorem LaterW.cell {W : World} (x : LaterW W) {g i : Nat} {v : Value} (h : W.cell? ⟨g, i, none⟩ = some v) : x.to.cell? ⟨g, i, none⟩ = some v := (x.bel.cell (lt_of_cell0 h)).trans h
theorem LaterW.frozen {W : World} (x : LaterW W) {g i : Nat} (hg : g < W.heap.size) (h : W.frozen? ⟨g, i, none⟩ = false) : x.to.frozen? ⟨g, i, none⟩ = false := (x.bel.frozen (by exact hg)).trans h
theorem LaterW.on {W w' : World} (x : LaterW W) (h : Below x.to.heap.size x.to w') : ∃ y : LaterW W, w' = y.to := ⟨⟨w', x.bel.trans (h.mono x.bel.size)⟩, rfl⟩
theorem wp_region_later {P : Program} {id : Nat} {Q : Exit → Act → World → Prop} {a : Act} {w : World} {l : List Oper} (hm : P.follows .mixedOrders = true) (hB : Region.lexB .any l.toArray = true)
    (h : wpQuiet P l.toArray (fun w' => ∃ x : LaterW w, w' = x.to) (fun a' => ∀ w', (∃ x : LaterW w, w' = x.to) → Q .normal a' w') l a) : (Code.region id l.toArray true).wp P Q a w :=
  wp_region_quiet (C := fun w' => ∃ x : LaterW w, w' = x.to) hm hB ⟨⟨{ w with drawn := w.drawn + 1 }, ⟨rfl, rfl, rfl, Nat.le_refl _, fun _ _ => rfl⟩⟩, rfl⟩ h
theorem quiet_ret {P : Program} {W : World} {f : FuncId} {args : Array Value} {x : LaterW W} {v : Value} (h : Calls P f args x.to fun e w' => e = .returned v ∧ Below x.to.heap.size x.to w') : Calls P f args x.to fun e w' => e = .returned v ∧ ∃ y : LaterW W, w' = y.to :=
  h.mono fun _ _ ⟨he, hb⟩ => ⟨he, x.on hb⟩
end Go.Proofs.Ytpnpgieeiblpfaa
