/-
  Lists of windows, each a list of items, for reading: how much they hold.
-/
/-
  A list of bytes that comes in, opened.
-/
import Derived.Test.YtpiapgjiaeddjaaMerged13
import Derived.Test.YtpiapgjiaeddjaaMerged1
import Derived.ProofKit
import Derived.OpenShut
set_option linter.unusedVariables false
namespace Go.Proofs.Ytpiapgjiaeddjaa
open Go.RowKit Go.Maps Go.Deep

/-- they lie one behind the other, from a place of a block on; each one's items may be read -/
def WinsAt (w : World) (b off : Nat) (ws : List (List ItemV)) : Prop :=
  ∀ i (h : i < ws.length), ∃ v, w.cell? ⟨b, off + i, none⟩ = some v ∧ ItemSRd w v ws[i]
def WinsIn (w : World) (a : Option Addr) (ws : List (List ItemV)) : Prop :=
  ws = [] ∨ ∃ b off, a = some ⟨b, off, none⟩ ∧ b < w.heap.size ∧ WinsAt w b off ws
def ItemSSRd (w : World) (v : Value) (ws : List (List ItemV)) : Prop := ∃ a c, v = .slice a ws.length c ∧ WinsIn w a ws
def ItemSSFit (ws : List (List ItemV)) : Prop := ws.length ≤ maxLen ∧ ∀ x ∈ ws, ItemSFit x
def SmallItemSS (ws : List (List ItemV)) : Prop := ws.length ≤ 1048576 ∧ ∀ x ∈ ws, SmallItemS x
theorem WinsAt.up {w w' : World} {b off : Nat} {ws : List (List ItemV)} (h : WinsAt w b off ws) (hb : b < w.heap.size) (hw : Below w.heap.size w w') : WinsAt w' b off ws := by
  intro i hi
  obtain ⟨v, c, hv⟩ := h i hi
  exact ⟨v, (hw.cell (by exact hb)).trans c, hv.up hw⟩
theorem WinsIn.up {w w' : World} {a : Option Addr} {ws : List (List ItemV)} (h : WinsIn w a ws) (hw : Below w.heap.size w w') : WinsIn w' a ws := by
  rcases h with h | ⟨b, off, e, hb, h⟩
  · exact .inl h
  · exact .inr ⟨b, off, e, Nat.lt_of_lt_of_le hb hw.size, h.up hb hw⟩
theorem ItemSSRd.up {w w' : World} {v : Value} {ws : List (List ItemV)} (h : ItemSSRd w v ws) (hw : Below w.heap.size w w') : ItemSSRd w' v ws := by
  obtain ⟨a, c, e, h⟩ := h
  exact ⟨a, c, e, h.up hw⟩
theorem ItemSSRd.form {w : World} {v : Value} {ws : List (List ItemV)} (h : ItemSSRd w v ws) : ∃ a n c, v = .slice a n c := by
  obtain ⟨a, c, e, _⟩ := h
  exact ⟨a, _, c, e⟩

set_option maxHeartbeats 3200000 in
theorem szItemSS_row (w : World) (b off cap : Nat) (ns : List (List ItemV)) (left0 : Int) (hf0 : 0 ≤ left0) (hf1 : left0 ≤ 1048576) (hl : ns.length ≤ maxLen) (hc : WinsAt w b off ns) (hb : b < w.heap.size) (hs : ∀ x ∈ ns, ItemSFit x) :
    Calls Try.prog 4 #[.slice (some ⟨b, off, none⟩) ns.length cap, .int .i64 left0] w fun e w' => ∃ r : Int, e = .returned (.int .i64 r) ∧ r ≤ left0 ∧ Hid (0 ≤ r → SmallItemSS ns) ∧ Below w.heap.size w w' := by
  have HS := hide hs
  have HC := hide hc
  unfold maxLen at hl
  clear hs hc
  by_cases hlen : (ns.length : Int) ≤ left0
  · go_enter Try.func4, Try.ntmps4
    go_wp2_with fail
    go_loopw [1, 5] (fun l i wr => ∃ (k : Nat) (left : Int), k ≤ ns.length ∧ i = .int .i64 k ∧ l = .int .i64 left ∧ 0 ≤ left ∧ left ≤ left0 ∧ Hid (∀ j (h : j < ns.length), j < k → SmallItemS ns[j]) ∧ Hid (Below w.heap.size w wr)) (fun _ i _ => ns.length - (intOf i).toNat)
    case atStart => exact ⟨0, _, Nat.zero_le _, rfl, rfl, by omega, by omega, hide (fun j _ hj => absurd hj (Nat.not_lt_zero _)), Below.refl _ _⟩
    case round =>
      obtain ⟨k, left, hk, rfl, rfl, hl0, hl1, HN, HB⟩ := hrel
      by_cases hlt : k < ns.length
      · obtain ⟨v, c0, hv⟩ := (unhide HC).up hb (unhide HB) k hlt
        have HF := hide (unhide HS _ (List.getElem_mem hlt))
        have HV := hide (fun W (bW : Below wr.heap.size wr W) => szItemS_kitL ns[k] v left W hl0 (by omega) (unhide HF) (hv.up bW))
        obtain ⟨va, vn, vc, rfl⟩ := hv.form
        have HN2 := hide (show SmallItemS ns[k] → ∀ j (h : j < ns.length), j < k + 1 → SmallItemS ns[j] from fun hk' j h hj => by
          by_cases e : j = k
          · subst e; exact hk'
          · exact unhide HN j h (by omega))
        clear hv HF
        generalize ns[k] = ms at *
        go_wp2_with fail
        refine (unhide HV _ (by go_grown)).mono ?_
        rintro e w1 ⟨r, rfl, hr, HR, b1⟩
        have B1 := hide ((unhide HB).trans (b1.mono (unhide HB).size))
        clear b1 c0
        by_cases hneg : r < 0
        · go_wp2_with fail
          go_ret
          exact ⟨-1, rfl, by omega, hide (fun h => absurd h (by omega)), unhide B1⟩
        · have HN3 := hide (unhide HN2 (unhide HR (by omega)))
          go_wp2_with fail
          go_roundw
          case rel => exact ⟨k + 1, r, by omega, by go_num, rfl, by omega, by omega, HN3, B1⟩
          case measure => simp [intOf]; omega
      · have HE := hide (show SmallItemSS ns from ⟨by omega, fun x hx => by
          obtain ⟨j, hj, rfl⟩ := List.getElem_of_mem hx
          exact unhide HN j hj (by omega)⟩)
        go_wp2_with fail
        go_ret
        exact ⟨_, rfl, hl1, hide (fun _ => unhide HE), unhide HB⟩
  · go_enter Try.func4, Try.ntmps4
    go_wp2_with fail
    go_ret
    exact ⟨-1, rfl, by omega, hide (fun h => absurd h (by omega)), Below.refl _ _⟩
theorem szItemSS_none (w : World) (a : Option Addr) (cap : Nat) (left0 : Int) (hf0 : 0 ≤ left0) (hf1 : left0 ≤ 1048576) :
    Calls Try.prog 4 #[.slice a 0 cap, .int .i64 left0] w fun e w' => e = .returned (.int .i64 left0) ∧ w' = w := by
  go_enter Try.func4, Try.ntmps4
  go_wp2_with fail
  refine wp_loop_rounds 1 ?_
  rw [rounds_succ]
  go_wp2_with fail
  go_ret
  exact ⟨rfl, rfl⟩
theorem szItemSS_kitL (ns : List (List ItemV)) (v : Value) (left : Int) (w : World) (h0 : 0 ≤ left) (h1 : left ≤ 1048576) (hf : ItemSSFit ns) (h : ItemSSRd w v ns) :
    Calls Try.prog 4 #[v, .int .i64 left] w fun e w' => ∃ q : Int, e = .returned (.int .i64 q) ∧ q ≤ left ∧ Hid (0 ≤ q → SmallItemSS ns) ∧ Below w.heap.size w w' := by
  obtain ⟨a, c, rfl, h⟩ := h
  rcases h with rfl | ⟨b, off, rfl, hb, hc⟩
  · refine (szItemSS_none w a c left h0 h1).mono ?_
    rintro e w' ⟨rfl, rfl⟩
    exact ⟨_, rfl, Int.le_refl _, hide (fun _ => ⟨by simp, fun _ h => by cases h⟩), Below.refl _ _⟩
  · exact szItemSS_row w b off c ns left h0 h1 hf.1 hc hb hf.2
theorem szItemSS_kit (ns : List (List ItemV)) (v : Value) (w : World) (hf : ItemSSFit ns) (h : ItemSSRd w v ns) :
    Calls Try.prog 4 #[v, .int .i64 1048576] w fun e w' => ∃ q : Int, e = .returned (.int .i64 q) ∧ Hid (0 ≤ q → SmallItemSS ns) ∧ Below w.heap.size w w' := by
  refine (szItemSS_kitL ns v 1048576 w (by omega) (by omega) hf h).mono ?_
  rintro e w' ⟨q, he, _, hq, b⟩
  exact ⟨q, he, hq, b⟩
end Go.Proofs.Ytpiapgjiaeddjaa

namespace Go.Proofs.Ytpiapgjiaeddjaa
open Go.RowKit Go.Maps Go.Deep Go.ChangeShapes Go.WideShapes Go.ChangeAt

theorem cells_byteA : Try.prog.cellsOf 5 = 1 := by kernel_rfl
theorem choose_byte {n : Nat} {P : Nat → UInt8 → Prop} (h : ∀ i, i < n → ∃ c, P i c) : ∃ bs : List UInt8, bs.length = n ∧ ∀ i (hi : i < bs.length), P i bs[i] := by
  induction n with
  | zero => exact ⟨[], rfl, fun i hi => absurd hi (Nat.not_lt_zero _)⟩
  | succ n ih =>
    obtain ⟨bs, hl, hb⟩ := ih (fun i hi => h i (by omega))
    obtain ⟨c, hc⟩ := h n (by omega)
    refine ⟨bs ++ [c], by simp [hl], fun i hi => ?_⟩
    by_cases e : i < bs.length
    · rw [List.getElem_append_left e]; exact hb i e
    · have : i = n := by simp at hi; omega
      subst this
      rw [List.getElem_append_right (by omega)]
      simpa [hl] using hc
theorem open_byte_cell {H : Type} {enc : TypeId × Value → H} {w : World} {base : Nat} {spare : Nat → Bool} {held : Bool} {c : Value} {fuel : Nat} {y : DataW H × List MemPlace}
    (hf : DataW.trod enc Try.prog w base spare held fuel 104 [c] = some y) :
    ∃ a cap, ∃ bs : List UInt8, c = .slice a bs.length cap ∧ bs.length ≤ maxLen ∧ bs.length ≤ cap ∧ ByIn w a bs := by
  rcases open_slice Try.underlying104 hf with ⟨hcs, _⟩ | ⟨a', len, cap, m, n, D, Pl, hcs, hb, hl, hm, hmm, _, hx⟩
  · simp at hcs
    subst hcs
    exact ⟨none, 0, [], rfl, by unfold maxLen; simp, Nat.le_refl _, .inl rfl⟩
  · simp at hcs
    subst hcs
    have hlm : len ≤ m := by rw [hmm]; split <;> omega
    have each : ∀ i, i < len → ∃ c : UInt8, w.cell? (a'.add i) = some (.int .u8 (c.toNat : Int)) := by
      intro i hi
      obtain ⟨cs', h1, h2⟩ := hx i (by omega)
      rw [cells_byteA] at h1
      obtain ⟨_, hlen, hcell⟩ := World.cells?_some h1
      match cs', hlen with
      | [v0], _ =>
        obtain ⟨n0, e0, _, hr⟩ := DataW.trod_int Try.underlying5 h2
        simp at e0
        subst e0
        have c0 := hcell 0 (by omega)
        have hr' : 0 ≤ n0 ∧ n0 ≤ 255 := by
          have hr2 := Bool.and_eq_true_iff.1 hr
          exact ⟨of_decide_eq_true hr2.1, of_decide_eq_true hr2.2⟩
        obtain ⟨v, rfl⟩ := Int.eq_ofNat_of_zero_le hr'.1
        rw [Nat.mul_one] at c0
        refine ⟨UInt8.ofNat v, ?_⟩
        rw [UInt8.toNat_ofNat', Nat.mod_eq_of_lt (by omega)]
        simpa [Addr.add] using c0
    obtain ⟨bs, hbl, hbs⟩ := choose_byte each
    refine ⟨some a', cap, bs, by rw [hbl], by omega, by omega, ?_⟩
    by_cases h0 : len = 0
    · exact .inl (List.eq_nil_of_length_eq_zero (by omega))
    · have hc0 := hbs 0 (by omega)
      obtain ⟨b, off, spot⟩ := a'
      have hspot : spot = none := by simpa [Addr.add] using World.cell?_spot hc0
      subst hspot
      refine .inr ⟨b, off, rfl, lt_of_cell0 (by simpa [Addr.add] using hc0), ?_⟩
      intro i hi
      have h2 := hbs i hi
      by_cases e : i = 0
      · subst e; simpa [Addr.add] using h2
      · simpa [Addr.add, e] using h2
theorem open_byteS {H : Type} {enc : TypeId × Value → H} {w : World} {base : Nat} {spare : Nat → Bool} {held : Bool} {a : Option Addr} {len cap : Nat} {d : DataW H} {p : List MemPlace}
    (h : DataW.Trod enc Try.prog w base spare held 104 (.slice a len cap) d p) :
    ∃ bs : List UInt8, bs.length = len ∧ len ≤ maxLen ∧ len ≤ cap ∧ ByIn w a bs := by
  obtain ⟨fuel, hf⟩ := h
  obtain ⟨a', cap', bs, e, h1, h2, h3⟩ := open_byte_cell (c := .slice a len cap) (by simpa [Value.cells] using hf)
  simp only [Value.slice.injEq] at e
  obtain ⟨rfl, rfl, rfl⟩ := e
  exact ⟨bs, rfl, h1, h2, h3⟩
end Go.Proofs.Ytpiapgjiaeddjaa
