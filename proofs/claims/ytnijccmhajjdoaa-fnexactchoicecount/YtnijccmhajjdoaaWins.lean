/-
  Lists of windows, each a list of items, for reading: how much they hold.
-/
import Derived.Test.YtnijccmhajjdoaaItemRows
set_option linter.unusedVariables false
namespace Go.Proofs.Ytnijccmhajjdoaa
open Go.RowKit Go.Maps Go.Deep

/-- they lie one behind the other, from a place of a block on; each one's items may be read -/
def WinsAt (w : World) (b off : Nat) (ws : List (List ItemV)) : Prop :=
  ∀ i (h : i < ws.length), ∃ v, w.cell? ⟨b, off + i, none⟩ = some v ∧ ItemSRd w v ws[i]
def WinsIn (w : World) (a : Option Addr) (ws : List (List ItemV)) : Prop :=
  ws = [] ∨ ∃ b off, a = some ⟨b, off, none⟩ ∧ b < w.heap.size ∧ WinsAt w b off ws
def ItemSSRd (w : World) (v : Value) (ws : List (List ItemV)) : Prop := ∃ a c, v = .slice a ws.length c ∧ WinsIn w a ws
def ItemSSFit (ws : List (List ItemV)) : Prop := ws.length ≤ maxLen ∧ ∀ x ∈ ws, ItemSFit x
def SmallItemSS (ws : List (List ItemV)) : Prop := ws.length ≤ 1048576 ∧ ∀ x ∈ ws, SmallItemS x
theorem WinsAt.up {w w' : World} {b off : Nat} {ws : List (List ItemV)} (h : WinsAt w b off ws) (hb : b < w.heap.size) (hw : Below w.heap.size w w') : WinsAt w' b off ws := by
  intro i hi
  obtain ⟨v, c, hv⟩ := h i hi
  exact ⟨v, (hw.cell (by exact hb)).trans c, hv.up hw⟩
theorem WinsIn.up {w w' : World} {a : Option Addr} {ws : List (List ItemV)} (h : WinsIn w a ws) (hw : Below w.heap.size w w') : WinsIn w' a ws := by
  rcases h with h | ⟨b, off, e, hb, h⟩
  · exact .inl h
  · exact .inr ⟨b, off, e, Nat.lt_of_lt_of_le hb hw.size, h.up hb hw⟩
theorem ItemSSRd.up {w w' : World} {v : Value} {ws : List (List ItemV)} (h : ItemSSRd w v ws) (hw : Below w.heap.size w w') : ItemSSRd w' v ws := by
  obtain ⟨a, c, e, h⟩ := h
  exact ⟨a, c, e, h.up hw⟩
theorem ItemSSRd.form {w : World} {v : Value} {ws : List (List ItemV)} (h : ItemSSRd w v ws) : ∃ a n c, v = .slice a n c := by
  obtain ⟨a, c, e, _⟩ := h
  exact ⟨a, _, c, e⟩

set_option maxHeartbeats 3200000 in
theorem szItemSS_row (w : World) (b off cap : Nat) (ns : List (List ItemV)) (left0 : Int) (hf0 : 0 ≤ left0) (hf1 : left0 ≤ 1048576) (hl : ns.length ≤ maxLen) (hc : WinsAt w b off ns) (hb : b < w.heap.size) (hs : ∀ x ∈ ns, ItemSFit x) :
    Calls Try.prog 5 #[.slice (some ⟨b, off, none⟩) ns.length cap, .int .i64 left0] w fun e w' => ∃ r : Int, e = .returned (.int .i64 r) ∧ r ≤ left0 ∧ Hid (0 ≤ r → SmallItemSS ns) ∧ Below w.heap.size w w' := by
  have HS := hide hs
  have HC := hide hc
  unfold maxLen at hl
  clear hs hc
  by_cases hlen : (ns.length : Int) ≤ left0
  · go_enter Try.func5, Try.ntmps5
    go_wp2_with fail
    go_loopw [1, 5] (fun l i wr => ∃ (k : Nat) (left : Int), k ≤ ns.length ∧ i = .int .i64 k ∧ l = .int .i64 left ∧ 0 ≤ left ∧ left ≤ left0 ∧ Hid (∀ j (h : j < ns.length), j < k → SmallItemS ns[j]) ∧ Hid (Below w.heap.size w wr)) (fun _ i _ => ns.length - (intOf i).toNat)
    case atStart => exact ⟨0, _, Nat.zero_le _, rfl, rfl, by omega, by omega, hide (fun j _ hj => absurd hj (Nat.not_lt_zero _)), Below.refl _ _⟩
    case round =>
      obtain ⟨k, left, hk, rfl, rfl, hl0, hl1, HN, HB⟩ := hrel
      by_cases hlt : k < ns.length
      · obtain ⟨v, c0, hv⟩ := (unhide HC).up hb (unhide HB) k hlt
        have HF := hide (unhide HS _ (List.getElem_mem hlt))
        have HV := hide (fun W (bW : Below wr.heap.size wr W) => szItemS_kitL ns[k] v left W hl0 (by omega) (unhide HF) (hv.up bW))
        obtain ⟨va, vn, vc, rfl⟩ := hv.form
        have HN2 := hide (show SmallItemS ns[k] → ∀ j (h : j < ns.length), j < k + 1 → SmallItemS ns[j] from fun hk' j h hj => by
          by_cases e : j = k
          · subst e; exact hk'
          · exact unhide HN j h (by omega))
        clear hv HF
        generalize ns[k] = ms at *
        go_wp2_with fail
        refine (unhide HV _ (by go_grown)).mono ?_
        rintro e w1 ⟨r, rfl, hr, HR, b1⟩
        have B1 := hide ((unhide HB).trans (b1.mono (unhide HB).size))
        clear b1 c0
        by_cases hneg : r < 0
        · go_wp2_with fail
          go_ret
          exact ⟨-1, rfl, by omega, hide (fun h => absurd h (by omega)), unhide B1⟩
        · have HN3 := hide (unhide HN2 (unhide HR (by omega)))
          go_wp2_with fail
          go_roundw
          case rel => exact ⟨k + 1, r, by omega, by go_num, rfl, by omega, by omega, HN3, B1⟩
          case measure => simp [intOf]; omega
      · have HE := hide (show SmallItemSS ns from ⟨by omega, fun x hx => by
          obtain ⟨j, hj, rfl⟩ := List.getElem_of_mem hx
          exact unhide HN j hj (by omega)⟩)
        go_wp2_with fail
        go_ret
        exact ⟨_, rfl, hl1, hide (fun _ => unhide HE), unhide HB⟩
  · go_enter Try.func5, Try.ntmps5
    go_wp2_with fail
    go_ret
    exact ⟨-1, rfl, by omega, hide (fun h => absurd h (by omega)), Below.refl _ _⟩
theorem szItemSS_none (w : World) (a : Option Addr) (cap : Nat) (left0 : Int) (hf0 : 0 ≤ left0) (hf1 : left0 ≤ 1048576) :
    Calls Try.prog 5 #[.slice a 0 cap, .int .i64 left0] w fun e w' => e = .returned (.int .i64 left0) ∧ w' = w := by
  go_enter Try.func5, Try.ntmps5
  go_wp2_with fail
  refine wp_loop_rounds 1 ?_
  rw [rounds_succ]
  go_wp2_with fail
  go_ret
  exact ⟨rfl, rfl⟩
theorem szItemSS_kitL (ns : List (List ItemV)) (v : Value) (left : Int) (w : World) (h0 : 0 ≤ left) (h1 : left ≤ 1048576) (hf : ItemSSFit ns) (h : ItemSSRd w v ns) :
    Calls Try.prog 5 #[v, .int .i64 left] w fun e w' => ∃ q : Int, e = .returned (.int .i64 q) ∧ q ≤ left ∧ Hid (0 ≤ q → SmallItemSS ns) ∧ Below w.heap.size w w' := by
  obtain ⟨a, c, rfl, h⟩ := h
  rcases h with rfl | ⟨b, off, rfl, hb, hc⟩
  · refine (szItemSS_none w a c left h0 h1).mono ?_
    rintro e w' ⟨rfl, rfl⟩
    exact ⟨_, rfl, Int.le_refl _, hide (fun _ => ⟨by simp, fun _ h => by cases h⟩), Below.refl _ _⟩
  · exact szItemSS_row w b off c ns left h0 h1 hf.1 hc hb hf.2
theorem szItemSS_kit (ns : List (List ItemV)) (v : Value) (w : World) (hf : ItemSSFit ns) (h : ItemSSRd w v ns) :
    Calls Try.prog 5 #[v, .int .i64 1048576] w fun e w' => ∃ q : Int, e = .returned (.int .i64 q) ∧ Hid (0 ≤ q → SmallItemSS ns) ∧ Below w.heap.size w w' := by
  refine (szItemSS_kitL ns v 1048576 w (by omega) (by omega) hf h).mono ?_
  rintro e w' ⟨q, he, _, hq, b⟩
  exact ⟨q, he, hq, b⟩
end Go.Proofs.Ytnijccmhajjdoaa
