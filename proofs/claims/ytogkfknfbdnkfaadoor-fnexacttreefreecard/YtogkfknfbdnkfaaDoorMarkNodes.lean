/-
  A copied list of nodes that may be written into, and the marks that a law writes over it.
-/
import Derived.Test.YtogkfknfbdnkfaaDoorArgs
import Derived.Test.YtogkfknfbdnkfaaDoorMarks
set_option linter.unusedVariables false
namespace Go.Proofs.YtogkfknfbdnkfaaDoor
open Go.RowKit Go.Maps Go.Deep

/-- a row of nodes, of whatever content, that may be written into -/
def NodeRow (w : World) (g n : Nat) : Prop := ∃ base xs, w.ownsRow base 38 4 (.slice (some ⟨g, 0, none⟩) n n) n xs
theorem NodeRow.below {w w' : World} {g n B : Nat} (h : NodeRow w g n) (hb : Below B w w') (hg : g < B) : NodeRow w' g n := by
  obtain ⟨base, xs, h⟩ := h
  exact ⟨base, xs, ownsRow_below h hb hg⟩

set_option maxHeartbeats 1600000 in
theorem toNodeS_soft (w : World) (b off cap : Nat) (ns : List NodeV) (hl : ns.length ≤ 1048576) (hc : NodesAt w b off ns) (hb : b < w.heap.size) :
    Calls Tryd.prog 6 #[.slice (some ⟨b, off, none⟩) ns.length cap] w fun e w' => e = .returned (.slice (some ⟨w.heap.size, 0, none⟩) ns.length ns.length) ∧ NodesAt w' w.heap.size 0 ns ∧ w.heap.size < w'.heap.size ∧ Below w.heap.size w w' ∧ NodeRow w' w.heap.size ns.length := by
  obtain ⟨i0, hi, hz0, hz1, hz2⟩ := info_parts infoNode
  go_enter Tryd.func6, Tryd.ntmps6
  go_wp2_with (first
    | (at_make; refine wpList_make_full _ rfl _ _ 26 rfl w.heap.size 38 i0 _ 4 Tryd.underlying26 hi hz0 hz1 _ _ _ _ ns.length rfl rfl rfl rfl (by rw [hz2]; omega) (by unfold maxLen; omega) (Nat.le_refl _) ?_; intro w1 hown hgrow)
    | go_in)
  clear hz0 hz1 hz2 hi
  have hlt1 : w.heap.size < w1.heap.size := by
    rcases hown.2 with ⟨h', _⟩ | ⟨g', cap', cur, h', _, hg, _⟩
    · simp at h'
    · simp only [Value.slice.injEq, Option.some.injEq, Addr.mk.injEq, and_true, true_and] at h'
      obtain ⟨rfl, rfl⟩ := h'
      exact (Array.getElem?_eq_some_iff.1 hg).1
  have hbw1 : Below w.heap.size w w1 := (Below.refl _ _).grown hgrow (Nat.le_refl _) (fun k hk => by cases hk)
  go_loopw [4] (fun i wr => ∃ (k : Nat) (xs : List Value), k ≤ ns.length ∧ i = .int .i64 k ∧ wr.ownsRow w.heap.size 38 4 (.slice (some ⟨w.heap.size, 0, none⟩) ns.length ns.length) ns.length xs ∧ HoldsTo xs ns k ∧ w.heap.size < wr.heap.size ∧ Below w.heap.size w wr) (fun i _ => ns.length - (intOf i).toNat)
  case atStart => exact ⟨0, _, Nat.zero_le _, rfl, hown, fun j _ hj => absurd hj (Nat.not_lt_zero _), hlt1, hbw1⟩
  case round =>
    obtain ⟨k, xs, hk, rfl, hrow, hto, hsz, hbel⟩ := hrel
    have HT := hide hto
    clear hto
    by_cases hlt : k < ns.length
    · obtain ⟨c0, c1, c2, c3⟩ := hc k hlt
      rw [← hbel.cell (by exact hb)] at c0 c1 c2 c3
      go_wp2_with (first
        | (go_at_call 16; refine (toNode_any _ _ _ _ _).mono ?_; rintro e w2 ⟨rfl, hb2⟩; obtain ⟨v0, v1, v2, v3, d0, d1, d2, d3, f0, f1, f2, f3⟩ := rowFour (ownsRow_below hrow hb2 hsz) k hlt)
        | go_in)
      have hrow2 := ownsRow_below hrow hb2 hsz
      have hb3 : Below w.heap.size w w2 := hbel.trans (hb2.mono (Nat.le_of_lt hsz))
      have hs2 : w.heap.size < w2.heap.size := Nat.lt_of_lt_of_le hsz hb2.size
      clear c0 c1 c2 c3 d0 d1 d2 d3 f0 f1 f2 f3
      go_roundw
      case rel =>
        refine ⟨k + 1, _, by omega, by go_num, storeFour hrow2 k _ _ _ _, holdsTo_step xs ns k hlt hrow.1 (unhide HT), by simpa using hs2, ?_⟩
        exact (((hb3.setCell (Nat.le_refl _) _).setCell (Nat.le_refl _) _).setCell (Nat.le_refl _) _).setCell (Nat.le_refl _) _
      case measure => simp [intOf]; omega
    · go_wp2
      go_ret
      have e : k = ns.length := by omega
      subst e
      exact ⟨rfl, nodes_of_row hrow rfl (unhide HT), hsz, hbel, _, xs, hrow⟩

set_option maxHeartbeats 800000 in
theorem toNodeS_soft_none (w : World) (a : Option Addr) (cap : Nat) :
    Calls Tryd.prog 6 #[.slice a 0 cap] w fun e w' => e = .returned (.slice (some ⟨w.heap.size, 0, none⟩) 0 0) ∧ w.heap.size < w'.heap.size ∧ Below w.heap.size w w' ∧ NodeRow w' w.heap.size 0 := by
  obtain ⟨i0, hi, hz0, hz1, hz2⟩ := info_parts infoNode
  go_enter Tryd.func6, Tryd.ntmps6
  go_wp2_with (first
    | (at_make; refine wpList_make_full _ rfl _ _ 26 rfl w.heap.size 38 i0 _ 4 Tryd.underlying26 hi hz0 hz1 _ _ _ _ 0 rfl rfl rfl rfl (by rw [hz2]; omega) (by unfold maxLen; omega) (Nat.le_refl _) ?_; intro w1 hown hgrow)
    | go_in)
  have hlt1 : w.heap.size < w1.heap.size := by
    rcases hown.2 with ⟨h', _⟩ | ⟨g', cap', cur, h', _, hg, _⟩
    · simp at h'
    · simp only [Value.slice.injEq, Option.some.injEq, Addr.mk.injEq, and_true, true_and] at h'
      obtain ⟨rfl, rfl⟩ := h'
      exact (Array.getElem?_eq_some_iff.1 hg).1
  have hbw1 : Below w.heap.size w w1 := (Below.refl _ _).grown hgrow (Nat.le_refl _) (fun k hk => by cases hk)
  have HROW := hide hown
  clear hown hgrow
  refine wp_loop_rounds 1 ?_
  rw [rounds_succ]
  go_wp2
  go_ret
  exact ⟨rfl, hlt1, hbw1, _, _, unhide HROW⟩


theorem toNodeS_soft_in (w : World) (a : Option Addr) (cap : Nat) (ns : List NodeV) (hl : ns.length ≤ 1048576) (h : NodesIn w a ns) :
    Calls Tryd.prog 6 #[.slice a ns.length cap] w fun e w' => e = .returned (.slice (some ⟨w.heap.size, 0, none⟩) ns.length ns.length) ∧ NodesAt w' w.heap.size 0 ns ∧ w.heap.size < w'.heap.size ∧ Below w.heap.size w w' ∧ NodeRow w' w.heap.size ns.length := by
  rcases h with rfl | ⟨b, off, rfl, hb, hn⟩
  · refine (toNodeS_soft_none w a cap).mono ?_
    rintro e w' ⟨rfl, h1, h2, h3⟩
    exact ⟨rfl, fun i hi => absurd hi (Nat.not_lt_zero _), h1, h2, h3⟩
  · exact toNodeS_soft w b off cap ns hl hn hb

theorem grown_set {w wr w2 : World} {g : Nat} (h1 : w.grownBy wr (some g)) (h2 : Below wr.heap.size wr w2) : w.grownBy w2 (some g) :=
  ⟨h2.os.trans h1.os, h2.tape.trans h1.tape, h2.output.trans h1.output, Nat.le_trans h1.size h2.size, fun i hi hne => (h2.block i (Nat.lt_of_lt_of_le hi h1.size)).trans (h1.block i hi hne)⟩
theorem grown_cell {w wr : World} {g : Nat} (h1 : w.grownBy wr (some g)) (i : Nat) (v : Value) : w.grownBy (wr.setCell ⟨g, i, none⟩ v) (some g) :=
  ⟨h1.os, h1.tape, h1.output, by have := h1.size; simp; omega, fun k hk hne => by
    rw [Below.heap_setCell _ ⟨g, i, none⟩ _ k (fun e => hne (by rw [e]))]
    exact h1.block k hk hne⟩
set_option maxHeartbeats 1600000 in
theorem markNodeS_any (w : World) (g n : Nat) (k : Int) (hk0 : 0 ≤ k) (hk : k ≤ 1048576) (hl : n ≤ 1048576) (hg : g < w.heap.size) (hrow : NodeRow w g n) :
    Calls Tryd.prog 10 #[.slice (some ⟨g, 0, none⟩) n n, .int .i64 k] w fun e w' => e = .returned (.int .i64 (k + 4 * (n : Int))) ∧ Hid (w.grownBy w' (some g)) := by
  have HR := hide hrow
  clear hrow
  go_enter Tryd.func10, Tryd.ntmps10
  go_wp2_with fail
  go_loopw [1, 5] (fun kv i wr => ∃ j : Nat, j ≤ n ∧ i = .int .i64 j ∧ kv = .int .i64 (k + 4 * (j : Int)) ∧ g < wr.heap.size ∧ Hid (NodeRow wr g n) ∧ Hid (w.grownBy wr (some g))) (fun _ i _ => n - (intOf i).toNat)
  case atStart => exact ⟨0, Nat.zero_le _, rfl, by simp, hg, HR, hide (grown_refl _ _)⟩
  case round =>
    obtain ⟨j, hj, rfl, rfl, hgr, HRr, HG⟩ := hrel
    by_cases hlt : j < n
    · obtain ⟨base, xs, hx⟩ := unhide HRr
      obtain ⟨v0, v1, v2, v3, d0, d1, d2, d3, f0, f1, f2, f3⟩ := rowFour hx j hlt
      have HX := hide hx
      have hkj : k + 4 * (j : Int) + 2 ≤ 999999999999999999 := by omega
      have HMT := hide (fun w => markText_any (k + 4 * (j : Int) + 1 + 1) (by omega) w)
      have HX2 := hide ((((hx.stored (j * 4) (.int .i64 (k + 4 * (j : Int)))).1).stored (j * 4 + 1) (.int .i64 (k + 4 * (j : Int) + 1))).1)
      have HG2 := hide (grown_cell (grown_cell (unhide HG) (j * 4) (.int .i64 (k + 4 * (j : Int)))) (j * 4 + 1) (.int .i64 (k + 4 * (j : Int) + 1)))
      have hgr2 : g < ((wr.setCell ⟨g, j * 4, none⟩ (.int .i64 (k + 4 * (j : Int)))).setCell ⟨g, j * 4 + 1, none⟩ (.int .i64 (k + 4 * (j : Int) + 1))).heap.size := by simpa using hgr
      clear hx d2 d3 f2 f3
      go_wp2_with (first
        | (go_at_call 20; refine (unhide HMT _).mono ?_; rintro e w2 ⟨rfl, hb2⟩; have HX3 := hide (ownsRow_below (unhide HX2) hb2 hgr2); have HG3 := hide (grown_set (unhide HG2) hb2); have hsz3 := hb2.size; obtain ⟨y0, y1, y2, y3, e0, e1, e2, e3, q0, q1, q2, q3⟩ := rowFour (unhide HX3) j hlt; clear hb2 e0 e1 q0 q1)
        | fail)
      have HX4 := hide ((((unhide HX3).stored (j * 4 + 2) (.string (mText (k + 4 * (j : Int) + 1 + 1)))).1.stored (j * 4 + 3) (.int .i64 (k + 4 * (j : Int) + 1 + 1 + 1))).1)
      have HG4 := hide (grown_cell (grown_cell (unhide HG3) (j * 4 + 2) (.string (mText (k + 4 * (j : Int) + 1 + 1)))) (j * 4 + 3) (.int .i64 (k + 4 * (j : Int) + 1 + 1 + 1)))
      have hgr4 : g < w2.heap.size := by omega
      clear e2 e3 q2 q3 d0 d1 f0 f1
      go_roundw
      case rel => exact ⟨j + 1, by omega, by go_num, by congr 1; omega, by simpa using hgr4, hide ⟨_, _, unhide HX4⟩, HG4⟩
      case measure => simp [intOf]; omega
    · have e : j = n := by omega
      subst e
      go_wp2_with fail
      go_ret
      exact ⟨rfl, HG⟩
end Go.Proofs.YtogkfknfbdnkfaaDoor
