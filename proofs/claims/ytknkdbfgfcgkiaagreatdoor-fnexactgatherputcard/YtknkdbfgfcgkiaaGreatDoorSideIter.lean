/-
  sideBySide: the iterator over two stamps, and what it hands to a loop's body.
-/
import Derived.Test.YtknkdbfgfcgkiaaGreatDoorMerged16
import Derived.Test.YtknkdbfgfcgkiaaGreatDoorMerged4
import Derived.Test.YtknkdbfgfcgkiaaGreatDoorMerged7
import Derived.Test.YtknkdbfgfcgkiaaGreatDoorMerged11
import Derived.Test.YtknkdbfgfcgkiaaGreatDoorMerged10
import Derived.RangeFuncNested
import Derived.RangeFuncBound
import Derived.RangeFuncCalls
import Derived.RangeFuncLeaves
import Derived.Shelf.Abstract
import Derived.Shelf.RegionOpen
import Derived.WalkKit
import Derived.OwnWalkIn
import Derived.TacticsInMore
import Derived.LoopNIn
import Derived.LoopIn
import Derived.Deep.RegionHeld3
import Derived.Laws.Cover1
set_option linter.unusedVariables false
namespace Go.Proofs.YtknkdbfgfcgkiaaGreatDoor
open Go.RowKit Go.Maps Go.Deep Go.Shelf

attribute [local go_sem] Oper.semAt_some

def encM (x : MarkV × MarkV) : Array Value := #[.agg #[.string x.1.a0, .int .i64 x.1.a1], .agg #[.string x.2.a0, .int .i64 x.2.a1]]
/-- a row below n₀, or nothing -/
def MarkLow (n₀ : Nat) (S : List Nat) (W : World) (a : Option Addr) (ns : List MarkV) : Prop := ns = [] ∨ ∃ b off, a = some ⟨b, off, none⟩ ∧ (b < n₀ ∧ b ∉ S) ∧ MarkAt W b off ns
theorem MarkLow.at {n₀ : Nat} {S : List Nat} {W : World} {a : Option Addr} {ns : List MarkV} (h : MarkLow n₀ S W a ns) {i : Nat} (hi : i < ns.length) : ∃ b off, a = some ⟨b, off, none⟩ ∧ (b < n₀ ∧ b ∉ S) ∧ MarkAt W b off ns := by
 rcases h with rfl | h
 ·simp at hi
 ·exact h

theorem twoBoxes (w : World) : BoxF ((w.alloc (.cells #[.string ⟨#[]⟩, .int .i64 0] 112)).alloc (.cells #[.string ⟨#[]⟩, .int .i64 0] 112)) w.heap.size [.string ⟨#[]⟩, .int .i64 0] ∧
  BoxF ((w.alloc (.cells #[.string ⟨#[]⟩, .int .i64 0] 112)).alloc (.cells #[.string ⟨#[]⟩, .int .i64 0] 112)) (w.heap.size + 1) [.string ⟨#[]⟩, .int .i64 0] ∧
  Below w.heap.size w ((w.alloc (.cells #[.string ⟨#[]⟩, .int .i64 0] 112)).alloc (.cells #[.string ⟨#[]⟩, .int .i64 0] 112)) := by
 refine ⟨(boxF_new w [.string ⟨#[]⟩, .int .i64 0] 112).up ((Below.refl _ _).alloc (Nat.le_refl _) _), ?_, ((Below.refl _ _).alloc (Nat.le_refl _) _).alloc (by simp) _⟩
 have := boxF_new (w.alloc (.cells #[.string ⟨#[]⟩, .int .i64 0] 112)) [.string ⟨#[]⟩, .int .i64 0] 112
 simpa using this
theorem BoxF.two {w : World} {g : Nat} {a b : Value} (h : BoxF w g [a, b]) : w.cell? ⟨g, 0, none⟩ = some a ∧ w.cell? ⟨g, 1, none⟩ = some b ∧ w.frozen? ⟨g, 0, none⟩ = false ∧ w.frozen? ⟨g, 1, none⟩ = false := ⟨h.1.2 0 _ rfl, h.1.2 1 _ rfl, h.2 0 (by simp), h.2 1 (by simp)⟩

theorem turn_drew (S : List Nat) (X : World) : Turn S X X.drew := ⟨rfl, rfl, rfl, Nat.le_refl _, fun _ _ _ => rfl⟩
theorem box_drew {X : World} {g : Nat} {xs : List Value} (h : BoxIs X g xs) : BoxIs X.drew g xs := h.up ⟨rfl, rfl, rfl, Nat.le_refl _, fun _ _ => rfl⟩
theorem filled {W : World} {g k : Nat} {a b c d : Value} (hg : BoxF W g [a, b]) (hk : BoxF W k [c, d]) (hne : g ≠ k) (v0 v1 v2 v3 : Value) :
  BoxIs ((((W.setCell ⟨g, 0, none⟩ v0).setCell ⟨g, 1, none⟩ v1).setCell ⟨k, 0, none⟩ v2).setCell ⟨k, 1, none⟩ v3).drew g [v0, v1] ∧
  BoxIs ((((W.setCell ⟨g, 0, none⟩ v0).setCell ⟨g, 1, none⟩ v1).setCell ⟨k, 0, none⟩ v2).setCell ⟨k, 1, none⟩ v3).drew k [v2, v3] ∧
  Turn [g, k] W ((((W.setCell ⟨g, 0, none⟩ v0).setCell ⟨g, 1, none⟩ v1).setCell ⟨k, 0, none⟩ v2).setCell ⟨k, 1, none⟩ v3).drew := by
 have h1 := (((hg.set 0 v0 (by simp)).set 1 v1 (by simp)).far 0 v2 hne).far 1 v3 hne
 have h2 := (((hk.far 0 v0 (Ne.symm hne)).far 1 v1 (Ne.symm hne)).set 0 v2 (by simp)).set 1 v3 (by simp)
 have h3 := ((((Turn.refl [g, k] W).setCell (g := g) (by simp) 0 v0).setCell (g := g) (by simp) 1 v1).setCell (g := k) (by simp) 0 v2).setCell (g := k) (by simp) 1 v3
 have h1' := h1.1
 have h2' := h2.1
 simp only [List.set_cons_zero, List.set_cons_succ] at h1' h2'
 exact ⟨box_drew h1', box_drew h2', h3.trans (turn_drew _ _)⟩
theorem stored_below {w W X : World} {S : List Nat} (hb : Below w.heap.size w W) (ht : Turn S W X) (hS : ∀ k ∈ S, w.heap.size ≤ k) : Below w.heap.size w X := hb.trans (ht.below hb.size hS)

set_option maxRecDepth 100000 in
set_option maxHeartbeats 8000000 in
theorem side1_in (n : Nat) (hn : 1 ≤ n) (l Ba Bb n₀ : Nat) (aa ab : Option Addr) (ca cb : Nat) (xa xb : List MarkV) (hla : xa.length ≤ 12) (hlb : xb.length ≤ 12) (S : List Nat) (hBa : Ba < n₀) (hBb : Bb < n₀) (hSa : Ba ∉ S) (hSb : Bb ∉ S)
  (J Jx : List (MarkV × MarkV) → World → Prop) (hJ : ∀ pre X Y, J pre X → Below X.heap.size X Y → J pre Y)
  (hY : ∀ pre x W, x ∈ sideL xa xb → J pre W → pre.length < xa.length + xb.length → YieldAt Fence.wide (n - 1) Tryz.prog l (encM x) W fun e W' =>
   (e = .returned (.bool true) ∧ J (pre ++ [x]) W' ∧ Keep n₀ S W W') ∨ (e = .returned (.bool false) ∧ Jx (pre ++ [x]) W'))
  (W : World) (hn₀ : n₀ ≤ W.heap.size) (cA : W.cell? ⟨Ba, 0, none⟩ = some (.slice aa xa.length ca)) (cB : W.cell? ⟨Bb, 0, none⟩ = some (.slice ab xb.length cb)) (rA : MarkLow n₀ S W aa xa) (rB : MarkLow n₀ S W ab xb) (h0 : J [] W) :
  CallsIn Fence.wide n Tryz.prog 131 #[.func (.yield l) #[] #[], .pointer (some ⟨Ba, 0, none⟩), .pointer (some ⟨Bb, 0, none⟩)] W fun e W' => (∃ v, e = .returned v) ∧
   ((∃ ys, ys = sideL xa xb ∧ J ys W') ∨ (∃ pre, pre <+: sideL xa xb ∧ Jx pre W')) := by
 have HJ := hide hJ
 have HY := hide hY
 have RA := hide rA
 have RB := hide rB
 have HJ0 := hide h0
 clear hJ hY rA rB h0
 refine callsIn_of_wp Tryz.func131 rfl trivial ?_ rfl
 simp only [Tryz.ntmps131, List.size_toArray, List.length_cons, List.length_nil, Nat.reduceAdd, Nat.reduceSub, Array.replicate_succ, Array.replicate_zero, List.push_toArray, List.append_toArray, List.nil_append, List.cons_append]
 gi_wp2
 gi_loopw [4, 5] (fun u v wr => ∃ (i j : Nat) (pre : List (MarkV × MarkV)), i ≤ xa.length ∧ j ≤ xb.length ∧ u = .int .i64 i ∧ v = .int .i64 j ∧ Hid (SideTo xa xb i j pre) ∧ Hid (J pre wr) ∧ Hid (Keep n₀ S W wr))
  (fun u v _ => (xa.length - (intOf u).toNat) + (xb.length - (intOf v).toNat))
 case atStart => exact ⟨0, 0, [], Nat.zero_le _, Nat.zero_le _, rfl, rfl, side_start xa xb, HJ0, Keep.refl _ _ _⟩
 case round =>
  obtain ⟨i, j, pre, hi, hj, rfl, rfl, HT, HJp, HB⟩ := hrel
  have dA := ((unhide HB).cell (i := 0) hBa hSa).trans cA
  have dB := ((unhide HB).cell (i := 0) hBb hSb).trans cB
  by_cases hia : i < xa.length
  ·by_cases hjb : j < xb.length
   ·have qj : ((j : Int) == (xb.length : Int)) = false := by rw [beq_eq_false_iff_ne]; omega
    have qi : ((i : Int) == (xa.length : Int)) = false := by rw [beq_eq_false_iff_ne]; omega
    cases hl : lessS xa[i].a0 xb[j].a0
    ·cases hr : lessS xb[j].a0 xa[i].a0
     ·have hl2 := hl
      have hr2 := hr
      unfold lessS at hl2 hr2
      obtain ⟨ba, oa, rfl, hba, hca⟩ := (unhide RA).at hia
      obtain ⟨c0, c1⟩ := hca i hia
      have ea0 := ((unhide HB).cell (g := ba) (i := oa + i * 2) hba.1 hba.2).trans c0
      have ea1 := ((unhide HB).cell (g := ba) (i := oa + i * 2 + 1) hba.1 hba.2).trans c1
      have hi2 : (i : Int) < xa.length := by omega
      have hqa := hba.1
      clear c0 c1 hca
      obtain ⟨bb, ob, rfl, hbb, hcb⟩ := (unhide RB).at hjb
      obtain ⟨c0, c1⟩ := hcb j hjb
      have eb0 := ((unhide HB).cell (g := bb) (i := ob + j * 2) hbb.1 hbb.2).trans c0
      have eb1 := ((unhide HB).cell (g := bb) (i := ob + j * 2 + 1) hbb.1 hbb.2).trans c1
      have hj2 : (j : Int) < xb.length := by omega
      have hqb := hbb.1
      clear c0 c1 hcb
      have HT2 := hide (side_eq (unhide HT) hia hjb hl hr)
      have hlen := hide (side_lt (unhide HT2))
      generalize xa[i] = x at *
      generalize xb[j] = y at *
      obtain ⟨bx, bY, bl⟩ := twoBoxes wr
      have hsz := (unhide HB).size
      gi_wp2
      generalize (wr.alloc (.cells #[.string ⟨#[]⟩, .int .i64 0] 112)).alloc (.cells #[.string ⟨#[]⟩, .int .i64 0] 112) = W1 at *
      have f0 := (bl.cell (p := ⟨Ba, 0, none⟩) (by show Ba < _; omega)).trans dA
      have f1 := (bl.cell (p := ⟨Bb, 0, none⟩) (by show Bb < _; omega)).trans dB
      have f2 := (bl.cell (p := ⟨ba, oa + i * 2, none⟩) (by show ba < _; omega)).trans ea0
      have f3 := (bl.cell (p := ⟨ba, oa + i * 2 + 1, none⟩) (by show ba < _; omega)).trans ea1
      have f4 := (bl.cell (p := ⟨bb, ob + j * 2, none⟩) (by show bb < _; omega)).trans eb0
      have f5 := (bl.cell (p := ⟨bb, ob + j * 2 + 1, none⟩) (by show bb < _; omega)).trans eb1
      have BX := hide bx
      have BY := hide bY
      have BL := hide bl
      clear bx bY bl dA dB ea0 ea1 eb0 eb1
      refine wpIn_wide.2 ?_
      go_quiet (fail)
      gi_wp2
      have BXW2 := hide ((unhide BX).up (belowN W1 nq))
      have BYW2 := hide ((unhide BY).up (belowN W1 nq))
      have BLW2 := hide ((unhide BL).trans ((belowN W1 nq).mono (unhide BL).size))
      have g0 : (W1.drewN nq).cell? ⟨Ba, 0, none⟩ = _ := f0
      have g1 : (W1.drewN nq).cell? ⟨Bb, 0, none⟩ = _ := f1
      have g2 : (W1.drewN nq).cell? ⟨ba, oa + i * 2, none⟩ = _ := f2
      have g3 : (W1.drewN nq).cell? ⟨ba, oa + i * 2 + 1, none⟩ = _ := f3
      have g4 : (W1.drewN nq).cell? ⟨bb, ob + j * 2, none⟩ = _ := f4
      have g5 : (W1.drewN nq).cell? ⟨bb, ob + j * 2 + 1, none⟩ = _ := f5
      clear BX BY BL f0 f1 f2 f3 f4 f5
      generalize W1.drewN nq = W2 at *
      refine wpIn_wide.2 ?_
      go_quiet (fail)
      gi_wp2
      have BXW3 := hide ((unhide BXW2).up (belowN W2 nq))
      have BYW3 := hide ((unhide BYW2).up (belowN W2 nq))
      have BLW3 := hide ((unhide BLW2).trans ((belowN W2 nq).mono (unhide BLW2).size))
      have h0 : (W2.drewN nq).cell? ⟨Ba, 0, none⟩ = _ := g0
      have h1 : (W2.drewN nq).cell? ⟨Bb, 0, none⟩ = _ := g1
      have h2 : (W2.drewN nq).cell? ⟨ba, oa + i * 2, none⟩ = _ := g2
      have h3 : (W2.drewN nq).cell? ⟨ba, oa + i * 2 + 1, none⟩ = _ := g3
      have h4 : (W2.drewN nq).cell? ⟨bb, ob + j * 2, none⟩ = _ := g4
      have h5 : (W2.drewN nq).cell? ⟨bb, ob + j * 2 + 1, none⟩ = _ := g5
      clear BXW2 BYW2 BLW2 g0 g1 g2 g3 g4 g5
      generalize W2.drewN nq = W3 at *
      refine wpIn_wide.2 ?_
      have KP := hide (show ∀ X : World, Turn [wr.heap.size, wr.heap.size + 1] W3 X → (fun (X : World) => X.cell? ⟨Ba, 0, none⟩ = some (.slice (some ⟨ba, oa, none⟩) xa.length ca) ∧ X.cell? ⟨ba, oa + i * 2, none⟩ = some (.string x.a0) ∧ X.cell? ⟨ba, oa + i * 2 + 1, none⟩ = some (.int .i64 x.a1) ∧ X.cell? ⟨Bb, 0, none⟩ = some (.slice (some ⟨bb, ob, none⟩) xb.length cb) ∧ X.cell? ⟨bb, ob + j * 2, none⟩ = some (.string y.a0) ∧ X.cell? ⟨bb, ob + j * 2 + 1, none⟩ = some (.int .i64 y.a1)) X from fun X t => ⟨(t.cell (lt_of_cell0 h0) (by simp; omega)).trans h0, (t.cell (lt_of_cell0 h2) (by simp; omega)).trans h2, (t.cell (lt_of_cell0 h3) (by simp; omega)).trans h3, (t.cell (lt_of_cell0 h1) (by simp; omega)).trans h1, (t.cell (lt_of_cell0 h4) (by simp; omega)).trans h4, (t.cell (lt_of_cell0 h5) (by simp; omega)).trans h5⟩)
      obtain ⟨x0, x1, x2, x3⟩ := (unhide BXW3).two
      obtain ⟨y0, y1, y2, y3⟩ := (unhide BYW3).two
      go_region_held3 (fun (X : World) => X.cell? ⟨Ba, 0, none⟩ = some (.slice (some ⟨ba, oa, none⟩) xa.length ca) ∧ X.cell? ⟨ba, oa + i * 2, none⟩ = some (.string x.a0) ∧ X.cell? ⟨ba, oa + i * 2 + 1, none⟩ = some (.int .i64 x.a1) ∧ X.cell? ⟨Bb, 0, none⟩ = some (.slice (some ⟨bb, ob, none⟩) xb.length cb) ∧ X.cell? ⟨bb, ob + j * 2, none⟩ = some (.string y.a0) ∧ X.cell? ⟨bb, ob + j * 2 + 1, none⟩ = some (.int .i64 y.a1))
       ((refine unhide KP _ ?_; first | exact (Turn.refl _ _).dn 1 | exact (((Turn.refl _ _).dn 1).setCell (by simp) _ _).setCell (by simp) _ _ | exact (((((Turn.refl _ _).dn 1).setCell (by simp) _ _).setCell (by simp) _ _).setCell (by simp) _ _).setCell (by simp) _ _))
       (fail)
      obtain ⟨p0, p1, p2⟩ := filled (unhide BXW3) (unhide BYW3) (by omega) (.string x.a0) (.int .i64 x.a1) (.string y.a0) (.int .i64 y.a1)
      have B9 := hide (stored_below (unhide BLW3) p2 (by simp))
      clear x0 x1 x2 x3 y0 y1 y2 y3 KP p2
      generalize ((((W3.setCell ⟨wr.heap.size, 0, none⟩ (.string x.a0)).setCell ⟨wr.heap.size, 1, none⟩ (.int .i64 x.a1)).setCell ⟨wr.heap.size + 1, 0, none⟩ (.string y.a0)).setCell ⟨wr.heap.size + 1, 1, none⟩ (.int .i64 y.a1)).drew = W9 at *
      have HJ9 := hide (unhide HJ pre wr W9 (unhide HJp) (unhide B9))
      obtain ⟨fn, tmps, assign, body, hy, hR⟩ := unhide HY pre (x, y) W9 (side_has (unhide HT2)) (unhide HJ9) (unhide hlen)
      dsimp only [encM] at hy
      have HR := hide hR
      obtain ⟨r0, r1⟩ := p0.two
      obtain ⟨r2, r3⟩ := p1.two
      clear hR p0 p1 h0 h1 h2 h3 h4 h5
      gi_wp2
      refine (unhide HR).mono ?_
      rintro e W8 (⟨rfl, hJ8, hk8⟩ | ⟨rfl, hJx8⟩)
      ·have B8 := hide (((unhide HB).trans (Keep.of_below ((unhide B9).mono (Nat.le_trans hn₀ hsz)))).trans hk8)
       have HJ8 := hide hJ8
       clear hJ8 hk8
       gi_wp2
       go_roundw
       case rel => exact ⟨i + 1, j + 1, _, by omega, by omega, by go_num, by go_num, HT2, HJ8, B8⟩
       case measure => simp [intOf]; omega
      ·gi_wp2
       refine bodyPost_ret (results_none rfl _ _ _) rfl ?_
       exact ⟨⟨_, rfl⟩, .inr ⟨_, side_pre (unhide HT2), hJx8⟩⟩
     ·have hl2 := hl
      have hr2 := hr
      unfold lessS at hl2 hr2
      obtain ⟨ba, oa, rfl, hba, hca⟩ := (unhide RA).at hia
      obtain ⟨c0, c1⟩ := hca i hia
      have ea0 := ((unhide HB).cell (g := ba) (i := oa + i * 2) hba.1 hba.2).trans c0
      have ea1 := ((unhide HB).cell (g := ba) (i := oa + i * 2 + 1) hba.1 hba.2).trans c1
      have hi2 : (i : Int) < xa.length := by omega
      have hqa := hba.1
      clear c0 c1 hca
      obtain ⟨bb, ob, rfl, hbb, hcb⟩ := (unhide RB).at hjb
      obtain ⟨c0, c1⟩ := hcb j hjb
      have eb0 := ((unhide HB).cell (g := bb) (i := ob + j * 2) hbb.1 hbb.2).trans c0
      have eb1 := ((unhide HB).cell (g := bb) (i := ob + j * 2 + 1) hbb.1 hbb.2).trans c1
      have hj2 : (j : Int) < xb.length := by omega
      have hqb := hbb.1
      clear c0 c1 hcb
      have HT2 := hide (side_hi (unhide HT) hia hjb hl hr)
      have hlen := hide (side_lt (unhide HT2))
      generalize xa[i] = x at *
      generalize xb[j] = y at *
      obtain ⟨bx, bY, bl⟩ := twoBoxes wr
      have hsz := (unhide HB).size
      gi_wp2
      generalize (wr.alloc (.cells #[.string ⟨#[]⟩, .int .i64 0] 112)).alloc (.cells #[.string ⟨#[]⟩, .int .i64 0] 112) = W1 at *
      have f0 := (bl.cell (p := ⟨Ba, 0, none⟩) (by show Ba < _; omega)).trans dA
      have f1 := (bl.cell (p := ⟨Bb, 0, none⟩) (by show Bb < _; omega)).trans dB
      have f2 := (bl.cell (p := ⟨ba, oa + i * 2, none⟩) (by show ba < _; omega)).trans ea0
      have f3 := (bl.cell (p := ⟨ba, oa + i * 2 + 1, none⟩) (by show ba < _; omega)).trans ea1
      have f4 := (bl.cell (p := ⟨bb, ob + j * 2, none⟩) (by show bb < _; omega)).trans eb0
      have f5 := (bl.cell (p := ⟨bb, ob + j * 2 + 1, none⟩) (by show bb < _; omega)).trans eb1
      have BX := hide bx
      have BY := hide bY
      have BL := hide bl
      clear bx bY bl dA dB ea0 ea1 eb0 eb1
      refine wpIn_wide.2 ?_
      go_quiet (fail)
      gi_wp2
      have BXW2 := hide ((unhide BX).up (belowN W1 nq))
      have BYW2 := hide ((unhide BY).up (belowN W1 nq))
      have BLW2 := hide ((unhide BL).trans ((belowN W1 nq).mono (unhide BL).size))
      have g0 : (W1.drewN nq).cell? ⟨Ba, 0, none⟩ = _ := f0
      have g1 : (W1.drewN nq).cell? ⟨Bb, 0, none⟩ = _ := f1
      have g2 : (W1.drewN nq).cell? ⟨ba, oa + i * 2, none⟩ = _ := f2
      have g3 : (W1.drewN nq).cell? ⟨ba, oa + i * 2 + 1, none⟩ = _ := f3
      have g4 : (W1.drewN nq).cell? ⟨bb, ob + j * 2, none⟩ = _ := f4
      have g5 : (W1.drewN nq).cell? ⟨bb, ob + j * 2 + 1, none⟩ = _ := f5
      clear BX BY BL f0 f1 f2 f3 f4 f5
      generalize W1.drewN nq = W2 at *
      refine wpIn_wide.2 ?_
      go_quiet (fail)
      gi_wp2
      have BXW3 := hide ((unhide BXW2).up (belowN W2 nq))
      have BYW3 := hide ((unhide BYW2).up (belowN W2 nq))
      have BLW3 := hide ((unhide BLW2).trans ((belowN W2 nq).mono (unhide BLW2).size))
      have h0 : (W2.drewN nq).cell? ⟨Ba, 0, none⟩ = _ := g0
      have h1 : (W2.drewN nq).cell? ⟨Bb, 0, none⟩ = _ := g1
      have h2 : (W2.drewN nq).cell? ⟨ba, oa + i * 2, none⟩ = _ := g2
      have h3 : (W2.drewN nq).cell? ⟨ba, oa + i * 2 + 1, none⟩ = _ := g3
      have h4 : (W2.drewN nq).cell? ⟨bb, ob + j * 2, none⟩ = _ := g4
      have h5 : (W2.drewN nq).cell? ⟨bb, ob + j * 2 + 1, none⟩ = _ := g5
      clear BXW2 BYW2 BLW2 g0 g1 g2 g3 g4 g5
      generalize W2.drewN nq = W3 at *
      refine wpIn_wide.2 ?_
      have KP := hide (show ∀ X : World, Turn [wr.heap.size, wr.heap.size + 1] W3 X → (fun (X : World) => X.cell? ⟨Bb, 0, none⟩ = some (.slice (some ⟨bb, ob, none⟩) xb.length cb) ∧ X.cell? ⟨bb, ob + j * 2, none⟩ = some (.string y.a0) ∧ X.cell? ⟨bb, ob + j * 2 + 1, none⟩ = some (.int .i64 y.a1)) X from fun X t => ⟨(t.cell (lt_of_cell0 h1) (by simp; omega)).trans h1, (t.cell (lt_of_cell0 h4) (by simp; omega)).trans h4, (t.cell (lt_of_cell0 h5) (by simp; omega)).trans h5⟩)
      obtain ⟨x0, x1, x2, x3⟩ := (unhide BXW3).two
      obtain ⟨y0, y1, y2, y3⟩ := (unhide BYW3).two
      go_region_held3 (fun (X : World) => X.cell? ⟨Bb, 0, none⟩ = some (.slice (some ⟨bb, ob, none⟩) xb.length cb) ∧ X.cell? ⟨bb, ob + j * 2, none⟩ = some (.string y.a0) ∧ X.cell? ⟨bb, ob + j * 2 + 1, none⟩ = some (.int .i64 y.a1))
       ((refine unhide KP _ ?_; first | exact (Turn.refl _ _).dn 1 | exact (((Turn.refl _ _).dn 1).setCell (by simp) _ _).setCell (by simp) _ _ | exact (((((Turn.refl _ _).dn 1).setCell (by simp) _ _).setCell (by simp) _ _).setCell (by simp) _ _).setCell (by simp) _ _))
       (fail)
      obtain ⟨p0, p1, p2⟩ := filled (unhide BXW3) (unhide BYW3) (by omega) (.string y.a0) (.int .i64 0) (.string y.a0) (.int .i64 y.a1)
      have B9 := hide (stored_below (unhide BLW3) p2 (by simp))
      clear x0 x1 x2 x3 y0 y1 y2 y3 KP p2
      generalize ((((W3.setCell ⟨wr.heap.size, 0, none⟩ (.string y.a0)).setCell ⟨wr.heap.size, 1, none⟩ (.int .i64 0)).setCell ⟨wr.heap.size + 1, 0, none⟩ (.string y.a0)).setCell ⟨wr.heap.size + 1, 1, none⟩ (.int .i64 y.a1)).drew = W9 at *
      have HJ9 := hide (unhide HJ pre wr W9 (unhide HJp) (unhide B9))
      obtain ⟨fn, tmps, assign, body, hy, hR⟩ := unhide HY pre (⟨y.a0, 0⟩, y) W9 (side_has (unhide HT2)) (unhide HJ9) (unhide hlen)
      dsimp only [encM] at hy
      have HR := hide hR
      obtain ⟨r0, r1⟩ := p0.two
      obtain ⟨r2, r3⟩ := p1.two
      clear hR p0 p1 h0 h1 h2 h3 h4 h5
      gi_wp2
      refine (unhide HR).mono ?_
      rintro e W8 (⟨rfl, hJ8, hk8⟩ | ⟨rfl, hJx8⟩)
      ·have B8 := hide (((unhide HB).trans (Keep.of_below ((unhide B9).mono (Nat.le_trans hn₀ hsz)))).trans hk8)
       have HJ8 := hide hJ8
       clear hJ8 hk8
       gi_wp2
       go_roundw
       case rel => exact ⟨i, j + 1, _, by omega, by omega, by go_num, by go_num, HT2, HJ8, B8⟩
       case measure => simp [intOf]; omega
      ·gi_wp2
       refine bodyPost_ret (results_none rfl _ _ _) rfl ?_
       exact ⟨⟨_, rfl⟩, .inr ⟨_, side_pre (unhide HT2), hJx8⟩⟩
    ·have hl2 := hl
     unfold lessS at hl2
     obtain ⟨ba, oa, rfl, hba, hca⟩ := (unhide RA).at hia
     obtain ⟨c0, c1⟩ := hca i hia
     have ea0 := ((unhide HB).cell (g := ba) (i := oa + i * 2) hba.1 hba.2).trans c0
     have ea1 := ((unhide HB).cell (g := ba) (i := oa + i * 2 + 1) hba.1 hba.2).trans c1
     have hi2 : (i : Int) < xa.length := by omega
     have hqa := hba.1
     clear c0 c1 hca
     obtain ⟨bb, ob, rfl, hbb, hcb⟩ := (unhide RB).at hjb
     obtain ⟨c0, c1⟩ := hcb j hjb
     have eb0 := ((unhide HB).cell (g := bb) (i := ob + j * 2) hbb.1 hbb.2).trans c0
     have eb1 := ((unhide HB).cell (g := bb) (i := ob + j * 2 + 1) hbb.1 hbb.2).trans c1
     have hj2 : (j : Int) < xb.length := by omega
     have hqb := hbb.1
     clear c0 c1 hcb
     have HT2 := hide (side_lo (unhide HT) hia hjb hl)
     have hlen := hide (side_lt (unhide HT2))
     generalize xa[i] = x at *
     generalize xb[j] = y at *
     obtain ⟨bx, bY, bl⟩ := twoBoxes wr
     have hsz := (unhide HB).size
     gi_wp2
     generalize (wr.alloc (.cells #[.string ⟨#[]⟩, .int .i64 0] 112)).alloc (.cells #[.string ⟨#[]⟩, .int .i64 0] 112) = W1 at *
     have f0 := (bl.cell (p := ⟨Ba, 0, none⟩) (by show Ba < _; omega)).trans dA
     have f1 := (bl.cell (p := ⟨Bb, 0, none⟩) (by show Bb < _; omega)).trans dB
     have f2 := (bl.cell (p := ⟨ba, oa + i * 2, none⟩) (by show ba < _; omega)).trans ea0
     have f3 := (bl.cell (p := ⟨ba, oa + i * 2 + 1, none⟩) (by show ba < _; omega)).trans ea1
     have f4 := (bl.cell (p := ⟨bb, ob + j * 2, none⟩) (by show bb < _; omega)).trans eb0
     have f5 := (bl.cell (p := ⟨bb, ob + j * 2 + 1, none⟩) (by show bb < _; omega)).trans eb1
     have BX := hide bx
     have BY := hide bY
     have BL := hide bl
     clear bx bY bl dA dB ea0 ea1 eb0 eb1
     refine wpIn_wide.2 ?_
     go_quiet (fail)
     gi_wp2
     have BXW2 := hide ((unhide BX).up (belowN W1 nq))
     have BYW2 := hide ((unhide BY).up (belowN W1 nq))
     have BLW2 := hide ((unhide BL).trans ((belowN W1 nq).mono (unhide BL).size))
     have g0 : (W1.drewN nq).cell? ⟨Ba, 0, none⟩ = _ := f0
     have g1 : (W1.drewN nq).cell? ⟨Bb, 0, none⟩ = _ := f1
     have g2 : (W1.drewN nq).cell? ⟨ba, oa + i * 2, none⟩ = _ := f2
     have g3 : (W1.drewN nq).cell? ⟨ba, oa + i * 2 + 1, none⟩ = _ := f3
     have g4 : (W1.drewN nq).cell? ⟨bb, ob + j * 2, none⟩ = _ := f4
     have g5 : (W1.drewN nq).cell? ⟨bb, ob + j * 2 + 1, none⟩ = _ := f5
     clear BX BY BL f0 f1 f2 f3 f4 f5
     generalize W1.drewN nq = W2 at *
     refine wpIn_wide.2 ?_
     have KP := hide (show ∀ X : World, Turn [wr.heap.size, wr.heap.size + 1] W2 X → (fun (X : World) => X.cell? ⟨Ba, 0, none⟩ = some (.slice (some ⟨ba, oa, none⟩) xa.length ca) ∧ X.cell? ⟨ba, oa + i * 2, none⟩ = some (.string x.a0) ∧ X.cell? ⟨ba, oa + i * 2 + 1, none⟩ = some (.int .i64 x.a1)) X from fun X t => ⟨(t.cell (lt_of_cell0 g0) (by simp; omega)).trans g0, (t.cell (lt_of_cell0 g2) (by simp; omega)).trans g2, (t.cell (lt_of_cell0 g3) (by simp; omega)).trans g3⟩)
     obtain ⟨x0, x1, x2, x3⟩ := (unhide BXW2).two
     obtain ⟨y0, y1, y2, y3⟩ := (unhide BYW2).two
     go_region_held3 (fun (X : World) => X.cell? ⟨Ba, 0, none⟩ = some (.slice (some ⟨ba, oa, none⟩) xa.length ca) ∧ X.cell? ⟨ba, oa + i * 2, none⟩ = some (.string x.a0) ∧ X.cell? ⟨ba, oa + i * 2 + 1, none⟩ = some (.int .i64 x.a1))
      ((refine unhide KP _ ?_; first | exact (Turn.refl _ _).dn 1 | exact (((Turn.refl _ _).dn 1).setCell (by simp) _ _).setCell (by simp) _ _ | exact (((((Turn.refl _ _).dn 1).setCell (by simp) _ _).setCell (by simp) _ _).setCell (by simp) _ _).setCell (by simp) _ _))
      (fail)
     obtain ⟨p0, p1, p2⟩ := filled (unhide BXW2) (unhide BYW2) (by omega) (.string x.a0) (.int .i64 x.a1) (.string x.a0) (.int .i64 0)
     have B9 := hide (stored_below (unhide BLW2) p2 (by simp))
     clear x0 x1 x2 x3 y0 y1 y2 y3 KP p2
     generalize ((((W2.setCell ⟨wr.heap.size, 0, none⟩ (.string x.a0)).setCell ⟨wr.heap.size, 1, none⟩ (.int .i64 x.a1)).setCell ⟨wr.heap.size + 1, 0, none⟩ (.string x.a0)).setCell ⟨wr.heap.size + 1, 1, none⟩ (.int .i64 0)).drew = W9 at *
     have HJ9 := hide (unhide HJ pre wr W9 (unhide HJp) (unhide B9))
     obtain ⟨fn, tmps, assign, body, hy, hR⟩ := unhide HY pre (x, ⟨x.a0, 0⟩) W9 (side_has (unhide HT2)) (unhide HJ9) (unhide hlen)
     dsimp only [encM] at hy
     have HR := hide hR
     obtain ⟨r0, r1⟩ := p0.two
     obtain ⟨r2, r3⟩ := p1.two
     clear hR p0 p1 g0 g1 g2 g3 g4 g5
     gi_wp2
     refine (unhide HR).mono ?_
     rintro e W8 (⟨rfl, hJ8, hk8⟩ | ⟨rfl, hJx8⟩)
     ·have B8 := hide (((unhide HB).trans (Keep.of_below ((unhide B9).mono (Nat.le_trans hn₀ hsz)))).trans hk8)
      have HJ8 := hide hJ8
      clear hJ8 hk8
      gi_wp2
      go_roundw
      case rel => exact ⟨i + 1, j, _, by omega, by omega, by go_num, by go_num, HT2, HJ8, B8⟩
      case measure => simp [intOf]; omega
     ·gi_wp2
      refine bodyPost_ret (results_none rfl _ _ _) rfl ?_
      exact ⟨⟨_, rfl⟩, .inr ⟨_, side_pre (unhide HT2), hJx8⟩⟩
   ·obtain rfl : j = xb.length := by omega
    obtain ⟨ba, oa, rfl, hba, hca⟩ := (unhide RA).at hia
    obtain ⟨c0, c1⟩ := hca i hia
    have ea0 := ((unhide HB).cell (g := ba) (i := oa + i * 2) hba.1 hba.2).trans c0
    have ea1 := ((unhide HB).cell (g := ba) (i := oa + i * 2 + 1) hba.1 hba.2).trans c1
    have hi2 : (i : Int) < xa.length := by omega
    have hqa := hba.1
    clear c0 c1 hca
    have HT2 := hide (side_a (unhide HT) hia)
    have hlen := hide (side_lt (unhide HT2))
    generalize xa[i] = x at *
    obtain ⟨bx, bY, bl⟩ := twoBoxes wr
    have hsz := (unhide HB).size
    gi_wp2
    generalize (wr.alloc (.cells #[.string ⟨#[]⟩, .int .i64 0] 112)).alloc (.cells #[.string ⟨#[]⟩, .int .i64 0] 112) = W1 at *
    have f0 := (bl.cell (p := ⟨Ba, 0, none⟩) (by show Ba < _; omega)).trans dA
    have f1 := (bl.cell (p := ⟨Bb, 0, none⟩) (by show Bb < _; omega)).trans dB
    have f2 := (bl.cell (p := ⟨ba, oa + i * 2, none⟩) (by show ba < _; omega)).trans ea0
    have f3 := (bl.cell (p := ⟨ba, oa + i * 2 + 1, none⟩) (by show ba < _; omega)).trans ea1
    have BX := hide bx
    have BY := hide bY
    have BL := hide bl
    clear bx bY bl dA dB ea0 ea1
    refine wpIn_wide.2 ?_
    go_quiet (fail)
    gi_wp2
    have BXW2 := hide ((unhide BX).up (belowN W1 nq))
    have BYW2 := hide ((unhide BY).up (belowN W1 nq))
    have BLW2 := hide ((unhide BL).trans ((belowN W1 nq).mono (unhide BL).size))
    have g0 : (W1.drewN nq).cell? ⟨Ba, 0, none⟩ = _ := f0
    have g1 : (W1.drewN nq).cell? ⟨Bb, 0, none⟩ = _ := f1
    have g2 : (W1.drewN nq).cell? ⟨ba, oa + i * 2, none⟩ = _ := f2
    have g3 : (W1.drewN nq).cell? ⟨ba, oa + i * 2 + 1, none⟩ = _ := f3
    clear BX BY BL f0 f1 f2 f3
    generalize W1.drewN nq = W2 at *
    refine wpIn_wide.2 ?_
    have KP := hide (show ∀ X : World, Turn [wr.heap.size, wr.heap.size + 1] W2 X → (fun (X : World) => X.cell? ⟨Ba, 0, none⟩ = some (.slice (some ⟨ba, oa, none⟩) xa.length ca) ∧ X.cell? ⟨ba, oa + i * 2, none⟩ = some (.string x.a0) ∧ X.cell? ⟨ba, oa + i * 2 + 1, none⟩ = some (.int .i64 x.a1)) X from fun X t => ⟨(t.cell (lt_of_cell0 g0) (by simp; omega)).trans g0, (t.cell (lt_of_cell0 g2) (by simp; omega)).trans g2, (t.cell (lt_of_cell0 g3) (by simp; omega)).trans g3⟩)
    obtain ⟨x0, x1, x2, x3⟩ := (unhide BXW2).two
    obtain ⟨y0, y1, y2, y3⟩ := (unhide BYW2).two
    go_region_held3 (fun (X : World) => X.cell? ⟨Ba, 0, none⟩ = some (.slice (some ⟨ba, oa, none⟩) xa.length ca) ∧ X.cell? ⟨ba, oa + i * 2, none⟩ = some (.string x.a0) ∧ X.cell? ⟨ba, oa + i * 2 + 1, none⟩ = some (.int .i64 x.a1))
     ((refine unhide KP _ ?_; first | exact (Turn.refl _ _).dn 1 | exact (((Turn.refl _ _).dn 1).setCell (by simp) _ _).setCell (by simp) _ _ | exact (((((Turn.refl _ _).dn 1).setCell (by simp) _ _).setCell (by simp) _ _).setCell (by simp) _ _).setCell (by simp) _ _))
     (fail)
    obtain ⟨p0, p1, p2⟩ := filled (unhide BXW2) (unhide BYW2) (by omega) (.string x.a0) (.int .i64 x.a1) (.string x.a0) (.int .i64 0)
    have B9 := hide (stored_below (unhide BLW2) p2 (by simp))
    clear x0 x1 x2 x3 y0 y1 y2 y3 KP p2
    generalize ((((W2.setCell ⟨wr.heap.size, 0, none⟩ (.string x.a0)).setCell ⟨wr.heap.size, 1, none⟩ (.int .i64 x.a1)).setCell ⟨wr.heap.size + 1, 0, none⟩ (.string x.a0)).setCell ⟨wr.heap.size + 1, 1, none⟩ (.int .i64 0)).drew = W9 at *
    have HJ9 := hide (unhide HJ pre wr W9 (unhide HJp) (unhide B9))
    obtain ⟨fn, tmps, assign, body, hy, hR⟩ := unhide HY pre (x, ⟨x.a0, 0⟩) W9 (side_has (unhide HT2)) (unhide HJ9) (unhide hlen)
    dsimp only [encM] at hy
    have HR := hide hR
    obtain ⟨r0, r1⟩ := p0.two
    obtain ⟨r2, r3⟩ := p1.two
    clear hR p0 p1 g0 g1 g2 g3
    gi_wp2
    refine (unhide HR).mono ?_
    rintro e W8 (⟨rfl, hJ8, hk8⟩ | ⟨rfl, hJx8⟩)
    ·have B8 := hide (((unhide HB).trans (Keep.of_below ((unhide B9).mono (Nat.le_trans hn₀ hsz)))).trans hk8)
     have HJ8 := hide hJ8
     clear hJ8 hk8
     gi_wp2
     go_roundw
     case rel => exact ⟨i + 1, xb.length, _, by omega, by omega, by go_num, by go_num, HT2, HJ8, B8⟩
     case measure => simp [intOf]; omega
    ·gi_wp2
     refine bodyPost_ret (results_none rfl _ _ _) rfl ?_
     exact ⟨⟨_, rfl⟩, .inr ⟨_, side_pre (unhide HT2), hJx8⟩⟩
  ·obtain rfl : i = xa.length := by omega
   by_cases hjb : j < xb.length
   ·have qj : ((j : Int) == (xb.length : Int)) = false := by rw [beq_eq_false_iff_ne]; omega
    obtain ⟨bb, ob, rfl, hbb, hcb⟩ := (unhide RB).at hjb
    obtain ⟨c0, c1⟩ := hcb j hjb
    have eb0 := ((unhide HB).cell (g := bb) (i := ob + j * 2) hbb.1 hbb.2).trans c0
    have eb1 := ((unhide HB).cell (g := bb) (i := ob + j * 2 + 1) hbb.1 hbb.2).trans c1
    have hj2 : (j : Int) < xb.length := by omega
    have hqb := hbb.1
    clear c0 c1 hcb
    have HT2 := hide (side_b (unhide HT) hjb)
    have hlen := hide (side_lt (unhide HT2))
    generalize xb[j] = y at *
    obtain ⟨bx, bY, bl⟩ := twoBoxes wr
    have hsz := (unhide HB).size
    gi_wp2
    generalize (wr.alloc (.cells #[.string ⟨#[]⟩, .int .i64 0] 112)).alloc (.cells #[.string ⟨#[]⟩, .int .i64 0] 112) = W1 at *
    have f0 := (bl.cell (p := ⟨Ba, 0, none⟩) (by show Ba < _; omega)).trans dA
    have f1 := (bl.cell (p := ⟨Bb, 0, none⟩) (by show Bb < _; omega)).trans dB
    have f2 := (bl.cell (p := ⟨bb, ob + j * 2, none⟩) (by show bb < _; omega)).trans eb0
    have f3 := (bl.cell (p := ⟨bb, ob + j * 2 + 1, none⟩) (by show bb < _; omega)).trans eb1
    have BX := hide bx
    have BY := hide bY
    have BL := hide bl
    clear bx bY bl dA dB eb0 eb1
    refine wpIn_wide.2 ?_
    go_quiet (fail)
    gi_wp2
    have BXW2 := hide ((unhide BX).up (belowN W1 nq))
    have BYW2 := hide ((unhide BY).up (belowN W1 nq))
    have BLW2 := hide ((unhide BL).trans ((belowN W1 nq).mono (unhide BL).size))
    have g0 : (W1.drewN nq).cell? ⟨Ba, 0, none⟩ = _ := f0
    have g1 : (W1.drewN nq).cell? ⟨Bb, 0, none⟩ = _ := f1
    have g2 : (W1.drewN nq).cell? ⟨bb, ob + j * 2, none⟩ = _ := f2
    have g3 : (W1.drewN nq).cell? ⟨bb, ob + j * 2 + 1, none⟩ = _ := f3
    clear BX BY BL f0 f1 f2 f3
    generalize W1.drewN nq = W2 at *
    refine wpIn_wide.2 ?_
    go_quiet (fail)
    gi_wp2
    have BXW3 := hide ((unhide BXW2).up (belowN W2 nq))
    have BYW3 := hide ((unhide BYW2).up (belowN W2 nq))
    have BLW3 := hide ((unhide BLW2).trans ((belowN W2 nq).mono (unhide BLW2).size))
    have h0 : (W2.drewN nq).cell? ⟨Ba, 0, none⟩ = _ := g0
    have h1 : (W2.drewN nq).cell? ⟨Bb, 0, none⟩ = _ := g1
    have h2 : (W2.drewN nq).cell? ⟨bb, ob + j * 2, none⟩ = _ := g2
    have h3 : (W2.drewN nq).cell? ⟨bb, ob + j * 2 + 1, none⟩ = _ := g3
    clear BXW2 BYW2 BLW2 g0 g1 g2 g3
    generalize W2.drewN nq = W3 at *
    refine wpIn_wide.2 ?_
    have KP := hide (show ∀ X : World, Turn [wr.heap.size, wr.heap.size + 1] W3 X → (fun (X : World) => X.cell? ⟨Bb, 0, none⟩ = some (.slice (some ⟨bb, ob, none⟩) xb.length cb) ∧ X.cell? ⟨bb, ob + j * 2, none⟩ = some (.string y.a0) ∧ X.cell? ⟨bb, ob + j * 2 + 1, none⟩ = some (.int .i64 y.a1)) X from fun X t => ⟨(t.cell (lt_of_cell0 h1) (by simp; omega)).trans h1, (t.cell (lt_of_cell0 h2) (by simp; omega)).trans h2, (t.cell (lt_of_cell0 h3) (by simp; omega)).trans h3⟩)
    obtain ⟨x0, x1, x2, x3⟩ := (unhide BXW3).two
    obtain ⟨y0, y1, y2, y3⟩ := (unhide BYW3).two
    go_region_held3 (fun (X : World) => X.cell? ⟨Bb, 0, none⟩ = some (.slice (some ⟨bb, ob, none⟩) xb.length cb) ∧ X.cell? ⟨bb, ob + j * 2, none⟩ = some (.string y.a0) ∧ X.cell? ⟨bb, ob + j * 2 + 1, none⟩ = some (.int .i64 y.a1))
     ((refine unhide KP _ ?_; first | exact (Turn.refl _ _).dn 1 | exact (((Turn.refl _ _).dn 1).setCell (by simp) _ _).setCell (by simp) _ _ | exact (((((Turn.refl _ _).dn 1).setCell (by simp) _ _).setCell (by simp) _ _).setCell (by simp) _ _).setCell (by simp) _ _))
     (fail)
    obtain ⟨p0, p1, p2⟩ := filled (unhide BXW3) (unhide BYW3) (by omega) (.string y.a0) (.int .i64 0) (.string y.a0) (.int .i64 y.a1)
    have B9 := hide (stored_below (unhide BLW3) p2 (by simp))
    clear x0 x1 x2 x3 y0 y1 y2 y3 KP p2
    generalize ((((W3.setCell ⟨wr.heap.size, 0, none⟩ (.string y.a0)).setCell ⟨wr.heap.size, 1, none⟩ (.int .i64 0)).setCell ⟨wr.heap.size + 1, 0, none⟩ (.string y.a0)).setCell ⟨wr.heap.size + 1, 1, none⟩ (.int .i64 y.a1)).drew = W9 at *
    have HJ9 := hide (unhide HJ pre wr W9 (unhide HJp) (unhide B9))
    obtain ⟨fn, tmps, assign, body, hy, hR⟩ := unhide HY pre (⟨y.a0, 0⟩, y) W9 (side_has (unhide HT2)) (unhide HJ9) (unhide hlen)
    dsimp only [encM] at hy
    have HR := hide hR
    obtain ⟨r0, r1⟩ := p0.two
    obtain ⟨r2, r3⟩ := p1.two
    clear hR p0 p1 h0 h1 h2 h3
    gi_wp2
    refine (unhide HR).mono ?_
    rintro e W8 (⟨rfl, hJ8, hk8⟩ | ⟨rfl, hJx8⟩)
    ·have B8 := hide (((unhide HB).trans (Keep.of_below ((unhide B9).mono (Nat.le_trans hn₀ hsz)))).trans hk8)
     have HJ8 := hide hJ8
     clear hJ8 hk8
     gi_wp2
     go_roundw
     case rel => exact ⟨xa.length, j + 1, _, by omega, by omega, by go_num, by go_num, HT2, HJ8, B8⟩
     case measure => simp [intOf]; omega
    ·gi_wp2
     refine bodyPost_ret (results_none rfl _ _ _) rfl ?_
     exact ⟨⟨_, rfl⟩, .inr ⟨_, side_pre (unhide HT2), hJx8⟩⟩
   ·obtain rfl : j = xb.length := by omega
    have he := side_end (unhide HT)
    have HE := hide he
    clear he
    gi_wp2
    go_end0
    exact ⟨⟨_, rfl⟩, .inl ⟨_, unhide HE, unhide HJp⟩⟩
end Go.Proofs.YtknkdbfgfcgkiaaGreatDoor
