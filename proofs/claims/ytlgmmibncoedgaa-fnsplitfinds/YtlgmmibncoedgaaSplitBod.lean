/-
  The iterator's contract.
-/
import Derived.Test.YtlgmmibncoedgaaMerged43
import Derived.Scope
import Derived.WalkMore
set_option linter.unusedVariables false
namespace Go.Proofs.Ytlgmmibncoedgaa
open Go.RowKit Go.Maps Go.Deep Go.Shelf

attribute [local go_sem] Oper.semAt_some

/-- a slice, as it is told -/
abbrev SlV := Option Addr × Nat × Nat
def toV (x : SlV) : Value := .slice x.1 x.2.1 x.2.2
def lenS (W : World) (Bg : Nat) : Nat := match W.cell? ⟨Bg, 0, none⟩ with
  | some (.slice _ n _) => n
  | _ => 0
theorem lenS_lis {W : World} {Bg : Nat} {a : Option Addr} {n c : Nat} {lost : Int} (h : Lis W Bg a n c lost) : lenS W Bg = n := by
  unfold lenS
  rw [h.cells.1]
/-- what who asks must keep: all bytes, what lay there, the listener and all boxes of its address, and what is no cells from N on -/
def KpS (n₀ Bg N : Nat) (A C : World) : Prop := KeepG n₀ A C ∧ (∀ (k : Nat) (t : TypeId) (cur : Array Value), (t = 109 ∨ t = 51) → A.heap[k]? = some (Obj.cells cur t) → C.heap[k]? = A.heap[k]?) ∧ C.heap[Bg]? = A.heap[Bg]? ∧ KeepsFrom N A C
/-- what is left behind all -/
def BodS (n₀ : Nat) (bs : List UInt8) (lost : Int) (Bl Bg B : Nat) (pre : List SlV) (W : World) : Prop :=
  BsIs B W (pre.map toV) (walkW bs).1 ∧ (∃ a n c, Lis W Bg a n c (lost + ((walkW bs).2.2 : Int)) ∧ ByU n₀ W (.slice a n c) (walkW bs).2.1) ∧ Boxed W Bl 109 (.pointer (some ⟨Bg, 0, none⟩))
theorem boxedU {W W' : World} {B : Nat} {t : TypeId} {v : Value} (h : Boxed W B t v) (hb : Below W.heap.size W W') : Boxed W' B t v := (hb.block _ h.lt).trans h
theorem boxedS {W : World} {B Bg i : Nat} {t : TypeId} {v u : Value} (h : Boxed W B t v) (hne : B ≠ Bg) : Boxed (W.setCell ⟨Bg, i, none⟩ u) B t v := (Below.heap_setCell W ⟨Bg, i, none⟩ u B (by simpa using hne)).trans h
/-- the iterator at work -/
def BRel (n₀ : Nat) (bs : List UInt8) (lost : Int) (Bl Bg B : Nat) (J : List SlV → World → Prop) (wr : World) : Prop := ∃ (pre : List SlV) (ns : List (List UInt8)) (p q : Nat) (a' : Option Addr) (c' : Nat), Hid (WTo bs p ns q) ∧ Hid (Lis wr Bg a' (bs.length - p) c' (lost + (q : Int))) ∧ Hid (Boxed wr Bl 109 (.pointer (some ⟨Bg, 0, none⟩))) ∧ Hid (ByU n₀ wr (.slice a' (bs.length - p) c') (bs.drop p)) ∧ Hid (BsIs B wr (pre.map toV) ns) ∧ Hid (J pre wr) ∧ Hid (B ≤ wr.heap.size)
theorem lis_size (w : World) (Bg i : Nat) (v : Value) : (w.setCell ⟨Bg, i, none⟩ v).heap.size = w.heap.size := by simp
/-- one byte is passed over -/
theorem BRel.miss {n₀ : Nat} {bs : List UInt8} {lost : Int} {Bl Bg B : Nat} {J : List SlV → World → Prop} {wr X : World} {pre : List SlV} {ns : List (List UInt8)} {p q : Nat} {a' : Option Addr} {c' : Nat} (hne : Bl ≠ Bg) (hn0 : n₀ ≤ Bg) (hJ : ∀ pre X Y, J pre X → Below X.heap.size X Y → J pre Y) (hJw : ∀ pre X i v, J pre X → J pre (X.setCell ⟨Bg, i, none⟩ v))
    (hp : 1 ≤ bs.length - p) (hw : WTo bs (p + 1) ns (q + 1)) (hL : Lis wr Bg a' (bs.length - p) c' (lost + (q : Int))) (hP : Boxed wr Bl 109 (.pointer (some ⟨Bg, 0, none⟩))) (hU : ByU n₀ wr (.slice a' (bs.length - p) c') (bs.drop p)) (hI : BsIs B wr (pre.map toV) ns) (hj : J pre wr) (hB : B ≤ wr.heap.size) (b : Below wr.heap.size wr X) :
    BRel n₀ bs lost Bl Bg B J ((X.setCell ⟨Bg, 0, none⟩ (.slice (if c' = 1 then a' else a'.map (fun x => x.add 1)) (bs.length - p - 1) (c' - 1))).setCell ⟨Bg, 1, none⟩ (.int .i64 (lost + (q : Int) + 1))) ∧ lenS ((X.setCell ⟨Bg, 0, none⟩ (.slice (if c' = 1 then a' else a'.map (fun x => x.add 1)) (bs.length - p - 1) (c' - 1))).setCell ⟨Bg, 1, none⟩ (.int .i64 (lost + (q : Int) + 1))) Bg < lenS wr Bg := by
  have l1 := (hL.up b).set0 (if c' = 1 then a' else a'.map (fun x => x.add 1)) (bs.length - p - 1) (c' - 1)
  have l2 := l1.set1 (lost + (q : Int) + 1)
  have ku := ((KeepG.below (n₀ := n₀) b (by have := hL.lt; omega)).trans ((hL.up b).keepG hn0 0 (.slice (if c' = 1 then a' else a'.map (fun x => x.add 1)) (bs.length - p - 1) (c' - 1)))).trans (l1.keepG hn0 1 (.int .i64 (lost + (q : Int) + 1)))
  have hd := hU.drop 1 (by rw [List.length_drop]; exact hp)
  rw [List.drop_drop] at hd
  rw [lenS_lis l2, lenS_lis hL]
  refine ⟨⟨pre, ns, p + 1, q + 1, (if c' = 1 then a' else a'.map (fun x => x.add 1)), c' - 1, hide hw, hide ?_, hide (boxedS (boxedS (boxedU hP b) hne) hne), hide ?_, hide (hI.keepU ku.1), hide (hJw _ _ _ _ (hJw _ _ _ _ (hJ _ _ _ hj b))), hide (Nat.le_trans hB ku.1.1)⟩, by omega⟩
  · rw [show lost + ((q + 1 : Nat) : Int) = lost + (q : Int) + 1 by omega, ← Nat.sub_sub]
    exact l2
  · rw [← Nat.sub_sub]
    exact hd.keepG ku
/-- a body was told, and who asks goes on -/
theorem BRel.hit {n₀ N : Nat} {bs : List UInt8} {lost : Int} {Bl Bg B : Nat} {J : List SlV → World → Prop} {wr X Y : World} {pre : List SlV} {ns : List (List UInt8)} {p q m : Nat} {a' : Option Addr} {c' : Nat} {x : SlV} {bd : List UInt8} (hne : Bl ≠ Bg) (hn0 : n₀ ≤ Bg)
    (hm : 1 ≤ m) (hm2 : m ≤ bs.length - p) (hw : WTo bs (p + m) (ns ++ [bd]) q) (hL : Lis wr Bg a' (bs.length - p) c' (lost + (q : Int))) (hP : Boxed wr Bl 109 (.pointer (some ⟨Bg, 0, none⟩))) (hU : ByU n₀ wr (.slice a' (bs.length - p) c') (bs.drop p)) (hI : BsIs B wr (pre.map toV) ns) (hB : B ≤ wr.heap.size) (b : Below wr.heap.size wr X) (hx : ByRow wr.heap.size X (toV x) bd)
    (hk : KpS n₀ Bg N (X.setCell ⟨Bg, 0, none⟩ (.slice (if c' = m then a' else a'.map (fun x => x.add m)) (bs.length - p - m) (c' - m))) Y) (hj : J (pre ++ [x]) Y) :
    BRel n₀ bs lost Bl Bg B J Y ∧ lenS Y Bg < lenS wr Bg := by
  have l1 := (hL.up b).set0 (if c' = m then a' else a'.map (fun x => x.add m)) (bs.length - p - m) (c' - m)
  have l2 : Lis Y Bg (if c' = m then a' else a'.map (fun x => x.add m)) (bs.length - p - m) (c' - m) (lost + (q : Int)) := hk.2.2.1.trans l1
  have ku1 := (hL.up b).keepG hn0 0 (.slice (if c' = m then a' else a'.map (fun x => x.add m)) (bs.length - p - m) (c' - m))
  have ku := ((KeepG.below (n₀ := n₀) b (by have := hL.lt; omega)).trans ku1).trans hk.1
  have hd := hU.drop m (by rw [List.length_drop]; exact hm2)
  rw [List.drop_drop] at hd
  rw [lenS_lis l2, lenS_lis hL]
  refine ⟨⟨pre ++ [x], ns ++ [bd], p + m, q, (if c' = m then a' else a'.map (fun x => x.add m)), c' - m, hide hw, hide ?_, hide ((hk.2.1 _ _ _ (.inl rfl) (boxedS (boxedU hP b) hne)).trans (boxedS (boxedU hP b) hne)), hide ?_, hide ?_, hide hj, hide (Nat.le_trans hB ku.1.1)⟩, by omega⟩
  · rw [← Nat.sub_sub]
    exact l2
  · rw [← Nat.sub_sub]
    exact hd.keepG ku
  · rw [List.map_append]
    exact hI.snoc ku.1 hB (hx.keepU (ku1.trans hk.1).1)
set_option maxRecDepth 100000 in
set_option maxHeartbeats 8000000 in
theorem bodies1_in (n₀ N n : Nat) (hn : 1 ≤ n) (l Bl Bg B : Nat) (hn0 : n₀ ≤ Bg) (bs : List UInt8) (hbs : bs.length ≤ 100000) (lost : Int) (hl0 : 0 ≤ lost) (hl1 : lost + (bs.length : Int) ≤ 9223372036854775807) (hne : Bl ≠ Bg)
    (J Jx : List SlV → World → Prop) (hJ : ∀ pre X Y, J pre X → Below X.heap.size X Y → J pre Y) (hJw : ∀ pre X i v, J pre X → J pre (X.setCell ⟨Bg, i, none⟩ v))
    (hY : ∀ pre (x : SlV) W, J pre W → pre.length < bs.length + 1 → YieldAt Fence.wide (n - 1) Try.prog l #[toV x] W fun e W' => (e = .returned (.bool true) ∧ J (pre ++ [x]) W' ∧ KpS n₀ Bg N W W') ∨ (e = .returned (.bool false) ∧ Jx (pre ++ [x]) W' ∧ KeepsFrom N W W'))
    (W : World) (a : Option Addr) (c : Nat) (hBW : B ≤ W.heap.size) (hL : Lis W Bg a bs.length c lost) (hP : Boxed W Bl 109 (.pointer (some ⟨Bg, 0, none⟩))) (hU : ByU n₀ W (.slice a bs.length c) bs) (hj0 : J [] W) :
    CallsIn Fence.wide n Try.prog 70 #[.func (.yield l) #[] #[], .pointer (some ⟨Bl, 0, none⟩)] W fun e W' => (∃ v, e = .returned v) ∧ ((∃ ys, BodS n₀ bs lost Bl Bg B ys W' ∧ J ys W') ∨ (∃ pre, True ∧ Jx pre W')) := by
  have HJ := hide hJ
  have HJW := hide hJw
  have HY := hide hY
  have HJ0 := hide hj0
  have HL0 := hide hL
  have HP0 := hide hP
  have HU0 := hide hU
  have HLL := hide hl1
  clear hJ hY hJw hj0 hL hP hU
  refine callsIn_of_wp Try.func70 rfl trivial ?_ rfl
  simp only [Try.ntmps70, List.size_toArray, List.length_cons, List.length_nil, Nat.reduceAdd, Nat.reduceSub, Array.replicate_succ, Array.replicate_zero, List.push_toArray, List.append_toArray, List.nil_append, List.cons_append]
  gi_wp2
  refine wpIn_wide.2 (wp_scope_straight ((wpIn_wide (n := n)).1 ?_))
  refine wpIn_seq (wpIn_label ?_)
  show Code.wpIn _ _ _ _ _ _ _
  gi_wp2
  gi_loopw [3, 4, 5] (fun _ _ _ wr => BRel n₀ bs lost Bl Bg B J wr)
    (fun _ _ _ wr => lenS wr Bg)
  case atStart => exact ⟨[], [], 0, 0, a, c, hide (WTo.zero bs), by simpa using HL0, HP0, by simpa using HU0, hide (BsIs.nil _ _), HJ0, hide hBW⟩
  case round =>
    obtain ⟨pre, ns, p, q, a', c', HW, HL, HP, HU, HI, HJs, HB⟩ := hrel
    have hcc : bs.length - p ≤ c' := by have := (by_len (unhide HU).rd).2; exact this
    have hw1 := (unhide HW).1
    have hw2 := (unhide HW).2.1
    have hll := unhide HLL
    have HLN := hide (lenS_lis (unhide HL))
    have HDL := hide (show (bs.drop p).length ≤ 1048576 by rw [List.length_drop]; omega)
    have HWT := hide (waits_any (bs.drop p) (.slice a' (bs.length - p) c') Bg wr (unhide HDL) (unhide HL).lt (unhide HL).cells.1 (unhide HU).rd)
    have cP := (unhide HP).cell
    cases hw : waitB (bs.drop p)
    · have hpos := wait_pos hw
      rw [List.length_drop] at hpos
      have HSZ := hide (fun (X : World) (b : Below wr.heap.size wr X) => implSz_any (.slice a' (bs.length - p) c') (bs.drop p) X (unhide HDL) ((unhide HU).rd.up b))
      have HLC := hide (fun (X : World) (b : Below wr.heap.size wr X) => And.intro (boxedU (unhide HP) b).cell ((unhide HL).up b).cells.1)
      rw [hw] at HWT
      by_cases hx : nextI (bs.drop p) = 1
      · obtain ⟨m, e1, e2, e3, e4⟩ := next_one hx
        rw [List.length_drop] at e3
        have HW2 := hide ((unhide HW).hit hw hx e1)
        have HFR := hide (fun (X : World) (b : Below wr.heap.size wr X) => implFRead_row ((bs.drop p).take m) (.slice a' m c') X (by have := unhide HDL; simp; omega) (by_take ((unhide HU).rd.up b) m (by rw [List.length_drop]; exact e3)))
        have HDR := hide (fun (X : World) (b : Below wr.heap.size wr X) => drop_any X Bg a' (bs.length - p) c' (lost + (q : Int)) m e3 hcc (by omega) ((unhide HL).up b))
        have HLEAF := hide (fun (X Y : World) (x : SlV) (b : Below wr.heap.size wr X) (hx : ByRow wr.heap.size X (toV x) (frameOut ((bs.drop p).take m))) (hk : KpS n₀ Bg N (X.setCell ⟨Bg, 0, none⟩ (.slice (if c' = m then a' else a'.map (fun x => x.add m)) (bs.length - p - m) (c' - m))) Y) (hj : J (pre ++ [x]) Y) => BRel.hit hne hn0 (by omega) e3 (unhide HW2) (unhide HL) (unhide HP) (unhide HU) (unhide HI) (unhide HB) b hx hk hj)
        have HJ3 := hide (fun (X : World) (b : Below wr.heap.size wr X) (i : Nat) (v : Value) => unhide HJW _ _ i v (unhide HJ _ _ X (unhide HJs) b))
        have HPL := hide (show pre.length < bs.length + 1 by have h1 := (unhide HI).len; simp at h1; omega)
        rw [e1] at HSZ
        rw [e4] at HFR
        have q1 : (m : Int) ≤ (c' : Int) := by omega
        have q2 : (0 : Int) < (m : Int) := by omega
        clear hw hx HW HL HP HU HI HJs HDL e1 e4 HW2
        gi_wp2_with fail
        refine ⟨trivial, ?_⟩
        refine (callsIn_wide.2 (unhide HWT)).mono ?_
        rintro e w1 ⟨rfl, b1⟩
        have B1 := hide b1
        obtain ⟨cP1, cL1⟩ := unhide HLC w1 b1
        clear b1 HWT cP
        gi_wp2_with fail
        refine ⟨trivial, ?_⟩
        refine (callsIn_wide.2 (unhide HSZ w1 (unhide B1))).mono ?_
        rintro e w2 ⟨rfl, b2⟩
        have B2 := hide ((unhide B1).trans (b2.mono (unhide B1).size))
        obtain ⟨cP2, cL2⟩ := unhide HLC w2 (unhide B2)
        clear b2 HSZ cP1 cL1 B1
        gi_wp2_with fail
        refine ⟨trivial, ?_⟩
        refine (callsIn_wide.2 (unhide HFR w2 (unhide B2))).mono ?_
        rintro e w3 ⟨v3, rfl, RX, b3⟩
        have B3 := hide ((unhide B2).trans (b3.mono (unhide B2).size))
        obtain ⟨cP3, cL3⟩ := unhide HLC w3 (unhide B3)
        have RX1 := hide ((unhide RX).mono (unhide B2).size)
        obtain ⟨xa, xn, xc, rfl⟩ := (unhide RX).rd.form
        clear b3 HFR cP2 cL2 RX
        gi_wp2_with fail
        refine ⟨trivial, ?_⟩
        refine (callsIn_wide.2 (unhide HDR w3 (unhide B3))).mono ?_
        rintro e w4 ⟨rfl, hw4⟩
        have J4 := hide (show J pre w4 from by rw [hw4]; exact unhide HJ3 w3 (unhide B3) _ _)
        have HLF := hide (fun (Y : World) (hk : KpS n₀ Bg N w4 Y) (hj : J (pre ++ [(xa, xn, xc)]) Y) => unhide HLEAF w3 Y (xa, xn, xc) (unhide B3) (unhide RX1) (by rw [← hw4]; exact hk) hj)
        obtain ⟨fn, tmps, assign, body, hy, hR⟩ := unhide HY pre (xa, xn, xc) w4 (unhide J4) (unhide HPL)
        have HR := hide hR
        dsimp only [toV] at hy
        clear hw4 HDR HLEAF HJ3 RX1 hR cP3 cL3
        gi_wp2_with fail
        refine (unhide HR).mono ?_
        rintro e W5 (⟨rfl, hJ5, hk5⟩ | ⟨rfl, hJx5, _⟩)
        · have HLF5 := hide (unhide HLF W5 hk5 hJ5)
          clear hJ5 hk5 hy HR HLF
          gi_wp2_with fail
          exact unhide HLF5
        · gi_wp2_with fail
          rw [Exit.noGoto_ret]
          refine bodyPost_ret (results_none rfl _ _ _) rfl ?_
          exact ⟨⟨_, rfl⟩, .inr ⟨_, trivial, hJx5⟩⟩
      · have HLEAF := hide (fun (X : World) (b : Below wr.heap.size wr X) => BRel.miss hne hn0 (unhide HJ) (unhide HJW) hpos ((unhide HW).miss hw hx) (unhide HL) (unhide HP) (unhide HU) (unhide HI) (unhide HJs) (unhide HB) b)
        have HPO := hide (fun (X : World) (b : Below wr.heap.size wr X) => passOver_any X Bg a' (bs.length - p) c' (lost + (q : Int)) hpos hcc (by omega) (by omega) (by omega) ((unhide HL).up b))
        by_cases hsz : 0 < frameSz (bs.drop p)
        · obtain ⟨m, hm⟩ : ∃ m : Nat, frameSz (bs.drop p) = (m : Int) := ⟨(frameSz (bs.drop p)).toNat, by omega⟩
          have hg : frameSz (bs.drop p) ≠ 0 ∧ ¬ ((bs.drop p).length : Int) < frameSz (bs.drop p) := by simpa [waitB] using hw
          have hmn : m ≤ bs.length - p := by rw [← List.length_drop]; omega
          have hfo : frameOk ((bs.drop p).take m) = false := by
            cases hf : frameOk ((bs.drop p).take m)
            · rfl
            · exfalso
              apply hx
              unfold nextI
              rw [if_neg (by omega), hw, hm, Int.toNat_natCast, hf]
              simp
          have HFR := hide (fun (X : World) (b : Below wr.heap.size wr X) => implFRead_row ((bs.drop p).take m) (.slice a' m c') X (by have := unhide HDL; simp; omega) (by_take ((unhide HU).rd.up b) m (by rw [List.length_drop]; exact hmn)))
          rw [hfo] at HFR
          rw [hm] at HSZ hsz
          have q1 : (m : Int) ≤ (c' : Int) := by omega
          clear hm hg hfo hw hx HW HL HP HU HI HJs HDL
          gi_wp2_with fail
          refine ⟨trivial, ?_⟩
          refine (callsIn_wide.2 (unhide HWT)).mono ?_
          rintro e w1 ⟨rfl, b1⟩
          have B1 := hide b1
          obtain ⟨cP1, cL1⟩ := unhide HLC w1 b1
          clear b1 HWT cP
          gi_wp2_with fail
          refine ⟨trivial, ?_⟩
          refine (callsIn_wide.2 (unhide HSZ w1 (unhide B1))).mono ?_
          rintro e w2 ⟨rfl, b2⟩
          have B2 := hide ((unhide B1).trans (b2.mono (unhide B1).size))
          obtain ⟨cP2, cL2⟩ := unhide HLC w2 (unhide B2)
          clear b2 HSZ cP1 cL1 B1
          gi_wp2_with fail
          refine ⟨trivial, ?_⟩
          refine (callsIn_wide.2 (unhide HFR w2 (unhide B2))).mono ?_
          rintro e w3 ⟨v3, rfl, RX, b3⟩
          have B3 := hide ((unhide B2).trans (b3.mono (unhide B2).size))
          obtain ⟨cP3, cL3⟩ := unhide HLC w3 (unhide B3)
          have RX1 := hide ((unhide RX).mono (unhide B2).size)
          obtain ⟨xa, xn, xc, rfl⟩ := (unhide RX).rd.form
          clear b3 HFR cP2 cL2 RX
          gi_wp2_with fail
          refine ⟨trivial, ?_⟩
          refine (callsIn_wide.2 (unhide HPO w3 (unhide B3))).mono ?_
          rintro e w4 ⟨rfl, hw4⟩
          have HLF := unhide HLEAF w3 (unhide B3)
          rw [← hw4] at HLF
          have HLF := hide HLF
          clear hw4 HPO HLEAF cP3 cL3
          gi_wp2_with fail
          exact unhide HLF
        · clear hw hx HW HL HP HU HI HJs HDL
          generalize frameSz (bs.drop p) = fz at *
          gi_wp2_with fail
          refine ⟨trivial, ?_⟩
          refine (callsIn_wide.2 (unhide HWT)).mono ?_
          rintro e w1 ⟨rfl, b1⟩
          have B1 := hide b1
          obtain ⟨cP1, cL1⟩ := unhide HLC w1 b1
          clear b1 HWT cP
          gi_wp2_with fail
          refine ⟨trivial, ?_⟩
          refine (callsIn_wide.2 (unhide HSZ w1 (unhide B1))).mono ?_
          rintro e w2 ⟨rfl, b2⟩
          have B2 := hide ((unhide B1).trans (b2.mono (unhide B1).size))
          obtain ⟨cP2, cL2⟩ := unhide HLC w2 (unhide B2)
          clear b2 HSZ cP1 cL1 B1
          gi_wp2_with fail
          refine ⟨trivial, ?_⟩
          refine (callsIn_wide.2 (unhide HPO w2 (unhide B2))).mono ?_
          rintro e w4 ⟨rfl, hw4⟩
          have HLF := unhide HLEAF w2 (unhide B2)
          rw [← hw4] at HLF
          have HLF := hide HLF
          clear hw4 HPO HLEAF cP2 cL2
          gi_wp2_with fail
          exact unhide HLF
    · have HD := hide ((unhide HW).done hw)
      rw [hw] at HWT
      clear hw
      gi_wp2_with fail
      refine ⟨trivial, ?_⟩
      refine (callsIn_wide.2 (unhide HWT)).mono ?_
      rintro e w1 ⟨rfl, b1⟩
      have HE := hide (show BodS n₀ bs lost Bl Bg B pre w1 ∧ J pre w1 from ⟨⟨by rw [unhide HD]; exact (unhide HI).keepU (KeepU.below b1), ⟨a', bs.length - p, c', by rw [unhide HD]; exact (unhide HL).up b1, by rw [unhide HD]; exact (unhide HU).keepG (KeepG.below b1 (by have := (unhide HL).lt; omega))⟩, boxedU (unhide HP) b1⟩, unhide HJ _ _ _ (unhide HJs) b1⟩)
      clear b1 cP HD
      gi_wp2
      rw [Exit.noGoto_normal]
      go_end0
      exact ⟨⟨_, rfl⟩, .inl ⟨pre, unhide HE⟩⟩
theorem abidesS {α : Type} {B : Nat} {J : List α → World → Prop} (h : OwnFrom B J) : ∀ pre X Y, J pre X → Below X.heap.size X Y → J pre Y :=
  fun pre X Y hx hb => h pre X Y none hx ⟨hb.os, hb.tape, hb.output, hb.size, fun k hk _ => hb.block k hk⟩ (fun r e => by cases e)
theorem bodies_stops (n₀ n : Nat) (hn : 1 ≤ n) (Bl Bg B : Nat) (hn0 : n₀ ≤ Bg) (bs : List UInt8) (hbs : bs.length ≤ 100000) (lost : Int) (hl0 : 0 ≤ lost) (hl1 : lost + (bs.length : Int) ≤ 9223372036854775807) (hne : Bl ≠ Bg) (w : World) (a : Option Addr) (c : Nat) (hBW : B ≤ w.heap.size) (hL : Lis w Bg a bs.length c lost) (hP : Boxed w Bl 109 (.pointer (some ⟨Bg, 0, none⟩))) (hU : ByU n₀ w (.slice a bs.length c) bs) :
    SeqWs Fence.wide n Try.prog 70 #[.pointer (some ⟨Bl, 0, none⟩)] (fun x : SlV => #[toV x]) (KpS n₀ Bg) (BodS n₀ bs lost Bl Bg B) (fun _ => True) (bs.length + 1) Bg w := fun l J Jx W hW hJ _ hJw hY h0 =>
  bodies1_in n₀ W.heap.size n hn l Bl Bg B hn0 bs hbs lost hl0 hl1 hne J Jx (abidesS hJ) hJw hY W a c (Nat.le_trans hBW hW.size) (hL.up hW) (boxedU hP hW) (hU.keepG (KeepG.below hW (by have := hL.lt; omega))) h0
end Go.Proofs.Ytlgmmibncoedgaa
