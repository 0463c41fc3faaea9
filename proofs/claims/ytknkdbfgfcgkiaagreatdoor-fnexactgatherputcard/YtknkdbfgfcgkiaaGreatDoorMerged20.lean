/-
  StampAgree of the program.
-/
/-
  StampAgree of the specification, and that both sides answer the same.
-/
import Derived.Test.YtknkdbfgfcgkiaaGreatDoorMerged18
import Derived.Laws.StructEq
import Derived.RangeFuncBox
import Derived.Test.YtknkdbfgfcgkiaaGreatDoorMerged16
set_option linter.unusedVariables false
namespace Go.Proofs.YtknkdbfgfcgkiaaGreatDoor
open Go.RowKit Go.Maps Go.Deep Go.Shelf

attribute [local go_sem] Oper.semAt_some

theorem cmpMark (x0 y0 : ByteArray) (x1 y1 : Int) (w : World) : (Op.equalIn 10000 112 (.agg #[.string x0, .int .i64 x1]) (.agg #[.string y0, .int .i64 y1])).run Tryz.prog w = .ok ((x0.toList == y0.toList) && (x1 == y1)) w := by
 rw [run_equalIn_struct w 9999 112 _ _ (by kernel_rfl) (by kernel_rfl)]
 have hf : (Tryz.prog.fieldsOf 112).toList.map (fun f => (f.name, f.type, f.offset)) = [("Src", 9, 0), ("Ver", 3, 1)] := by kernel_rfl
 have hp : ∀ (T : TypeId) (a b : Value) (k : Nat) (v : Value), (isAgg T).run Tryz.prog w = .ok false w → (#[a, b] : Array Value)[k]? = some v → (part T #[a, b] k).run Tryz.prog w = .ok v w := by
  intro T a b k v ha hv
  unfold part
  simp only [Sem.run_bind, ha, Result.andThen_ok, Bool.false_eq_true, if_false, hv, Sem.run_pure]
 have hs : (isAgg 9).run Tryz.prog w = .ok false w := by kernel_rfl
 have hi : (isAgg 3).run Tryz.prog w = .ok false w := by kernel_rfl
 generalize (Tryz.prog.fieldsOf 112).toList = fs at hf ⊢
 match fs, hf with
 | [], hf => simp at hf
 | [_], hf => simp at hf
 | _ :: _ :: _ :: _, hf => simp at hf
 | [f0, f1], hf =>
  simp only [List.map_cons, List.map_nil, List.cons.injEq, Prod.mk.injEq, and_true] at hf
  obtain ⟨⟨n0, t0, o0⟩, ⟨n1, t1, o1⟩⟩ := hf
  simp only [Op.eqFields, n0, n1, t0, t1, o0, o1]
  rw [if_pos (by decide), if_pos (by decide)]
  simp only [Sem.run_bind]
  rw [hp _ _ _ 0 (.string x0) hs rfl, Result.andThen_ok, hp _ _ _ 0 (.string y0) hs rfl, Result.andThen_ok, run_equalIn_string w 9998 9 x0 y0 Tryz.underlying9, Result.andThen_ok]
  cases (x0.toList == y0.toList)
  ·simp
  ·simp only [Bool.not_true, Bool.false_eq_true, if_false, Sem.run_bind]
   rw [hp _ _ _ 1 (.int .i64 x1) hi rfl, Result.andThen_ok, hp _ _ _ 1 (.int .i64 y1) hi rfl, Result.andThen_ok, run_equalIn_int w 9998 3 .i64 .i64 x1 y1 Tryz.underlying3, Result.andThen_ok]
   cases (x1 == y1) <;> simp

/-- a pair that does not agree -/
def badP (p : MarkV × MarkV) : Bool := decide (0 < p.1.a1) && decide (0 < p.2.a1) && !((p.1.a0.toList == p.2.a0.toList) && (p.1.a1 == p.2.a1))
def agreeS (xa xb : List MarkV) : Bool := (sideL xa xb).all fun p => !badP p
def agreeOut (xa xb : List MarkV) : Bool := mstampB xa && mstampB xb && agreeS xa xb
def NoBad (pre : List (MarkV × MarkV)) : Prop := ∀ y ∈ pre, badP y = false
theorem agree_yes {xa xb : List MarkV} (h : NoBad (sideL xa xb)) : agreeS xa xb = true := by
 unfold agreeS
 rw [List.all_eq_true]
 intro y hy
 simp [h y hy]
theorem agree_no {xa xb : List MarkV} {pre : List (MarkV × MarkV)} {last : MarkV × MarkV} (h : pre ++ [last] <+: sideL xa xb) (hb : badP last = true) : agreeS xa xb = false := by
 unfold agreeS
 rw [List.all_eq_false]
 obtain ⟨t, ht⟩ := h
 exact ⟨last, by rw [← ht]; simp, by simp [hb]⟩
set_option maxRecDepth 100000 in
set_option maxHeartbeats 4000000 in
theorem agree_yesyes (a b : Option Addr) (ca cb : Nat) (xa xb : List MarkV) (w : World) (hsa : SmallMarkS xa) (hsb : SmallMarkS xb) (oa : mstampB xa = true) (ob : mstampB xb = true) (hA : MarkIn w a xa) (hB : MarkIn w b xb) :
  CallsIn Fence.wide 3 Tryz.prog 140 #[.slice a xa.length ca, .slice b xb.length cb] w fun e w' => e = .returned (.bool (agreeS xa xb)) ∧ Below w.heap.size w w' := by
 have hla := mstamp_len oa
 have hlb := mstamp_len ob
 have HO1 := hide (fun W (bb : Below w.heap.size w W) => implStampOk_any xa (.slice a xa.length ca) W hsa ⟨a, ca, rfl, hA.below bb⟩)
 have HO2 := hide (fun W (bb : Below w.heap.size w W) => implStampOk_any xb (.slice b xb.length cb) W hsb ⟨b, cb, rfl, hB.below bb⟩)
 rw [oa] at HO1
 rw [ob] at HO2
 have bR := Boxed.new w 4 (.bool false)
 have bl := (Below.refl w.heap.size w).alloc (Nat.le_refl _) (.cells #[.bool false] 4)
 have hz : w.heap.size < (w.alloc (.cells #[.bool false] 4)).heap.size := by simp
 refine callsIn_of_wp_marks Tryz.func140 rfl trivial ?_ rfl
 simp only [Tryz.ntmps140, List.size_toArray, List.length_cons, List.length_nil, Nat.reduceAdd, Nat.reduceSub, Array.replicate_succ, Array.replicate_zero, List.push_toArray, List.append_toArray, List.nil_append, List.cons_append]
 gi_wp2_with fail
 refine ⟨trivial, ?_⟩
 refine (callsIn_wide.2 (unhide HO1 _ bl)).mono ?_
 rintro e w1 ⟨rfl, b1⟩
 have bR1 := boxed_up bR b1
 have bl1 := bl.trans (b1.mono (by simp))
 have hz1 := Nat.lt_of_lt_of_le hz b1.size
 clear b1 bR bl hz
 gi_wp2_with fail
 refine ⟨trivial, ?_⟩
 refine (callsIn_wide.2 (unhide HO2 _ bl1)).mono ?_
 rintro e w2 ⟨rfl, b2⟩
 have bR2 := boxed_up bR1 b2
 have bl2 := bl1.trans (b2.mono (by omega))
 have hz2 := Nat.lt_of_lt_of_le hz1 b2.size
 clear b2 bR1 bl1 hz1
 gi_wp2_with fail
 refine ⟨trivial, ?_⟩
 refine (side_in 2 _ _ _ _ _ _ w2).mono ?_
 rintro e W0 ⟨rfl, hW0⟩
 have bA := ((Boxed.new w2 34 (.slice a xa.length ca)).alloc (.cells #[.slice b xb.length cb] 34)).cell
 have bB := (Boxed.new (w2.alloc (.cells #[.slice a xa.length ca] 34)) 34 (.slice b xb.length cb)).cell
 rw [World.size_alloc] at bB
 rw [← hW0] at bA bB
 have hs0 : W0.heap.size = w2.heap.size + 2 := by rw [hW0]; simp
 have b0 : Below w2.heap.size w2 W0 := by rw [hW0]; exact ((Below.refl _ _).alloc (Nat.le_refl _) _).alloc (by simp) _
 have bR0 := boxed_up bR2 b0
 have bl0 := bl2.trans (b0.mono (by omega))
 clear hW0 b0 bR2
 gi_wp2_with fail
 refine wpIn_rangeFunc_ownH rfl (by omega) (gf := 131) (lb := #[.pointer (some ⟨w2.heap.size, 0, none⟩), .pointer (some ⟨w2.heap.size + 1, 0, none⟩)]) rfl trivial (enters_of Tryz.func131 (by kernel_rfl) rfl)
  (side_stops 2 (by omega) w2.heap.size (w2.heap.size + 1) (w2.heap.size + 2) a b ca cb xa xb hla hlb [] (by omega) (by omega) (by simp) (by simp) W0 (by omega) bA bB (markIn_low hA (by omega) (by simp) bl0) (markIn_low hB (by omega) (by simp) bl0)) keepK_t (keepK_b (by omega)) (Below.refl _ _) (fun _ => rfl)
  (fun pre W => (NoBad pre ∧ Boxed W w.heap.size 4 (.bool false)) ∧ Below w.heap.size w W ∧ w2.heap.size + 2 ≤ W.heap.size)
  (fun c pre W => (c = .ret ∧ ∃ ini last, pre = ini ++ [last] ∧ badP last = true ∧ W.cell? ⟨w.heap.size, 0, none⟩ = some (.bool false)) ∧ Below w.heap.size w W)
  (OwnFrom.and (OwnFrom.and (ownFrom_pure _ _) (Own.from (boxed_own _ _ _) _)) (OwnFrom.and (ownFrom_below (Nat.le_refl _) (by omega)) (ownFrom_size _ _)))
  (fun c => OwnFrom.and (Own.from (fun s A B row hs hg hr => by obtain ⟨hc, ini, last, e1, e2, e4⟩ := hs; exact ⟨hc, ini, last, e1, e2, cell_kept e4 hg hr⟩) _) (ownFrom_below (Nat.le_refl _) (by omega)))
  ⟨⟨by simp [NoBad], bR0⟩, bl0, by omega⟩
  (fun x a' W => ∃ Bx By, w.heap.size < Bx ∧ w.heap.size < By ∧ BoxM W Bx x.1 ∧ BoxM W By x.2 ∧ a' = { tmps := #[.slice a xa.length ca, .slice b xb.length cb, undef, undef, .pointer (some ⟨w.heap.size, 0, none⟩), .pointer (some ⟨Bx, 0, none⟩), .pointer (some ⟨By, 0, none⟩), .slice a xa.length ca, .bool true, .bool false, .bool false, .slice b xb.length cb, .bool true, .bool false, .bool false, .slice a xa.length ca, .slice b xb.length cb, .func (.func 131) #[] #[.pointer (some ⟨w2.heap.size, 0, none⟩), .pointer (some ⟨w2.heap.size + 1, 0, none⟩)], .agg #[.string x.1.a0, .int .i64 x.1.a1], .agg #[.string x.2.a0, .int .i64 x.2.a1], undef, undef, undef, undef, undef, undef, undef, undef, undef, undef, undef, undef, undef], defers := [] })
  (fun x a' _ X Y row hs hg hr => by obtain ⟨Bx, By, e1, e1', e2, e2', e3⟩ := hs; exact ⟨Bx, By, e1, e1', boxM_own Bx x.1 () X Y row e2 hg (fun r e => (hr r e).2), boxM_own By x.2 () X Y row e2' hg (fun r e => (hr r e).2), e3⟩)
  ?assign ?body ?done ?stop
 case assign =>
  rintro l pre x W K ⟨⟨hp, bR1⟩, hB1, hz0⟩ hK
  have hs1 := hB1.size
  have hlt := bR1.lt
  simp only [encM]
  gi_wp2
  exact hK _ _ (((KeepsOthers.alloc _ _).trans (KeepsOthers.alloc _ _)).from _) (((Keep.refl _ _ W).alloc (by omega) _).alloc (by simp; omega) _) ⟨⟨hp, (bR1.alloc _).alloc _⟩, (hB1.alloc (by omega) _).alloc (by simp; omega) _, by simp; omega⟩
   ⟨W.heap.size, W.heap.size + 1, by omega, by omega, (Below.heap_alloc _ _ _ (by simp)).trans (heap_alloc_new W _), by have := heap_alloc_new (W.alloc (.cells #[.string x.1.a0, .int .i64 x.1.a1] 112)) (.cells #[.string x.2.a0, .int .i64 x.2.a1] 112); rw [World.size_alloc] at this; exact this, rfl⟩
 case body =>
  rintro l pre x a' W hl ⟨r, hr⟩ ⟨⟨hp, bR1⟩, hB1, hz0⟩ ⟨Bx, By, hBx, hBy, bX, bY, rfl⟩ hlt
  have cR := bR1.cell
  have fR := bR1.frozen
  obtain ⟨x0, x1⟩ := boxM_cells bX
  obtain ⟨y0, y1⟩ := boxM_cells bY
  have hcmp := fun (X : World) => cmpMark x.1.a0 x.2.a0 x.1.a1 x.2.a1 X
  have hgd : Tryz.prog.eqGuardType Tryz.prog.depth 112 = false := by kernel_rfl
  have HP := hide hp
  have HX := hide (show badP x = true → _ from fun h => h)
  have HXN : Hid (badP x = false → NoBad (pre ++ [x])) := hide fun h p hp' => (List.mem_append.1 hp').elim (hp p) (fun e => by simp at e; subst e; exact h)
  clear hp HX
  cases hbad : badP x
  ·have HN := hide (unhide HXN hbad)
   clear HXN
   simp only [badP, Bool.and_eq_false_iff, decide_eq_false_iff_not, Bool.not_eq_false'] at hbad
   by_cases h1 : 0 < x.1.a1
   ·by_cases h2 : 0 < x.2.a1
    ·have h3 : ((x.1.a0.toList == x.2.a0.toList) && (x.1.a1 == x.2.a1)) = true := by
      rcases hbad with (h | h) | h
      ·exact absurd h1 h
      ·exact absurd h2 h
      ·exact h
     simp only [h3] at hcmp
     clear hbad h3
     gi_wp2
     exact ⟨KeepsFrom.refl _ _, Keep.refl _ _ _, ⟨unhide HN, bR1⟩, hB1, hz0⟩
    ·clear hbad hcmp
     gi_wp2
     exact ⟨KeepsFrom.refl _ _, Keep.refl _ _ _, ⟨unhide HN, bR1⟩, hB1, hz0⟩
   ·clear hbad hcmp
    gi_wp2
    exact ⟨KeepsFrom.refl _ _, Keep.refl _ _ _, ⟨unhide HN, bR1⟩, hB1, hz0⟩
  ·have HY := hide hbad
   simp only [badP, Bool.and_eq_true, decide_eq_true_eq, Bool.not_eq_true'] at hbad
   obtain ⟨⟨h1, h2⟩, h3⟩ := hbad
   simp only [h3] at hcmp
   clear h3 HXN
   gi_wp2
   exact ⟨(KeepsOthers.setCell _ _ _).from _, ⟨rfl, pre, x, rfl, unhide HY, World.cell?_setCell_same' _ _ _ (by rw [cR]; rfl)⟩, hB1.setCell (p := ⟨w.heap.size, 0, none⟩) (by simp) _⟩
 case done =>
  rintro D ys W hD rfl ⟨⟨hne, bR1⟩, hB1, _⟩ hK
  have HE := hide (agree_yes hne)
  have cR := bR1.cell
  have fR := bR1.frozen
  clear hne
  gi_wp2
  have hK' := (KeepsOthers.setCell W ⟨w.heap.size, 0, none⟩ (.bool true)).same D _ hK rfl
  refine ⟨by simp, .inl ⟨_, _, rfl, run_takeDeferred hK', ?_⟩⟩
  have hc5 := cell_kept (bR1.set (.bool true)).cell (grownBy_putObj' _ D (.deferred none)) (fun r e => by cases e; exact ⟨_, hK', rfl⟩)
  refine ⟨.bool true, ?_, by rw [unhide HE], (hB1.setCell (p := ⟨w.heap.size, 0, none⟩) (by simp) _).trans (belowK_b (w := w) (Nat.le_refl _) _ D _ _ (by omega) hK' rfl rfl)⟩
  simp [results, Tryz.f140, go_sem, hc5]
 case stop =>
  rintro D c pre W hD hpre ⟨⟨rfl, ini, last, rfl, e2, hcr⟩, hB⟩ hK
  gi_wp2
  refine ⟨by simp, .inl ⟨_, _, rfl, run_takeDeferred hK, ?_⟩⟩
  have hc5 := cell_kept hcr (grownBy_putObj' _ D (.deferred none)) (fun r e => by cases e; exact ⟨_, hK, rfl⟩)
  refine ⟨.bool false, ?_, by rw [agree_no hpre e2], hB.trans (belowK_b (w := w) (Nat.le_refl _) W D _ _ (by omega) hK rfl rfl)⟩
  simp [results, Tryz.f140, go_sem, hc5]
set_option maxHeartbeats 1600000 in
set_option maxRecDepth 20000 in
theorem implAgree_any (xa : List MarkV) (va : Value) (xb : List MarkV) (vb : Value) (w : World) (hsa : SmallMarkS xa) (hsb : SmallMarkS xb) (hA : MarkSRd w va xa) (hB : MarkSRd w vb xb) :
  Calls Tryz.prog 140 #[va, vb] w fun e w' => e = .returned (.bool (agreeOut xa xb)) ∧ Below w.heap.size w w' := by
 have HO1 := hide (fun W (bb : Below w.heap.size w W) => implStampOk_any xa va W hsa (hA.up bb))
 have HO2 := hide (fun W (bb : Below w.heap.size w W) => implStampOk_any xb vb W hsb (hB.up bb))
 obtain ⟨a, ca, rfl, hA⟩ := hA
 obtain ⟨b, cb, rfl, hB⟩ := hB
 unfold agreeOut
 cases oa : mstampB xa
 ·rw [oa] at HO1
  have bR := Boxed.new w 4 (.bool false)
  have bl := (Below.refl w.heap.size w).alloc (Nat.le_refl _) (.cells #[.bool false] 4)
  refine (callsIn_wide (n := 3)).1 ?_
  refine callsIn_of_wp_marks Tryz.func140 rfl trivial ?_ rfl
  simp only [Tryz.ntmps140, List.size_toArray, List.length_cons, List.length_nil, Nat.reduceAdd, Nat.reduceSub, Array.replicate_succ, Array.replicate_zero, List.push_toArray, List.append_toArray, List.nil_append, List.cons_append]
  gi_wp2_with fail
  refine ⟨trivial, ?_⟩
  refine (callsIn_wide.2 (unhide HO1 _ bl)).mono ?_
  rintro e w1 ⟨rfl, b1⟩
  have bR1 := boxed_up bR b1
  have bl1 := bl.trans (b1.mono (by simp))
  have cR := bR1.cell
  have fR := bR1.frozen
  clear b1 bR bl
  gi_wp2
  refine ⟨trivial, ?_⟩
  gi_wp2
  have hc5 := (bR1.set (.bool false)).cell
  refine ⟨.bool false, ?_, by simp, bl1.setCell (p := ⟨w.heap.size, 0, none⟩) (by simp) _⟩
  simp [results, Tryz.f140, go_sem, hc5]
 ·cases ob : mstampB xb
  ·rw [oa] at HO1
   rw [ob] at HO2
   have bR := Boxed.new w 4 (.bool false)
   have bl := (Below.refl w.heap.size w).alloc (Nat.le_refl _) (.cells #[.bool false] 4)
   refine (callsIn_wide (n := 3)).1 ?_
   refine callsIn_of_wp_marks Tryz.func140 rfl trivial ?_ rfl
   simp only [Tryz.ntmps140, List.size_toArray, List.length_cons, List.length_nil, Nat.reduceAdd, Nat.reduceSub, Array.replicate_succ, Array.replicate_zero, List.push_toArray, List.append_toArray, List.nil_append, List.cons_append]
   gi_wp2_with fail
   refine ⟨trivial, ?_⟩
   refine (callsIn_wide.2 (unhide HO1 _ bl)).mono ?_
   rintro e w1 ⟨rfl, b1⟩
   have bR1 := boxed_up bR b1
   have bl1 := bl.trans (b1.mono (by simp))
   clear b1 bR bl
   gi_wp2_with fail
   refine ⟨trivial, ?_⟩
   refine (callsIn_wide.2 (unhide HO2 _ bl1)).mono ?_
   rintro e w2 ⟨rfl, b2⟩
   have bR2 := boxed_up bR1 b2
   have bl2 := bl1.trans (b2.mono bl1.size)
   have cR := bR2.cell
   have fR := bR2.frozen
   clear b2 bR1 bl1
   gi_wp2
   have hc5 := (bR2.set (.bool false)).cell
   refine ⟨.bool false, ?_, by simp, bl2.setCell (p := ⟨w.heap.size, 0, none⟩) (by simp) _⟩
   simp [results, Tryz.f140, go_sem, hc5]
  ·refine (callsIn_wide (n := 3)).1 ((agree_yesyes a b ca cb xa xb w hsa hsb oa ob hA hB).mono ?_)
   rintro e w' ⟨rfl, hb⟩
   exact ⟨by simp, hb⟩
end Go.Proofs.YtknkdbfgfcgkiaaGreatDoor

set_option linter.unusedVariables false
namespace Go.Proofs.YtknkdbfgfcgkiaaGreatDoor
open Go.RowKit Go.Maps Go.Deep

/-- a mark that does not agree with a stamp -/
def offB (xb : List MarkV) (x : MarkV) : Bool := !(getV xb x.a0 == 0) && !(getV xb x.a0 == x.a1)
def agreeG (xa xb : List MarkV) : Bool := xa.all fun x => !offB xb x
theorem badP_pair (xa xb : List MarkV) (s : ByteArray) : badP (pairOf xa xb s) = (decide (0 < getV xa s) && decide (0 < getV xb s) && !(getV xa s == getV xb s)) := by
 show (decide (0 < getV xa s) && decide (0 < getV xb s) && !((s.toList == s.toList) && (getV xa s == getV xb s))) = _
 rw [BEq.rfl, Bool.true_and]
theorem agree_same {xa xb : List MarkV} (ha : mstampB xa = true) (hb : mstampB xb = true) : agreeG xa xb = agreeS xa xb := by
 have aa := asc_of_stamp ha
 have ab := asc_of_stamp hb
 have pa := pos_of_stamp ha
 have pb := pos_of_stamp hb
 rw [Bool.eq_iff_iff]
 unfold agreeG agreeS
 rw [List.all_eq_true, List.all_eq_true]
 constructor
 ·intro h p hp
  obtain ⟨s, hs, rfl⟩ := (side_mem xa xb aa ab p).1 hp
  rw [badP_pair]
  by_cases h1 : 0 < getV xa s
  ·by_cases h2 : 0 < getV xb s
   ·have hin : srcIn s xa := by
     by_cases e : srcIn s xa
     ·exact e
     ·rw [getV_not e] at h1; omega
    obtain ⟨x, hx, rfl⟩ := hin
    have := h x hx
    simp only [offB, Bool.not_and, Bool.not_not, Bool.or_eq_true, beq_iff_eq] at this
    have e : x.a1 = getV xb x.a0 := by
     rcases this with h | h
     ·omega
     ·exact h.symm
    have e' := (getV_mem aa hx).trans e
    simp [e']
   ·simp [h2]
  ·simp [h1]
 ·intro h x hx
  have hp := h _ ((side_mem xa xb aa ab (pairOf xa xb x.a0)).2 ⟨x.a0, .inl ⟨x, hx, rfl⟩, rfl⟩)
  have h1 := pa x hx
  rw [badP_pair] at hp
  simp only [getV_mem aa hx] at hp
  simp only [offB]
  by_cases h0 : srcIn x.a0 xb
  ·obtain ⟨y, hy, e⟩ := h0
   have h2 := pb y hy
   have hv : getV xb x.a0 = y.a1 := by rw [← e]; exact getV_mem ab hy
   simp only [hv] at hp ⊢
   have h3 : (0 : Int) < x.a1 := by omega
   have h4 : (0 : Int) < y.a1 := by omega
   simp only [h3, h4, decide_true, Bool.true_and, Bool.not_not, beq_iff_eq] at hp
   simp [hp]
  ·simp [getV_not h0]
theorem off_no {xa xb : List MarkV} {k : Nat} (hk : k < xa.length) (h : offB xb xa[k] = true) : agreeG xa xb = false := by
 unfold agreeG
 rw [List.all_eq_false]
 exact ⟨_, List.getElem_mem hk, by simp [h]⟩
theorem off_yes {xa xb : List MarkV} (h : ∀ j (hj : j < xa.length), offB xb xa[j] = false) : agreeG xa xb = true := by
 unfold agreeG
 rw [List.all_eq_true]
 intro x hx
 obtain ⟨j, hj, rfl⟩ := List.getElem_of_mem hx
 simp [h j hj]
set_option maxHeartbeats 1600000 in
theorem specAgree_row (w : World) (b off ca : Nat) (vb : Value) (xa xb : List MarkV) (hsa : SmallMarkS xa) (hsb : SmallMarkS xb) (oa : mstampB xa = true) (ob : mstampB xb = true) (hc : MarkAt w b off xa) (hb : b < w.heap.size) (hB : MarkSRd w vb xb) :
  Calls Tryz.prog 101 #[.slice (some ⟨b, off, none⟩) xa.length ca, vb] w fun e w' => e = .returned (.bool (agreeG xa xb)) ∧ Below w.heap.size w w' := by
 have HO1 := hide (fun W (bb : Below w.heap.size w W) => specStampOk_any xa (.slice (some ⟨b, off, none⟩) xa.length ca) W hsa ⟨_, ca, rfl, .inr ⟨b, off, rfl, Nat.lt_of_lt_of_le hb bb.size, hc.below bb hb⟩⟩)
 have HO2 := hide (fun W (bb : Below w.heap.size w W) => specStampOk_any xb vb W hsb (hB.up bb))
 have HG := hide (fun (s : ByteArray) W (bb : Below w.heap.size w W) => l13Get_any xb vb s W hsb (hB.up bb))
 have HC := hide hc
 have hl := mstamp_len oa
 obtain ⟨a2, n2, c2, rfl⟩ := hB.form
 rw [oa] at HO1
 rw [ob] at HO2
 clear hc hB hsa hsb oa ob
 go_enter Tryz.func101, Tryz.ntmps101
 go_wp2_with fail
 refine (unhide HO1 _ (Below.refl _ _)).mono ?_
 rintro e w1 ⟨rfl, b1⟩
 have B1 := hide b1
 clear b1
 go_wp2_with fail
 refine (unhide HO2 _ (unhide B1)).mono ?_
 rintro e w2 ⟨rfl, b2⟩
 have B2 := hide ((unhide B1).trans (b2.mono (unhide B1).size))
 clear b2
 go_wp2_with fail
 go_loopw [5] (fun i wr => ∃ k : Nat, k ≤ xa.length ∧ i = .int .i64 k ∧ Hid (∀ j (hj : j < xa.length), j < k → offB xb xa[j] = false) ∧ Hid (Below w.heap.size w wr)) (fun i _ => xa.length - (intOf i).toNat)
 case atStart => exact ⟨0, Nat.zero_le _, rfl, fun j _ hj => absurd hj (Nat.not_lt_zero _), B2⟩
 case round =>
  obtain ⟨k, hk, rfl, HN, HB⟩ := hrel
  by_cases hlt : k < xa.length
  ·obtain ⟨c0, c1⟩ := (unhide HC).below (unhide HB) hb k hlt
   have HNO := hide (fun h => off_no (xb := xb) hlt h)
   have HYES := hide (show offB xb xa[k] = false → ∀ j (hj : j < xa.length), j < k + 1 → offB xb xa[j] = false from fun h j hj hjk => by
    by_cases e : j = k
    ·subst e; exact h
    ·exact unhide HN j hj (by omega))
   have HG1 := hide (fun W bb => unhide HG xa[k].a0 W bb)
   obtain ⟨g, HGE⟩ : ∃ g, Hid (getV xb xa[k].a0 = g) := ⟨_, hide rfl⟩
   rw [unhide HGE] at HG1
   simp only [offB, unhide HGE] at HNO HYES
   clear HG HN
   generalize xa[k].a0 = nm at *
   generalize xa[k].a1 = vl at *
   clear HGE
   by_cases h1 : g = 0
   ·have HY := hide (unhide HYES (by simp [h1]))
    subst h1
    clear HYES HNO
    go_wp2_with fail
    refine (unhide HG1 _ (unhide HB)).mono ?_
    rintro e w3 ⟨rfl, hw⟩
    rw [hw]
    clear hw
    go_wp2_with fail
    go_roundw
    case rel => exact ⟨k + 1, by omega, by go_num, HY, HB⟩
    case measure => simp [intOf]; omega
   ·have q1 : (g == 0) = false := by simpa using h1
    have q1' : (g != 0) = true := by simpa using h1
    by_cases h2 : g = vl
    ·have HY := hide (unhide HYES (by simp [h2]))
     subst h2
     clear HYES HNO h1
     go_wp2_with fail
     refine (unhide HG1 _ (unhide HB)).mono ?_
     rintro e w3 ⟨rfl, hw⟩
     rw [hw]
     clear hw
     go_wp2_with fail
     go_roundw
     case rel => exact ⟨k + 1, by omega, by go_num, HY, HB⟩
     case measure => simp [intOf]; omega
    ·have q2 : (g == vl) = false := by simpa using h2
     have q2' : (g != vl) = true := by simpa using h2
     have HE := hide (unhide HNO (by simp [q1, q2]))
     clear HYES HNO h1 h2
     go_wp2_with fail
     refine (unhide HG1 _ (unhide HB)).mono ?_
     rintro e w3 ⟨rfl, hw⟩
     rw [hw]
     clear hw
     go_wp2_with fail
     go_ret
     exact ⟨ret_bool (unhide HE).symm, unhide HB⟩
  ·have HE := hide (off_yes (xb := xb) (fun j hj => unhide HN j hj (by omega)))
   go_wp2_with fail
   go_ret
   exact ⟨ret_bool (unhide HE).symm, unhide HB⟩
set_option maxHeartbeats 1600000 in
theorem specAgree_any (xa : List MarkV) (va : Value) (xb : List MarkV) (vb : Value) (w : World) (hsa : SmallMarkS xa) (hsb : SmallMarkS xb) (hA : MarkSRd w va xa) (hB : MarkSRd w vb xb) :
  Calls Tryz.prog 101 #[va, vb] w fun e w' => e = .returned (.bool (agreeOut xa xb)) ∧ Below w.heap.size w w' := by
 have HO1 := hide (fun W (bb : Below w.heap.size w W) => specStampOk_any xa va W hsa (hA.up bb))
 have HO2 := hide (fun W (bb : Below w.heap.size w W) => specStampOk_any xb vb W hsb (hB.up bb))
 obtain ⟨a2, n2, c2, e2⟩ := hB.form
 obtain ⟨a, ca, rfl, hA⟩ := hA
 unfold agreeOut
 cases oa : mstampB xa
 ·rw [oa] at HO1
  subst e2
  clear hA hB hsa hsb oa
  generalize xa.length = n at *
  go_enter Tryz.func101, Tryz.ntmps101
  go_wp2_with fail
  refine (unhide HO1 _ (Below.refl _ _)).mono ?_
  rintro e w1 ⟨rfl, b1⟩
  have B1 := hide b1
  clear b1
  go_wp2_with fail
  go_ret
  exact ⟨ret_bool (by simp), unhide B1⟩
 ·cases ob : mstampB xb
  ·rw [oa] at HO1
   rw [ob] at HO2
   subst e2
   clear hA hB hsa hsb oa ob
   generalize xa.length = n at *
   go_enter Tryz.func101, Tryz.ntmps101
   go_wp2_with fail
   refine (unhide HO1 _ (Below.refl _ _)).mono ?_
   rintro e w1 ⟨rfl, b1⟩
   have B1 := hide b1
   clear b1
   go_wp2_with fail
   refine (unhide HO2 _ (unhide B1)).mono ?_
   rintro e w2 ⟨rfl, b2⟩
   have B2 := hide ((unhide B1).trans (b2.mono (unhide B1).size))
   clear b2
   go_wp2_with fail
   go_ret
   exact ⟨ret_bool (by simp), unhide B2⟩
  ·rw [← agree_same oa ob]
   rcases hA with rfl | ⟨b, off, rfl, hb, hc⟩
   ·rw [oa] at HO1
    rw [ob] at HO2
    subst e2
    clear hB hsa hsb oa ob
    go_enter Tryz.func101, Tryz.ntmps101
    go_wp2_with fail
    refine (unhide HO1 _ (Below.refl _ _)).mono ?_
    rintro e w1 ⟨rfl, b1⟩
    have B1 := hide b1
    clear b1
    go_wp2_with fail
    refine (unhide HO2 _ (unhide B1)).mono ?_
    rintro e w2 ⟨rfl, b2⟩
    have B2 := hide ((unhide B1).trans (b2.mono (unhide B1).size))
    clear b2
    go_wp2_with fail
    refine wp_loop_rounds 1 ?_
    rw [rounds_succ]
    go_wp2_with fail
    go_ret
    exact ⟨ret_bool (by simp [agreeG]), unhide B2⟩
   ·refine (specAgree_row w b off ca vb xa xb hsa hsb oa ob hc hb hB).mono ?_
    rintro e w' ⟨rfl, hb⟩
    exact ⟨by simp, hb⟩
end Go.Proofs.YtknkdbfgfcgkiaaGreatDoor
