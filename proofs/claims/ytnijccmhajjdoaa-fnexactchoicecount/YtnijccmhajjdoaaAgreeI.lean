/-
  StampAgree of the program.
-/
import Derived.Test.YtnijccmhajjdoaaSideUse
import Derived.Laws.StructEq
import Derived.RangeFuncBox
set_option linter.unusedVariables false
namespace Go.Proofs.Ytnijccmhajjdoaa
open Go.RowKit Go.Maps Go.Deep Go.Shelf

attribute [local go_sem] Oper.semAt_some

theorem cmpMark (x0 y0 : ByteArray) (x1 y1 : Int) (w : World) : (Op.equalIn 10000 55 (.agg #[.string x0, .int .i64 x1]) (.agg #[.string y0, .int .i64 y1])).run Try.prog w = .ok ((x0.toList == y0.toList) && (x1 == y1)) w := by
  rw [run_equalIn_struct w 9999 55 _ _ (by kernel_rfl) (by kernel_rfl)]
  have hf : (Try.prog.fieldsOf 55).toList.map (fun f => (f.name, f.type, f.offset)) = [("Src", 9, 0), ("Ver", 3, 1)] := by kernel_rfl
  have hp : ∀ (T : TypeId) (a b : Value) (k : Nat) (v : Value), (isAgg T).run Try.prog w = .ok false w → (#[a, b] : Array Value)[k]? = some v → (part T #[a, b] k).run Try.prog w = .ok v w := by
    intro T a b k v ha hv
    unfold part
    simp only [Sem.run_bind, ha, Result.andThen_ok, Bool.false_eq_true, if_false, hv, Sem.run_pure]
  have hs : (isAgg 9).run Try.prog w = .ok false w := by kernel_rfl
  have hi : (isAgg 3).run Try.prog w = .ok false w := by kernel_rfl
  generalize (Try.prog.fieldsOf 55).toList = fs at hf ⊢
  match fs, hf with
  | [], hf => simp at hf
  | [_], hf => simp at hf
  | _ :: _ :: _ :: _, hf => simp at hf
  | [f0, f1], hf =>
    simp only [List.map_cons, List.map_nil, List.cons.injEq, Prod.mk.injEq, and_true] at hf
    obtain ⟨⟨n0, t0, o0⟩, ⟨n1, t1, o1⟩⟩ := hf
    simp only [Op.eqFields, n0, n1, t0, t1, o0, o1]
    rw [if_pos (by decide), if_pos (by decide)]
    simp only [Sem.run_bind]
    rw [hp _ _ _ 0 (.string x0) hs rfl, Result.andThen_ok, hp _ _ _ 0 (.string y0) hs rfl, Result.andThen_ok, run_equalIn_string w 9998 9 x0 y0 Try.underlying9, Result.andThen_ok]
    cases (x0.toList == y0.toList)
    · simp
    · simp only [Bool.not_true, Bool.false_eq_true, if_false, Sem.run_bind]
      rw [hp _ _ _ 1 (.int .i64 x1) hi rfl, Result.andThen_ok, hp _ _ _ 1 (.int .i64 y1) hi rfl, Result.andThen_ok, run_equalIn_int w 9998 3 .i64 .i64 x1 y1 Try.underlying3, Result.andThen_ok]
      cases (x1 == y1) <;> simp

/-- a pair that does not agree -/
def badP (p : MarkV × MarkV) : Bool := decide (0 < p.1.a1) && decide (0 < p.2.a1) && !((p.1.a0.toList == p.2.a0.toList) && (p.1.a1 == p.2.a1))
def agreeS (xa xb : List MarkV) : Bool := (sideL xa xb).all fun p => !badP p
def agreeOut (xa xb : List MarkV) : Bool := mstampB xa && mstampB xb && agreeS xa xb
def NoBad (pre : List (MarkV × MarkV)) : Prop := ∀ y ∈ pre, badP y = false
theorem agree_yes {xa xb : List MarkV} (h : NoBad (sideL xa xb)) : agreeS xa xb = true := by
  unfold agreeS
  rw [List.all_eq_true]
  intro y hy
  simp [h y hy]
theorem agree_no {xa xb : List MarkV} {pre : List (MarkV × MarkV)} {last : MarkV × MarkV} (h : pre ++ [last] <+: sideL xa xb) (hb : badP last = true) : agreeS xa xb = false := by
  unfold agreeS
  rw [List.all_eq_false]
  obtain ⟨t, ht⟩ := h
  exact ⟨last, by rw [← ht]; simp, by simp [hb]⟩
set_option maxRecDepth 100000 in
set_option maxHeartbeats 4000000 in
theorem agree_yesyes (a b : Option Addr) (ca cb : Nat) (xa xb : List MarkV) (w : World) (hsa : SmallMarkS xa) (hsb : SmallMarkS xb) (oa : mstampB xa = true) (ob : mstampB xb = true) (hA : MarkIn w a xa) (hB : MarkIn w b xb) :
    CallsIn Fence.wide 3 Try.prog 52 #[.slice a xa.length ca, .slice b xb.length cb] w fun e w' => e = .returned (.bool (agreeS xa xb)) ∧ Below w.heap.size w w' := by
  have hla := mstamp_len oa
  have hlb := mstamp_len ob
  have HO1 := hide (fun W (bb : Below w.heap.size w W) => implStampOk_any xa (.slice a xa.length ca) W hsa ⟨a, ca, rfl, hA.below bb⟩)
  have HO2 := hide (fun W (bb : Below w.heap.size w W) => implStampOk_any xb (.slice b xb.length cb) W hsb ⟨b, cb, rfl, hB.below bb⟩)
  rw [oa] at HO1
  rw [ob] at HO2
  have bR := Boxed.new w 4 (.bool false)
  have bl := (Below.refl w.heap.size w).alloc (Nat.le_refl _) (.cells #[.bool false] 4)
  have hz : w.heap.size < (w.alloc (.cells #[.bool false] 4)).heap.size := by simp
  refine callsIn_of_wp_marks Try.func52 rfl trivial ?_ rfl
  simp only [Try.ntmps52, List.size_toArray, List.length_cons, List.length_nil, Nat.reduceAdd, Nat.reduceSub, Array.replicate_succ, Array.replicate_zero, List.push_toArray, List.append_toArray, List.nil_append, List.cons_append]
  gi_wp2_with fail
  refine ⟨trivial, ?_⟩
  refine (callsIn_wide.2 (unhide HO1 _ bl)).mono ?_
  rintro e w1 ⟨rfl, b1⟩
  have bR1 := boxed_up bR b1
  have bl1 := bl.trans (b1.mono (by simp))
  have hz1 := Nat.lt_of_lt_of_le hz b1.size
  clear b1 bR bl hz
  gi_wp2_with fail
  refine ⟨trivial, ?_⟩
  refine (callsIn_wide.2 (unhide HO2 _ bl1)).mono ?_
  rintro e w2 ⟨rfl, b2⟩
  have bR2 := boxed_up bR1 b2
  have bl2 := bl1.trans (b2.mono (by omega))
  have hz2 := Nat.lt_of_lt_of_le hz1 b2.size
  clear b2 bR1 bl1 hz1
  gi_wp2_with fail
  refine ⟨trivial, ?_⟩
  refine (side_in 2 _ _ _ _ _ _ w2).mono ?_
  rintro e W0 ⟨rfl, hW0⟩
  have bA := ((Boxed.new w2 30 (.slice a xa.length ca)).alloc (.cells #[.slice b xb.length cb] 30)).cell
  have bB := (Boxed.new (w2.alloc (.cells #[.slice a xa.length ca] 30)) 30 (.slice b xb.length cb)).cell
  rw [World.size_alloc] at bB
  rw [← hW0] at bA bB
  have hs0 : W0.heap.size = w2.heap.size + 2 := by rw [hW0]; simp
  have b0 : Below w2.heap.size w2 W0 := by rw [hW0]; exact ((Below.refl _ _).alloc (Nat.le_refl _) _).alloc (by simp) _
  have bR0 := boxed_up bR2 b0
  have bl0 := bl2.trans (b0.mono (by omega))
  clear hW0 b0 bR2
  gi_wp2_with fail
  refine wpIn_rangeFunc_ownH rfl (by omega) (gf := 55) (lb := #[.pointer (some ⟨w2.heap.size, 0, none⟩), .pointer (some ⟨w2.heap.size + 1, 0, none⟩)]) rfl trivial (enters_of Try.func55 (by kernel_rfl) rfl)
    (side_stops 2 (by omega) w2.heap.size (w2.heap.size + 1) (w2.heap.size + 2) a b ca cb xa xb hla hlb [] (by omega) (by omega) (by simp) (by simp) W0 (by omega) bA bB (markIn_low hA (by omega) (by simp) bl0) (markIn_low hB (by omega) (by simp) bl0)) keepK_t (keepK_b (by omega)) (Below.refl _ _) (fun _ => rfl)
    (fun pre W => (NoBad pre ∧ Boxed W w.heap.size 4 (.bool false)) ∧ Below w.heap.size w W ∧ w2.heap.size + 2 ≤ W.heap.size)
    (fun c pre W => (c = .ret ∧ ∃ ini last, pre = ini ++ [last] ∧ badP last = true ∧ W.cell? ⟨w.heap.size, 0, none⟩ = some (.bool false)) ∧ Below w.heap.size w W)
    (OwnFrom.and (OwnFrom.and (ownFrom_pure _ _) (Own.from (boxed_own _ _ _) _)) (OwnFrom.and (ownFrom_below (Nat.le_refl _) (by omega)) (ownFrom_size _ _)))
    (fun c => OwnFrom.and (Own.from (fun s A B row hs hg hr => by obtain ⟨hc, ini, last, e1, e2, e4⟩ := hs; exact ⟨hc, ini, last, e1, e2, cell_kept e4 hg hr⟩) _) (ownFrom_below (Nat.le_refl _) (by omega)))
    ⟨⟨by simp [NoBad], bR0⟩, bl0, by omega⟩
    (fun x a' W => ∃ Bx By, w.heap.size < Bx ∧ w.heap.size < By ∧ BoxM W Bx x.1 ∧ BoxM W By x.2 ∧ a' = { tmps := #[.slice a xa.length ca, .slice b xb.length cb, undef, undef, .pointer (some ⟨w.heap.size, 0, none⟩), .pointer (some ⟨Bx, 0, none⟩), .pointer (some ⟨By, 0, none⟩), .slice a xa.length ca, .bool true, .bool false, .bool false, .slice b xb.length cb, .bool true, .bool false, .bool false, .slice a xa.length ca, .slice b xb.length cb, .func (.func 55) #[] #[.pointer (some ⟨w2.heap.size, 0, none⟩), .pointer (some ⟨w2.heap.size + 1, 0, none⟩)], .agg #[.string x.1.a0, .int .i64 x.1.a1], .agg #[.string x.2.a0, .int .i64 x.2.a1], undef, undef, undef, undef, undef, undef, undef, undef, undef, undef, undef, undef, undef], defers := [] })
    (fun x a' _ X Y row hs hg hr => by obtain ⟨Bx, By, e1, e1', e2, e2', e3⟩ := hs; exact ⟨Bx, By, e1, e1', boxM_own Bx x.1 () X Y row e2 hg (fun r e => (hr r e).2), boxM_own By x.2 () X Y row e2' hg (fun r e => (hr r e).2), e3⟩)
    ?assign ?body ?done ?stop
  case assign =>
    rintro l pre x W K ⟨⟨hp, bR1⟩, hB1, hz0⟩ hK
    have hs1 := hB1.size
    have hlt := bR1.lt
    simp only [encM]
    gi_wp2
    exact hK _ _ (((KeepsOthers.alloc _ _).trans (KeepsOthers.alloc _ _)).from _) (((Keep.refl _ _ W).alloc (by omega) _).alloc (by simp; omega) _) ⟨⟨hp, (bR1.alloc _).alloc _⟩, (hB1.alloc (by omega) _).alloc (by simp; omega) _, by simp; omega⟩
      ⟨W.heap.size, W.heap.size + 1, by omega, by omega, (Below.heap_alloc _ _ _ (by simp)).trans (heap_alloc_new W _), by have := heap_alloc_new (W.alloc (.cells #[.string x.1.a0, .int .i64 x.1.a1] 55)) (.cells #[.string x.2.a0, .int .i64 x.2.a1] 55); rw [World.size_alloc] at this; exact this, rfl⟩
  case body =>
    rintro l pre x a' W hl ⟨r, hr⟩ ⟨⟨hp, bR1⟩, hB1, hz0⟩ ⟨Bx, By, hBx, hBy, bX, bY, rfl⟩ hlt
    have cR := bR1.cell
    have fR := bR1.frozen
    obtain ⟨x0, x1⟩ := boxM_cells bX
    obtain ⟨y0, y1⟩ := boxM_cells bY
    have hcmp := fun (X : World) => cmpMark x.1.a0 x.2.a0 x.1.a1 x.2.a1 X
    have hgd : Try.prog.eqGuardType Try.prog.depth 55 = false := by kernel_rfl
    have HP := hide hp
    have HX := hide (show badP x = true → _ from fun h => h)
    have HXN : Hid (badP x = false → NoBad (pre ++ [x])) := hide fun h p hp' => (List.mem_append.1 hp').elim (hp p) (fun e => by simp at e; subst e; exact h)
    clear hp HX
    cases hbad : badP x
    · have HN := hide (unhide HXN hbad)
      clear HXN
      simp only [badP, Bool.and_eq_false_iff, decide_eq_false_iff_not, Bool.not_eq_false'] at hbad
      by_cases h1 : 0 < x.1.a1
      · by_cases h2 : 0 < x.2.a1
        · have h3 : ((x.1.a0.toList == x.2.a0.toList) && (x.1.a1 == x.2.a1)) = true := by
            rcases hbad with (h | h) | h
            · exact absurd h1 h
            · exact absurd h2 h
            · exact h
          simp only [h3] at hcmp
          clear hbad h3
          gi_wp2
          exact ⟨KeepsFrom.refl _ _, Keep.refl _ _ _, ⟨unhide HN, bR1⟩, hB1, hz0⟩
        · clear hbad hcmp
          gi_wp2
          exact ⟨KeepsFrom.refl _ _, Keep.refl _ _ _, ⟨unhide HN, bR1⟩, hB1, hz0⟩
      · clear hbad hcmp
        gi_wp2
        exact ⟨KeepsFrom.refl _ _, Keep.refl _ _ _, ⟨unhide HN, bR1⟩, hB1, hz0⟩
    · have HY := hide hbad
      simp only [badP, Bool.and_eq_true, decide_eq_true_eq, Bool.not_eq_true'] at hbad
      obtain ⟨⟨h1, h2⟩, h3⟩ := hbad
      simp only [h3] at hcmp
      clear h3 HXN
      gi_wp2
      exact ⟨(KeepsOthers.setCell _ _ _).from _, ⟨rfl, pre, x, rfl, unhide HY, World.cell?_setCell_same' _ _ _ (by rw [cR]; rfl)⟩, hB1.setCell (p := ⟨w.heap.size, 0, none⟩) (by simp) _⟩
  case done =>
    rintro D ys W hD rfl ⟨⟨hne, bR1⟩, hB1, _⟩ hK
    have HE := hide (agree_yes hne)
    have cR := bR1.cell
    have fR := bR1.frozen
    clear hne
    gi_wp2
    have hK' := (KeepsOthers.setCell W ⟨w.heap.size, 0, none⟩ (.bool true)).same D _ hK rfl
    refine ⟨by simp, .inl ⟨_, _, rfl, run_takeDeferred hK', ?_⟩⟩
    have hc5 := cell_kept (bR1.set (.bool true)).cell (grownBy_putObj' _ D (.deferred none)) (fun r e => by cases e; exact ⟨_, hK', rfl⟩)
    refine ⟨.bool true, ?_, by rw [unhide HE], (hB1.setCell (p := ⟨w.heap.size, 0, none⟩) (by simp) _).trans (belowK_b (w := w) (Nat.le_refl _) _ D _ _ (by omega) hK' rfl rfl)⟩
    simp [results, Try.f52, go_sem, hc5]
  case stop =>
    rintro D c pre W hD hpre ⟨⟨rfl, ini, last, rfl, e2, hcr⟩, hB⟩ hK
    gi_wp2
    refine ⟨by simp, .inl ⟨_, _, rfl, run_takeDeferred hK, ?_⟩⟩
    have hc5 := cell_kept hcr (grownBy_putObj' _ D (.deferred none)) (fun r e => by cases e; exact ⟨_, hK, rfl⟩)
    refine ⟨.bool false, ?_, by rw [agree_no hpre e2], hB.trans (belowK_b (w := w) (Nat.le_refl _) W D _ _ (by omega) hK rfl rfl)⟩
    simp [results, Try.f52, go_sem, hc5]
set_option maxHeartbeats 1600000 in
set_option maxRecDepth 20000 in
theorem implAgree_any (xa : List MarkV) (va : Value) (xb : List MarkV) (vb : Value) (w : World) (hsa : SmallMarkS xa) (hsb : SmallMarkS xb) (hA : MarkSRd w va xa) (hB : MarkSRd w vb xb) :
    Calls Try.prog 52 #[va, vb] w fun e w' => e = .returned (.bool (agreeOut xa xb)) ∧ Below w.heap.size w w' := by
  have HO1 := hide (fun W (bb : Below w.heap.size w W) => implStampOk_any xa va W hsa (hA.up bb))
  have HO2 := hide (fun W (bb : Below w.heap.size w W) => implStampOk_any xb vb W hsb (hB.up bb))
  obtain ⟨a, ca, rfl, hA⟩ := hA
  obtain ⟨b, cb, rfl, hB⟩ := hB
  unfold agreeOut
  cases oa : mstampB xa
  · rw [oa] at HO1
    have bR := Boxed.new w 4 (.bool false)
    have bl := (Below.refl w.heap.size w).alloc (Nat.le_refl _) (.cells #[.bool false] 4)
    refine (callsIn_wide (n := 3)).1 ?_
    refine callsIn_of_wp_marks Try.func52 rfl trivial ?_ rfl
    simp only [Try.ntmps52, List.size_toArray, List.length_cons, List.length_nil, Nat.reduceAdd, Nat.reduceSub, Array.replicate_succ, Array.replicate_zero, List.push_toArray, List.append_toArray, List.nil_append, List.cons_append]
    gi_wp2_with fail
    refine ⟨trivial, ?_⟩
    refine (callsIn_wide.2 (unhide HO1 _ bl)).mono ?_
    rintro e w1 ⟨rfl, b1⟩
    have bR1 := boxed_up bR b1
    have bl1 := bl.trans (b1.mono (by simp))
    have cR := bR1.cell
    have fR := bR1.frozen
    clear b1 bR bl
    gi_wp2
    refine ⟨trivial, ?_⟩
    gi_wp2
    have hc5 := (bR1.set (.bool false)).cell
    refine ⟨.bool false, ?_, by simp, bl1.setCell (p := ⟨w.heap.size, 0, none⟩) (by simp) _⟩
    simp [results, Try.f52, go_sem, hc5]
  · cases ob : mstampB xb
    · rw [oa] at HO1
      rw [ob] at HO2
      have bR := Boxed.new w 4 (.bool false)
      have bl := (Below.refl w.heap.size w).alloc (Nat.le_refl _) (.cells #[.bool false] 4)
      refine (callsIn_wide (n := 3)).1 ?_
      refine callsIn_of_wp_marks Try.func52 rfl trivial ?_ rfl
      simp only [Try.ntmps52, List.size_toArray, List.length_cons, List.length_nil, Nat.reduceAdd, Nat.reduceSub, Array.replicate_succ, Array.replicate_zero, List.push_toArray, List.append_toArray, List.nil_append, List.cons_append]
      gi_wp2_with fail
      refine ⟨trivial, ?_⟩
      refine (callsIn_wide.2 (unhide HO1 _ bl)).mono ?_
      rintro e w1 ⟨rfl, b1⟩
      have bR1 := boxed_up bR b1
      have bl1 := bl.trans (b1.mono (by simp))
      clear b1 bR bl
      gi_wp2_with fail
      refine ⟨trivial, ?_⟩
      refine (callsIn_wide.2 (unhide HO2 _ bl1)).mono ?_
      rintro e w2 ⟨rfl, b2⟩
      have bR2 := boxed_up bR1 b2
      have bl2 := bl1.trans (b2.mono bl1.size)
      have cR := bR2.cell
      have fR := bR2.frozen
      clear b2 bR1 bl1
      gi_wp2
      have hc5 := (bR2.set (.bool false)).cell
      refine ⟨.bool false, ?_, by simp, bl2.setCell (p := ⟨w.heap.size, 0, none⟩) (by simp) _⟩
      simp [results, Try.f52, go_sem, hc5]
    · refine (callsIn_wide (n := 3)).1 ((agree_yesyes a b ca cb xa xb w hsa hsb oa ob hA hB).mono ?_)
      rintro e w' ⟨rfl, hb⟩
      exact ⟨by simp, hb⟩
end Go.Proofs.Ytnijccmhajjdoaa
