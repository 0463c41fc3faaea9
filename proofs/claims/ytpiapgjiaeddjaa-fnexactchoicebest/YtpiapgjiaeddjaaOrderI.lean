/-
  StampOrder of the program.
-/
import Derived.Test.YtpiapgjiaeddjaaMerged10
set_option linter.unusedVariables false
namespace Go.Proofs.Ytpiapgjiaeddjaa
open Go.RowKit Go.Maps Go.Deep Go.Shelf

attribute [local go_sem] Oper.semAt_some

def lessP (pre : List (MarkV × MarkV)) : Bool := pre.any fun p => decide (p.1.a1 < p.2.a1)
def moreP (pre : List (MarkV × MarkV)) : Bool := pre.any fun p => decide (p.2.a1 < p.1.a1)
theorem lessP_snoc (pre : List (MarkV × MarkV)) (x : MarkV × MarkV) : lessP (pre ++ [x]) = (lessP pre || decide (x.1.a1 < x.2.a1)) := by simp [lessP]
theorem moreP_snoc (pre : List (MarkV × MarkV)) (x : MarkV × MarkV) : moreP (pre ++ [x]) = (moreP pre || decide (x.2.a1 < x.1.a1)) := by simp [moreP]
def orderB (l m : Bool) : Int := if l && m then 3 else if l then 1 else if m then 2 else 0
def orderS (xa xb : List MarkV) : Int := orderB (lessP (sideL xa xb)) (moreP (sideL xa xb))
def orderOut (xa xb : List MarkV) : Int := if mstampB xa && mstampB xb then orderS xa xb else 4

set_option maxRecDepth 100000 in
set_option maxHeartbeats 4000000 in
theorem order_yesyes (a b : Option Addr) (ca cb : Nat) (xa xb : List MarkV) (w : World) (hsa : SmallMarkS xa) (hsb : SmallMarkS xb) (oa : mstampB xa = true) (ob : mstampB xb = true) (hA : MarkIn w a xa) (hB : MarkIn w b xb) :
    CallsIn Fence.wide 3 Try.prog 86 #[.slice a xa.length ca, .slice b xb.length cb] w fun e w' => e = .returned (.int .i64 (orderS xa xb)) ∧ Below w.heap.size w w' := by
  have hla := mstamp_len oa
  have hlb := mstamp_len ob
  have HO1 := hide (fun W (bb : Below w.heap.size w W) => implStampOk_any xa (.slice a xa.length ca) W hsa ⟨a, ca, rfl, hA.below bb⟩)
  have HO2 := hide (fun W (bb : Below w.heap.size w W) => implStampOk_any xb (.slice b xb.length cb) W hsb ⟨b, cb, rfl, hB.below bb⟩)
  rw [oa] at HO1
  rw [ob] at HO2
  refine callsIn_of_wp_marks Try.func86 rfl trivial ?_ rfl
  simp only [Try.ntmps86, List.size_toArray, List.length_cons, List.length_nil, Nat.reduceAdd, Nat.reduceSub, Array.replicate_succ, Array.replicate_zero, List.push_toArray, List.append_toArray, List.nil_append, List.cons_append]
  gi_wp2_with fail
  refine ⟨trivial, ?_⟩
  refine (callsIn_wide.2 (unhide HO1 _ (Below.refl _ _))).mono ?_
  rintro e w1 ⟨rfl, bl1⟩
  gi_wp2_with fail
  refine ⟨trivial, ?_⟩
  refine (callsIn_wide.2 (unhide HO2 _ bl1)).mono ?_
  rintro e w2 ⟨rfl, b2⟩
  have bl2 := bl1.trans (b2.mono bl1.size)
  have hz2 := bl2.size
  clear b2 bl1
  gi_wp2_with fail
  refine ⟨trivial, ?_⟩
  refine (side_in 2 _ _ _ _ _ _ _).mono ?_
  rintro e W0 ⟨rfl, hW0⟩
  have bL := (((Boxed.new w2 4 (.bool false)).alloc (.cells #[.bool false] 4)).alloc (.cells #[.slice a xa.length ca] 53)).alloc (.cells #[.slice b xb.length cb] 53)
  have bM := ((Boxed.new (w2.alloc (.cells #[.bool false] 4)) 4 (.bool false)).alloc (.cells #[.slice a xa.length ca] 53)).alloc (.cells #[.slice b xb.length cb] 53)
  have bA := ((Boxed.new ((w2.alloc (.cells #[.bool false] 4)).alloc (.cells #[.bool false] 4)) 53 (.slice a xa.length ca)).alloc (.cells #[.slice b xb.length cb] 53)).cell
  have bB := (Boxed.new (((w2.alloc (.cells #[.bool false] 4)).alloc (.cells #[.bool false] 4)).alloc (.cells #[.slice a xa.length ca] 53)) 53 (.slice b xb.length cb)).cell
  simp only [World.size_alloc] at bM bA bB
  rw [← hW0] at bL bM bA bB
  have hs0 : W0.heap.size = w2.heap.size + 4 := by rw [hW0]; simp
  have b0 : Below w2.heap.size w2 W0 := by rw [hW0]; exact ((((Below.refl _ _).alloc (Nat.le_refl _) _).alloc (by simp) _).alloc (by simp; omega) _).alloc (by simp; omega) _
  have bl0 := bl2.trans (b0.mono (by omega))
  clear hW0 b0
  gi_wp2_with fail
  refine wpIn_rangeFunc_ownH rfl (by omega) (gf := 98) (lb := #[.pointer (some ⟨w2.heap.size + 1 + 1, 0, none⟩), .pointer (some ⟨w2.heap.size + 1 + 1 + 1, 0, none⟩)]) rfl trivial (enters_of Try.func98 (by kernel_rfl) rfl)
    (side_stops 2 (by omega) (w2.heap.size + 1 + 1) (w2.heap.size + 1 + 1 + 1) (w2.heap.size + 4) a b ca cb xa xb hla hlb [w2.heap.size, w2.heap.size + 1] (by omega) (by omega) (by simp; omega) (by simp; omega) W0 (by omega) bA bB (markIn_low hA (by omega) (by simp; omega) bl0) (markIn_low hB (by omega) (by simp; omega) bl0)) keepK_t (keepK_b (by omega)) (Below.refl _ _) (fun _ => rfl)
    (fun pre W => (Boxed W w2.heap.size 4 (.bool (lessP pre)) ∧ Boxed W (w2.heap.size + 1) 4 (.bool (moreP pre))) ∧ Below w.heap.size w W ∧ w2.heap.size + 4 ≤ W.heap.size)
    (fun c pre W => False)
    (OwnFrom.and (OwnFrom.and (Own.from (boxed_own _ _ _) _) (Own.from (boxed_own _ _ _) _)) (OwnFrom.and (ownFrom_below (Nat.le_refl _) (by omega)) (ownFrom_size _ _)))
    (fun c s A B row hs hg hr => hs)
    ⟨⟨bL, bM⟩, bl0, by omega⟩
    (fun x a' W => ∃ Bx By, w2.heap.size + 1 < Bx ∧ w2.heap.size + 1 < By ∧ BoxM W Bx x.1 ∧ BoxM W By x.2 ∧ a' = { tmps := #[.slice a xa.length ca, .slice b xb.length cb, undef, undef, .int .i64 0, .pointer (some ⟨w2.heap.size, 0, none⟩), .pointer (some ⟨w2.heap.size + 1, 0, none⟩), .pointer (some ⟨Bx, 0, none⟩), .pointer (some ⟨By, 0, none⟩), .slice a xa.length ca, .bool true, .bool false, .bool false, .slice b xb.length cb, .bool true, .bool false, .bool false, .slice a xa.length ca, .slice b xb.length cb, .func (.func 98) #[] #[.pointer (some ⟨w2.heap.size + 1 + 1, 0, none⟩), .pointer (some ⟨w2.heap.size + 1 + 1 + 1, 0, none⟩)], .agg #[.string x.1.a0, .int .i64 x.1.a1], .agg #[.string x.2.a0, .int .i64 x.2.a1], undef, undef, undef, undef, undef, undef, undef, undef, undef, undef, undef, undef, undef, undef, undef, undef, undef, undef, undef, undef, undef, undef, undef, undef, undef], defers := [] })
    (fun x a' _ X Y row hs hg hr => by obtain ⟨Bx, By, e1, e1', e2, e2', e3⟩ := hs; exact ⟨Bx, By, e1, e1', boxM_own Bx x.1 () X Y row e2 hg (fun r e => (hr r e).2), boxM_own By x.2 () X Y row e2' hg (fun r e => (hr r e).2), e3⟩)
    ?assign ?body ?done ?stop
  case assign =>
    rintro l pre x W K ⟨⟨bL1, bM1⟩, hB1, hz0⟩ hK
    simp only [encM]
    gi_wp2
    exact hK _ _ (((KeepsOthers.alloc _ _).trans (KeepsOthers.alloc _ _)).from _) (((Keep.refl _ _ W).alloc (by omega) _).alloc (by simp; omega) _) ⟨⟨(bL1.alloc _).alloc _, (bM1.alloc _).alloc _⟩, (hB1.alloc (by omega) _).alloc (by simp; omega) _, by simp; omega⟩
      ⟨W.heap.size, W.heap.size + 1, by omega, by omega, (Below.heap_alloc _ _ _ (by simp)).trans (heap_alloc_new W _), by have := heap_alloc_new (W.alloc (.cells #[.string x.1.a0, .int .i64 x.1.a1] 62)) (.cells #[.string x.2.a0, .int .i64 x.2.a1] 62); rw [World.size_alloc] at this; exact this, rfl⟩
  case body =>
    rintro l pre x a' W hl ⟨r, hr⟩ ⟨⟨bL1, bM1⟩, hB1, hz0⟩ ⟨Bx, By, hBx, hBy, bX, bY, rfl⟩ hlt
    obtain ⟨x0, x1⟩ := boxM_cells bX
    obtain ⟨y0, y1⟩ := boxM_cells bY
    have HL := hide (lessP_snoc pre x)
    have HM := hide (moreP_snoc pre x)
    have HB1 := hide hB1
    generalize lessP pre = L at *
    generalize moreP pre = M at *
    have cL := bL1.cell
    have fL := bL1.frozen
    have cM := bM1.cell
    have fM := bM1.frozen
    have n1 : ¬ (w2.heap.size = Bx) := by omega
    have n2 : ¬ (w2.heap.size = By) := by omega
    have n3 : ¬ (w2.heap.size + 1 = Bx) := by omega
    have n4 : ¬ (w2.heap.size + 1 = By) := by omega
    have n5 : ¬ (Bx = w2.heap.size) := by omega
    have n6 : ¬ (By = w2.heap.size) := by omega
    have KK : ∀ u v : Bool, Hid (KeepsFrom (w2.heap.size + 4) W ((W.setCell ⟨w2.heap.size, 0, none⟩ (.bool u)).setCell ⟨w2.heap.size + 1, 0, none⟩ (.bool v)) ∧ Keep (w2.heap.size + 4) [w2.heap.size, w2.heap.size + 1] W ((W.setCell ⟨w2.heap.size, 0, none⟩ (.bool u)).setCell ⟨w2.heap.size + 1, 0, none⟩ (.bool v)) ∧
        (Boxed ((W.setCell ⟨w2.heap.size, 0, none⟩ (.bool u)).setCell ⟨w2.heap.size + 1, 0, none⟩ (.bool v)) w2.heap.size 4 (.bool u) ∧ Boxed ((W.setCell ⟨w2.heap.size, 0, none⟩ (.bool u)).setCell ⟨w2.heap.size + 1, 0, none⟩ (.bool v)) (w2.heap.size + 1) 4 (.bool v)) ∧
        Below w.heap.size w ((W.setCell ⟨w2.heap.size, 0, none⟩ (.bool u)).setCell ⟨w2.heap.size + 1, 0, none⟩ (.bool v)) ∧ w2.heap.size + 4 ≤ ((W.setCell ⟨w2.heap.size, 0, none⟩ (.bool u)).setCell ⟨w2.heap.size + 1, 0, none⟩ (.bool v)).heap.size) := fun u v => hide
      ⟨((KeepsOthers.setCell _ _ _).trans (KeepsOthers.setCell _ _ _)).from _, ((Keep.refl _ _ W).setCell (by simp) _ _).setCell (by simp) _ _,
        ⟨(bL1.set (.bool u)).other (by omega) _, (bM1.other (by omega) _).set (.bool v)⟩, ((unhide HB1).setCell (p := ⟨w2.heap.size, 0, none⟩) hz2 _).setCell (p := ⟨w2.heap.size + 1, 0, none⟩) (by show _ ≤ w2.heap.size + 1; omega) _, by simpa using hz0⟩
    clear hB1 bL1 bM1 bX bY
    cases L <;> cases M <;> by_cases h1 : x.1.a1 < x.2.a1 <;> by_cases h2 : x.2.a1 < x.1.a1
    all_goals first
      | (exfalso; omega)
      | skip
    all_goals
      gi_wp2
      refine ⟨(unhide (KK _ _)).1, (unhide (KK _ _)).2.1, ⟨?_, ?_⟩, (unhide (KK _ _)).2.2.2.1, (unhide (KK _ _)).2.2.2.2⟩
      · rw [unhide HL]
        first
          | rw [decide_eq_true (show x.1.a1 < x.2.a1 by omega)]
          | rw [decide_eq_false (show ¬ x.1.a1 < x.2.a1 by omega)]
        simp only [Bool.or_true, Bool.or_false]
        exact (unhide (KK _ _)).2.2.1.1
      · rw [unhide HM]
        first
          | rw [decide_eq_true (show x.2.a1 < x.1.a1 by omega)]
          | rw [decide_eq_false (show ¬ x.2.a1 < x.1.a1 by omega)]
        simp only [Bool.or_true, Bool.or_false]
        exact (unhide (KK _ _)).2.2.1.2
  case done =>
    rintro D ys W hD rfl ⟨⟨bL1, bM1⟩, hB1, _⟩ hK
    have HB1 := hide (hB1.trans (belowK_b (w := w) (Nat.le_refl _) W D _ (.deferred none) (by omega) hK rfl rfl))
    have cL := bL1.cell
    have cM := bM1.cell
    have HO := hide (show orderS xa xb = orderB (lessP (sideL xa xb)) (moreP (sideL xa xb)) from rfl)
    generalize lessP (sideL xa xb) = L at *
    generalize moreP (sideL xa xb) = M at *
    clear bL1 bM1 hB1
    cases L <;> cases M
    all_goals
      gi_wp2
      refine ⟨by simp, .inl ⟨_, _, rfl, run_takeDeferred hK, ?_⟩⟩
      exact ⟨_, results_tmp rfl _ _ _, by rw [unhide HO]; rfl, unhide HB1⟩
  case stop =>
    rintro D c pre W _ _ h _
    exact h.elim
set_option maxHeartbeats 1600000 in
set_option maxRecDepth 20000 in
theorem implOrder_any (xa : List MarkV) (va : Value) (xb : List MarkV) (vb : Value) (w : World) (hsa : SmallMarkS xa) (hsb : SmallMarkS xb) (hA : MarkSRd w va xa) (hB : MarkSRd w vb xb) :
    Calls Try.prog 86 #[va, vb] w fun e w' => e = .returned (.int .i64 (orderOut xa xb)) ∧ Below w.heap.size w w' := by
  have HO1 := hide (fun W (bb : Below w.heap.size w W) => implStampOk_any xa va W hsa (hA.up bb))
  have HO2 := hide (fun W (bb : Below w.heap.size w W) => implStampOk_any xb vb W hsb (hB.up bb))
  obtain ⟨a, ca, rfl, hA⟩ := hA
  obtain ⟨b, cb, rfl, hB⟩ := hB
  unfold orderOut
  cases oa : mstampB xa
  · rw [oa] at HO1
    refine (callsIn_wide (n := 3)).1 ?_
    refine callsIn_of_wp_marks Try.func86 rfl trivial ?_ rfl
    simp only [Try.ntmps86, List.size_toArray, List.length_cons, List.length_nil, Nat.reduceAdd, Nat.reduceSub, Array.replicate_succ, Array.replicate_zero, List.push_toArray, List.append_toArray, List.nil_append, List.cons_append]
    gi_wp2_with fail
    refine ⟨trivial, ?_⟩
    refine (callsIn_wide.2 (unhide HO1 _ (Below.refl _ _))).mono ?_
    rintro e w1 ⟨rfl, bl1⟩
    gi_wp2
    refine ⟨trivial, ?_⟩
    gi_wp2
    exact ⟨_, results_tmp rfl _ _ _, by simp, bl1⟩
  · cases ob : mstampB xb
    · rw [oa] at HO1
      rw [ob] at HO2
      refine (callsIn_wide (n := 3)).1 ?_
      refine callsIn_of_wp_marks Try.func86 rfl trivial ?_ rfl
      simp only [Try.ntmps86, List.size_toArray, List.length_cons, List.length_nil, Nat.reduceAdd, Nat.reduceSub, Array.replicate_succ, Array.replicate_zero, List.push_toArray, List.append_toArray, List.nil_append, List.cons_append]
      gi_wp2_with fail
      refine ⟨trivial, ?_⟩
      refine (callsIn_wide.2 (unhide HO1 _ (Below.refl _ _))).mono ?_
      rintro e w1 ⟨rfl, bl1⟩
      gi_wp2_with fail
      refine ⟨trivial, ?_⟩
      refine (callsIn_wide.2 (unhide HO2 _ bl1)).mono ?_
      rintro e w2 ⟨rfl, b2⟩
      have bl2 := bl1.trans (b2.mono bl1.size)
      clear b2 bl1
      gi_wp2
      exact ⟨_, results_tmp rfl _ _ _, by simp, bl2⟩
    · refine (callsIn_wide (n := 3)).1 ((order_yesyes a b ca cb xa xb w hsa hsb oa ob hA hB).mono ?_)
      rintro e w' ⟨rfl, hb⟩
      exact ⟨by simp, hb⟩
end Go.Proofs.Ytpiapgjiaeddjaa
