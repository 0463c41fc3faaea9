/-
  sideBySide as a whole: what its value hands to a loop's body.
-/
/-
  What the callers of the iterator over two stamps share: boxes, and what rows they read.
-/
/-
  StampOrder of the program.
-/
/-
  StampOrder of the specification, and that both sides answer the same.
-/
/-
  Windows: the program's comesBehind.
-/
import Derived.Test.YtknkdbfgfcgkiaaGreatDoorSideIter
import Derived.Test.YtknkdbfgfcgkiaaGreatDoorMerged15
import Derived.RangeFuncBox
import Derived.Test.YtknkdbfgfcgkiaaGreatDoorMerged16
set_option linter.unusedVariables false
namespace Go.Proofs.YtknkdbfgfcgkiaaGreatDoor
open Go.RowKit Go.Maps Go.Deep Go.Shelf

attribute [local go_sem] Oper.semAt_some

set_option maxHeartbeats 1000000 in
theorem side_in (n : Nat) (a b : Option Addr) (la ca lb cb : Nat) (w : World) :
    CallsIn Fence.wide n Tryz.prog 116 #[.slice a la ca, .slice b lb cb] w fun e w' => e = .returned (.func (.func 131) #[] #[.pointer (some ⟨w.heap.size, 0, none⟩), .pointer (some ⟨w.heap.size + 1, 0, none⟩)]) ∧ w' = (w.alloc (.cells #[.slice a la ca] 34)).alloc (.cells #[.slice b lb cb] 34) := by
  refine callsIn_of_wp Tryz.func116 rfl trivial ?_ rfl
  simp only [Tryz.ntmps116, List.size_toArray, List.length_cons, List.length_nil, Nat.reduceAdd, Nat.reduceSub, Array.replicate_succ, Array.replicate_zero, List.push_toArray, List.append_toArray, List.nil_append, List.cons_append]
  gi_wp2
  go_ret
  exact ⟨rfl, rfl⟩
theorem abides_below {α : Type} {B : Nat} {J : List α → World → Prop} (h : AbidesFrom B J) : ∀ pre X Y, J pre X → Below X.heap.size X Y → J pre Y :=
  fun pre X Y hJ hb => h pre X Y none hJ ⟨hb.os, hb.tape, hb.output, hb.size, fun k hk _ => hb.block k hk⟩ (fun r e => by cases e)
/-- sideBySide hands back a value that stops: all pairs, or a beginning of them -/
theorem side_stops (n : Nat) (hn : 1 ≤ n) (Ba Bb n₀ : Nat) (aa ab : Option Addr) (ca cb : Nat) (xa xb : List MarkV) (hla : xa.length ≤ 12) (hlb : xb.length ≤ 12) (S : List Nat) (hBa : Ba < n₀) (hBb : Bb < n₀) (hSa : Ba ∉ S) (hSb : Bb ∉ S) (w : World) (hn₀ : n₀ ≤ w.heap.size)
    (cA : w.cell? ⟨Ba, 0, none⟩ = some (.slice aa xa.length ca)) (cB : w.cell? ⟨Bb, 0, none⟩ = some (.slice ab xb.length cb)) (rA : MarkLow n₀ S w aa xa) (rB : MarkLow n₀ S w ab xb) :
    SeqStopsK Fence.wide n Tryz.prog 131 #[.pointer (some ⟨Ba, 0, none⟩), .pointer (some ⟨Bb, 0, none⟩)] encM (Keep n₀ S) (fun ys => ys = sideL xa xb)
      (fun pre => pre <+: sideL xa xb) (xa.length + xb.length) w := fun l J Jx W hW hJ _ hY h0 => by
  have hW' := hW.mono hn₀
  refine side1_in n hn l Ba Bb n₀ aa ab ca cb xa xb hla hlb S hBa hBb hSa hSb J Jx (abides_below hJ) (fun pre x W _ => hY pre x W) W (Nat.le_trans hn₀ hW.size) ((hW'.cell (p := ⟨Ba, 0, none⟩) hBa).trans cA) ((hW'.cell (p := ⟨Bb, 0, none⟩) hBb).trans cB) ?_ ?_ h0
  · rcases rA with h | ⟨b, off, e, hb, hc⟩
    · exact .inl h
    · exact .inr ⟨b, off, e, hb, hc.below hW' hb.1⟩
  · rcases rB with h | ⟨b, off, e, hb, hc⟩
    · exact .inl h
    · exact .inr ⟨b, off, e, hb, hc.below hW' hb.1⟩
/-- a pair whose texts are not too long -/
def MPair : Type := { p : MarkV × MarkV // p.1.a0.size ≤ 1048576 ∧ p.2.a0.size ≤ 1048576 }
/-- the same, told of such pairs alone -/
theorem side_stopsB (n : Nat) (hn : 1 ≤ n) (Ba Bb n₀ : Nat) (aa ab : Option Addr) (ca cb : Nat) (xa xb : List MarkV) (hla : xa.length ≤ 12) (hlb : xb.length ≤ 12) (S : List Nat) (hBa : Ba < n₀) (hBb : Bb < n₀) (hSa : Ba ∉ S) (hSb : Bb ∉ S) (w : World) (hn₀ : n₀ ≤ w.heap.size)
    (cA : w.cell? ⟨Ba, 0, none⟩ = some (.slice aa xa.length ca)) (cB : w.cell? ⟨Bb, 0, none⟩ = some (.slice ab xb.length cb)) (rA : MarkLow n₀ S w aa xa) (rB : MarkLow n₀ S w ab xb) (hsm : ∀ p ∈ sideL xa xb, p.1.a0.size ≤ 1048576 ∧ p.2.a0.size ≤ 1048576) :
    SeqStopsK Fence.wide n Tryz.prog 131 #[.pointer (some ⟨Ba, 0, none⟩), .pointer (some ⟨Bb, 0, none⟩)] (fun x : MPair => encM x.1) (Keep n₀ S) (fun ys => ys.map (fun x : MPair => x.1) = sideL xa xb)
      (fun pre => pre.map (fun x : MPair => x.1) <+: sideL xa xb) (xa.length + xb.length) w := fun l J Jx W hW hJ _ hY h0 => by
  have hW' := hW.mono hn₀
  refine (side1_in n hn l Ba Bb n₀ aa ab ca cb xa xb hla hlb S hBa hBb hSa hSb (fun pre W => ∃ ps : List MPair, ps.map (fun x : MPair => x.1) = pre ∧ J ps W) (fun pre W => ∃ ps : List MPair, ps.map (fun x : MPair => x.1) = pre ∧ Jx ps W) ?_ ?_ W (Nat.le_trans hn₀ hW.size) ((hW'.cell (p := ⟨Ba, 0, none⟩) hBa).trans cA) ((hW'.cell (p := ⟨Bb, 0, none⟩) hBb).trans cB) ?_ ?_ ⟨[], rfl, h0⟩).mono ?_
  · rintro pre X Y ⟨ps, h1, h2⟩ hb
    exact ⟨ps, h1, abides_below hJ ps X Y h2 hb⟩
  · rintro pre x W1 hx ⟨ps, rfl, h2⟩ hlen
    obtain ⟨fn, tmps, assign, body, hy, hR⟩ := hY ps ⟨x, hsm x hx⟩ W1 h2 (by simpa using hlen)
    refine ⟨fn, tmps, assign, body, hy, hR.mono ?_⟩
    rintro e W2 (⟨h3, h4, h5⟩ | ⟨h3, h4⟩)
    · exact .inl ⟨h3, ⟨ps ++ [⟨x, hsm x hx⟩], by rw [List.map_append]; rfl, h4⟩, h5⟩
    · exact .inr ⟨h3, ps ++ [⟨x, hsm x hx⟩], by rw [List.map_append]; rfl, h4⟩
  · rcases rA with h | ⟨b, off, e, hb, hc⟩
    · exact .inl h
    · exact .inr ⟨b, off, e, hb, hc.below hW' hb.1⟩
  · rcases rB with h | ⟨b, off, e, hb, hc⟩
    · exact .inl h
    · exact .inr ⟨b, off, e, hb, hc.below hW' hb.1⟩
  · rintro e W2 ⟨h1, (⟨ys, h2, ps, h3, h4⟩ | ⟨pre, h2, ps, h3, h4⟩)⟩
    · exact ⟨h1, .inl ⟨ps, h3.trans h2, h4⟩⟩
    · exact ⟨h1, .inr ⟨ps, by show ps.map (fun x : MPair => x.1) <+: sideL xa xb; rw [h3]; exact h2, h4⟩⟩
end Go.Proofs.YtknkdbfgfcgkiaaGreatDoor

set_option linter.unusedVariables false
namespace Go.Proofs.YtknkdbfgfcgkiaaGreatDoor
open Go.RowKit Go.Maps Go.Deep Go.Shelf

theorem mstamp_len {ns : List MarkV} (h : mstampB ns = true) : ns.length ≤ 12 := by
  simp [mstampB] at h
  exact h.1
theorem boxed_up {W W' : World} {B : Nat} {t : TypeId} {v : Value} (h : Boxed W B t v) (hb : Below W.heap.size W W') : Boxed W' B t v := (hb.block B h.lt).trans h
/-- a mark in a box of its own -/
def BoxM (W : World) (B : Nat) (x : MarkV) : Prop := W.heap[B]? = some (.cells #[.string x.a0, .int .i64 x.a1] 112 (0, 0))
theorem boxM_cells {W : World} {B : Nat} {x : MarkV} (h : BoxM W B x) : W.cell? ⟨B, 0, none⟩ = some (.string x.a0) ∧ W.cell? ⟨B, 1, none⟩ = some (.int .i64 x.a1) := by
  constructor <;> simp [World.cell?, show W.heap[B]? = _ from h]
theorem boxM_frozen {W : World} {B : Nat} {x : MarkV} (h : BoxM W B x) (i : Nat) : W.frozen? ⟨B, i, none⟩ = false := by simp [World.frozen?, show W.heap[B]? = _ from h]
theorem ownFrom_size {α : Type} (B n : Nat) : OwnFrom B (fun (_ : α) W => n ≤ W.heap.size) := fun s W W' row hs hg hr => Nat.le_trans hs hg.size
theorem boxM_own (B : Nat) (x : MarkV) : Own (fun (_ : Unit) W => BoxM W B x) := fun s X Y row hs hg hrow =>
  (hg.block B (Array.getElem?_eq_some_iff.1 hs).1 (fun e' => by obtain ⟨o, ho, hc⟩ := hrow B e'.symm; rw [show X.heap[B]? = _ from hs] at ho; cases ho; cases hc)).trans hs
theorem markIn_low {w : World} {a : Option Addr} {ns : List MarkV} (h : MarkIn w a ns) {n₀ : Nat} {S : List Nat} (hn : w.heap.size ≤ n₀) (hS : ∀ k ∈ S, w.heap.size ≤ k) {X : World} (hb : Below w.heap.size w X) : MarkLow n₀ S X a ns := by
  rcases h with h | ⟨b, off, e, hb', hc⟩
  · exact .inl h
  · exact .inr ⟨b, off, e, ⟨by omega, fun hm => by have := hS _ hm; omega⟩, hc.below hb hb'⟩

end Go.Proofs.YtknkdbfgfcgkiaaGreatDoor

set_option linter.unusedVariables false
namespace Go.Proofs.YtknkdbfgfcgkiaaGreatDoor
open Go.RowKit Go.Maps Go.Deep Go.Shelf

attribute [local go_sem] Oper.semAt_some

def lessP (pre : List (MarkV × MarkV)) : Bool := pre.any fun p => decide (p.1.a1 < p.2.a1)
def moreP (pre : List (MarkV × MarkV)) : Bool := pre.any fun p => decide (p.2.a1 < p.1.a1)
theorem lessP_snoc (pre : List (MarkV × MarkV)) (x : MarkV × MarkV) : lessP (pre ++ [x]) = (lessP pre || decide (x.1.a1 < x.2.a1)) := by simp [lessP]
theorem moreP_snoc (pre : List (MarkV × MarkV)) (x : MarkV × MarkV) : moreP (pre ++ [x]) = (moreP pre || decide (x.2.a1 < x.1.a1)) := by simp [moreP]
def orderB (l m : Bool) : Int := if l && m then 3 else if l then 1 else if m then 2 else 0
def orderS (xa xb : List MarkV) : Int := orderB (lessP (sideL xa xb)) (moreP (sideL xa xb))
def orderOut (xa xb : List MarkV) : Int := if mstampB xa && mstampB xb then orderS xa xb else 4

set_option maxRecDepth 100000 in
set_option maxHeartbeats 4000000 in
theorem order_yesyes (a b : Option Addr) (ca cb : Nat) (xa xb : List MarkV) (w : World) (hsa : SmallMarkS xa) (hsb : SmallMarkS xb) (oa : mstampB xa = true) (ob : mstampB xb = true) (hA : MarkIn w a xa) (hB : MarkIn w b xb) :
    CallsIn Fence.wide 3 Tryz.prog 94 #[.slice a xa.length ca, .slice b xb.length cb] w fun e w' => e = .returned (.int .i64 (orderS xa xb)) ∧ Below w.heap.size w w' := by
  have hla := mstamp_len oa
  have hlb := mstamp_len ob
  have HO1 := hide (fun W (bb : Below w.heap.size w W) => implStampOk_any xa (.slice a xa.length ca) W hsa ⟨a, ca, rfl, hA.below bb⟩)
  have HO2 := hide (fun W (bb : Below w.heap.size w W) => implStampOk_any xb (.slice b xb.length cb) W hsb ⟨b, cb, rfl, hB.below bb⟩)
  rw [oa] at HO1
  rw [ob] at HO2
  refine callsIn_of_wp_marks Tryz.func94 rfl trivial ?_ rfl
  simp only [Tryz.ntmps94, List.size_toArray, List.length_cons, List.length_nil, Nat.reduceAdd, Nat.reduceSub, Array.replicate_succ, Array.replicate_zero, List.push_toArray, List.append_toArray, List.nil_append, List.cons_append]
  gi_wp2_with fail
  refine ⟨trivial, ?_⟩
  refine (callsIn_wide.2 (unhide HO1 _ (Below.refl _ _))).mono ?_
  rintro e w1 ⟨rfl, bl1⟩
  gi_wp2_with fail
  refine ⟨trivial, ?_⟩
  refine (callsIn_wide.2 (unhide HO2 _ bl1)).mono ?_
  rintro e w2 ⟨rfl, b2⟩
  have bl2 := bl1.trans (b2.mono bl1.size)
  have hz2 := bl2.size
  clear b2 bl1
  gi_wp2_with fail
  refine ⟨trivial, ?_⟩
  refine (side_in 2 _ _ _ _ _ _ _).mono ?_
  rintro e W0 ⟨rfl, hW0⟩
  have bL := (((Boxed.new w2 4 (.bool false)).alloc (.cells #[.bool false] 4)).alloc (.cells #[.slice a xa.length ca] 34)).alloc (.cells #[.slice b xb.length cb] 34)
  have bM := ((Boxed.new (w2.alloc (.cells #[.bool false] 4)) 4 (.bool false)).alloc (.cells #[.slice a xa.length ca] 34)).alloc (.cells #[.slice b xb.length cb] 34)
  have bA := ((Boxed.new ((w2.alloc (.cells #[.bool false] 4)).alloc (.cells #[.bool false] 4)) 34 (.slice a xa.length ca)).alloc (.cells #[.slice b xb.length cb] 34)).cell
  have bB := (Boxed.new (((w2.alloc (.cells #[.bool false] 4)).alloc (.cells #[.bool false] 4)).alloc (.cells #[.slice a xa.length ca] 34)) 34 (.slice b xb.length cb)).cell
  simp only [World.size_alloc] at bM bA bB
  rw [← hW0] at bL bM bA bB
  have hs0 : W0.heap.size = w2.heap.size + 4 := by rw [hW0]; simp
  have b0 : Below w2.heap.size w2 W0 := by rw [hW0]; exact ((((Below.refl _ _).alloc (Nat.le_refl _) _).alloc (by simp) _).alloc (by simp; omega) _).alloc (by simp; omega) _
  have bl0 := bl2.trans (b0.mono (by omega))
  clear hW0 b0
  gi_wp2_with fail
  refine wpIn_rangeFunc_ownH rfl (by omega) (gf := 131) (lb := #[.pointer (some ⟨w2.heap.size + 1 + 1, 0, none⟩), .pointer (some ⟨w2.heap.size + 1 + 1 + 1, 0, none⟩)]) rfl trivial (enters_of Tryz.func131 (by kernel_rfl) rfl)
    (side_stops 2 (by omega) (w2.heap.size + 1 + 1) (w2.heap.size + 1 + 1 + 1) (w2.heap.size + 4) a b ca cb xa xb hla hlb [w2.heap.size, w2.heap.size + 1] (by omega) (by omega) (by simp; omega) (by simp; omega) W0 (by omega) bA bB (markIn_low hA (by omega) (by simp; omega) bl0) (markIn_low hB (by omega) (by simp; omega) bl0)) keepK_t (keepK_b (by omega)) (Below.refl _ _) (fun _ => rfl)
    (fun pre W => (Boxed W w2.heap.size 4 (.bool (lessP pre)) ∧ Boxed W (w2.heap.size + 1) 4 (.bool (moreP pre))) ∧ Below w.heap.size w W ∧ w2.heap.size + 4 ≤ W.heap.size)
    (fun c pre W => False)
    (OwnFrom.and (OwnFrom.and (Own.from (boxed_own _ _ _) _) (Own.from (boxed_own _ _ _) _)) (OwnFrom.and (ownFrom_below (Nat.le_refl _) (by omega)) (ownFrom_size _ _)))
    (fun c s A B row hs hg hr => hs)
    ⟨⟨bL, bM⟩, bl0, by omega⟩
    (fun x a' W => ∃ Bx By, w2.heap.size + 1 < Bx ∧ w2.heap.size + 1 < By ∧ BoxM W Bx x.1 ∧ BoxM W By x.2 ∧ a' = { tmps := #[.slice a xa.length ca, .slice b xb.length cb, undef, undef, .int .i64 0, .pointer (some ⟨w2.heap.size, 0, none⟩), .pointer (some ⟨w2.heap.size + 1, 0, none⟩), .pointer (some ⟨Bx, 0, none⟩), .pointer (some ⟨By, 0, none⟩), .slice a xa.length ca, .bool true, .bool false, .bool false, .slice b xb.length cb, .bool true, .bool false, .bool false, .slice a xa.length ca, .slice b xb.length cb, .func (.func 131) #[] #[.pointer (some ⟨w2.heap.size + 1 + 1, 0, none⟩), .pointer (some ⟨w2.heap.size + 1 + 1 + 1, 0, none⟩)], .agg #[.string x.1.a0, .int .i64 x.1.a1], .agg #[.string x.2.a0, .int .i64 x.2.a1], undef, undef, undef, undef, undef, undef, undef, undef, undef, undef, undef, undef, undef, undef, undef, undef, undef, undef, undef, undef, undef, undef, undef, undef, undef], defers := [] })
    (fun x a' _ X Y row hs hg hr => by obtain ⟨Bx, By, e1, e1', e2, e2', e3⟩ := hs; exact ⟨Bx, By, e1, e1', boxM_own Bx x.1 () X Y row e2 hg (fun r e => (hr r e).2), boxM_own By x.2 () X Y row e2' hg (fun r e => (hr r e).2), e3⟩)
    ?assign ?body ?done ?stop
  case assign =>
    rintro l pre x W K ⟨⟨bL1, bM1⟩, hB1, hz0⟩ hK
    simp only [encM]
    gi_wp2
    exact hK _ _ (((KeepsOthers.alloc _ _).trans (KeepsOthers.alloc _ _)).from _) (((Keep.refl _ _ W).alloc (by omega) _).alloc (by simp; omega) _) ⟨⟨(bL1.alloc _).alloc _, (bM1.alloc _).alloc _⟩, (hB1.alloc (by omega) _).alloc (by simp; omega) _, by simp; omega⟩
      ⟨W.heap.size, W.heap.size + 1, by omega, by omega, (Below.heap_alloc _ _ _ (by simp)).trans (heap_alloc_new W _), by have := heap_alloc_new (W.alloc (.cells #[.string x.1.a0, .int .i64 x.1.a1] 112)) (.cells #[.string x.2.a0, .int .i64 x.2.a1] 112); rw [World.size_alloc] at this; exact this, rfl⟩
  case body =>
    rintro l pre x a' W hl ⟨r, hr⟩ ⟨⟨bL1, bM1⟩, hB1, hz0⟩ ⟨Bx, By, hBx, hBy, bX, bY, rfl⟩ hlt
    obtain ⟨x0, x1⟩ := boxM_cells bX
    obtain ⟨y0, y1⟩ := boxM_cells bY
    have HL := hide (lessP_snoc pre x)
    have HM := hide (moreP_snoc pre x)
    have HB1 := hide hB1
    generalize lessP pre = L at *
    generalize moreP pre = M at *
    have cL := bL1.cell
    have fL := bL1.frozen
    have cM := bM1.cell
    have fM := bM1.frozen
    have n1 : ¬ (w2.heap.size = Bx) := by omega
    have n2 : ¬ (w2.heap.size = By) := by omega
    have n3 : ¬ (w2.heap.size + 1 = Bx) := by omega
    have n4 : ¬ (w2.heap.size + 1 = By) := by omega
    have n5 : ¬ (Bx = w2.heap.size) := by omega
    have n6 : ¬ (By = w2.heap.size) := by omega
    have KK : ∀ u v : Bool, Hid (KeepsFrom (w2.heap.size + 4) W ((W.setCell ⟨w2.heap.size, 0, none⟩ (.bool u)).setCell ⟨w2.heap.size + 1, 0, none⟩ (.bool v)) ∧ Keep (w2.heap.size + 4) [w2.heap.size, w2.heap.size + 1] W ((W.setCell ⟨w2.heap.size, 0, none⟩ (.bool u)).setCell ⟨w2.heap.size + 1, 0, none⟩ (.bool v)) ∧
        (Boxed ((W.setCell ⟨w2.heap.size, 0, none⟩ (.bool u)).setCell ⟨w2.heap.size + 1, 0, none⟩ (.bool v)) w2.heap.size 4 (.bool u) ∧ Boxed ((W.setCell ⟨w2.heap.size, 0, none⟩ (.bool u)).setCell ⟨w2.heap.size + 1, 0, none⟩ (.bool v)) (w2.heap.size + 1) 4 (.bool v)) ∧
        Below w.heap.size w ((W.setCell ⟨w2.heap.size, 0, none⟩ (.bool u)).setCell ⟨w2.heap.size + 1, 0, none⟩ (.bool v)) ∧ w2.heap.size + 4 ≤ ((W.setCell ⟨w2.heap.size, 0, none⟩ (.bool u)).setCell ⟨w2.heap.size + 1, 0, none⟩ (.bool v)).heap.size) := fun u v => hide
      ⟨((KeepsOthers.setCell _ _ _).trans (KeepsOthers.setCell _ _ _)).from _, ((Keep.refl _ _ W).setCell (by simp) _ _).setCell (by simp) _ _,
        ⟨(bL1.set (.bool u)).other (by omega) _, (bM1.other (by omega) _).set (.bool v)⟩, ((unhide HB1).setCell (p := ⟨w2.heap.size, 0, none⟩) hz2 _).setCell (p := ⟨w2.heap.size + 1, 0, none⟩) (by show _ ≤ w2.heap.size + 1; omega) _, by simpa using hz0⟩
    clear hB1 bL1 bM1 bX bY
    cases L <;> cases M <;> by_cases h1 : x.1.a1 < x.2.a1 <;> by_cases h2 : x.2.a1 < x.1.a1
    all_goals first
      | (exfalso; omega)
      | skip
    all_goals
      gi_wp2
      refine ⟨(unhide (KK _ _)).1, (unhide (KK _ _)).2.1, ⟨?_, ?_⟩, (unhide (KK _ _)).2.2.2.1, (unhide (KK _ _)).2.2.2.2⟩
      · rw [unhide HL]
        first
          | rw [decide_eq_true (show x.1.a1 < x.2.a1 by omega)]
          | rw [decide_eq_false (show ¬ x.1.a1 < x.2.a1 by omega)]
        simp only [Bool.or_true, Bool.or_false]
        exact (unhide (KK _ _)).2.2.1.1
      · rw [unhide HM]
        first
          | rw [decide_eq_true (show x.2.a1 < x.1.a1 by omega)]
          | rw [decide_eq_false (show ¬ x.2.a1 < x.1.a1 by omega)]
        simp only [Bool.or_true, Bool.or_false]
        exact (unhide (KK _ _)).2.2.1.2
  case done =>
    rintro D ys W hD rfl ⟨⟨bL1, bM1⟩, hB1, _⟩ hK
    have HB1 := hide (hB1.trans (belowK_b (w := w) (Nat.le_refl _) W D _ (.deferred none) (by omega) hK rfl rfl))
    have cL := bL1.cell
    have cM := bM1.cell
    have HO := hide (show orderS xa xb = orderB (lessP (sideL xa xb)) (moreP (sideL xa xb)) from rfl)
    generalize lessP (sideL xa xb) = L at *
    generalize moreP (sideL xa xb) = M at *
    clear bL1 bM1 hB1
    cases L <;> cases M
    all_goals
      gi_wp2
      refine ⟨by simp, .inl ⟨_, _, rfl, run_takeDeferred hK, ?_⟩⟩
      exact ⟨_, results_tmp rfl _ _ _, by rw [unhide HO]; rfl, unhide HB1⟩
  case stop =>
    rintro D c pre W _ _ h _
    exact h.elim
set_option maxHeartbeats 1600000 in
set_option maxRecDepth 20000 in
theorem implOrder_any (xa : List MarkV) (va : Value) (xb : List MarkV) (vb : Value) (w : World) (hsa : SmallMarkS xa) (hsb : SmallMarkS xb) (hA : MarkSRd w va xa) (hB : MarkSRd w vb xb) :
    Calls Tryz.prog 94 #[va, vb] w fun e w' => e = .returned (.int .i64 (orderOut xa xb)) ∧ Below w.heap.size w w' := by
  have HO1 := hide (fun W (bb : Below w.heap.size w W) => implStampOk_any xa va W hsa (hA.up bb))
  have HO2 := hide (fun W (bb : Below w.heap.size w W) => implStampOk_any xb vb W hsb (hB.up bb))
  obtain ⟨a, ca, rfl, hA⟩ := hA
  obtain ⟨b, cb, rfl, hB⟩ := hB
  unfold orderOut
  cases oa : mstampB xa
  · rw [oa] at HO1
    refine (callsIn_wide (n := 3)).1 ?_
    refine callsIn_of_wp_marks Tryz.func94 rfl trivial ?_ rfl
    simp only [Tryz.ntmps94, List.size_toArray, List.length_cons, List.length_nil, Nat.reduceAdd, Nat.reduceSub, Array.replicate_succ, Array.replicate_zero, List.push_toArray, List.append_toArray, List.nil_append, List.cons_append]
    gi_wp2_with fail
    refine ⟨trivial, ?_⟩
    refine (callsIn_wide.2 (unhide HO1 _ (Below.refl _ _))).mono ?_
    rintro e w1 ⟨rfl, bl1⟩
    gi_wp2
    refine ⟨trivial, ?_⟩
    gi_wp2
    exact ⟨_, results_tmp rfl _ _ _, by simp, bl1⟩
  · cases ob : mstampB xb
    · rw [oa] at HO1
      rw [ob] at HO2
      refine (callsIn_wide (n := 3)).1 ?_
      refine callsIn_of_wp_marks Tryz.func94 rfl trivial ?_ rfl
      simp only [Tryz.ntmps94, List.size_toArray, List.length_cons, List.length_nil, Nat.reduceAdd, Nat.reduceSub, Array.replicate_succ, Array.replicate_zero, List.push_toArray, List.append_toArray, List.nil_append, List.cons_append]
      gi_wp2_with fail
      refine ⟨trivial, ?_⟩
      refine (callsIn_wide.2 (unhide HO1 _ (Below.refl _ _))).mono ?_
      rintro e w1 ⟨rfl, bl1⟩
      gi_wp2_with fail
      refine ⟨trivial, ?_⟩
      refine (callsIn_wide.2 (unhide HO2 _ bl1)).mono ?_
      rintro e w2 ⟨rfl, b2⟩
      have bl2 := bl1.trans (b2.mono bl1.size)
      clear b2 bl1
      gi_wp2
      exact ⟨_, results_tmp rfl _ _ _, by simp, bl2⟩
    · refine (callsIn_wide (n := 3)).1 ((order_yesyes a b ca cb xa xb w hsa hsb oa ob hA hB).mono ?_)
      rintro e w' ⟨rfl, hb⟩
      exact ⟨by simp, hb⟩
end Go.Proofs.YtknkdbfgfcgkiaaGreatDoor

set_option linter.unusedVariables false
namespace Go.Proofs.YtknkdbfgfcgkiaaGreatDoor
open Go.RowKit Go.Maps Go.Deep

/-- has the second one each mark of the first one, with at least its version? -/
def belowB (xa xb : List MarkV) : Bool := xa.all fun x => !decide (getV xb x.a0 < x.a1)
theorem below_more {xa xb : List MarkV} (ha : mstampB xa = true) (hb : mstampB xb = true) : belowB xa xb = !moreP (sideL xa xb) := by
  have aa := asc_of_stamp ha
  have ab := asc_of_stamp hb
  have pb := pos_of_stamp hb
  rw [Bool.eq_iff_iff]
  unfold belowB moreP
  rw [List.all_eq_true, Bool.not_eq_true', List.any_eq_false]
  constructor
  · intro h p hp
    obtain ⟨s, hs, rfl⟩ := (side_mem xa xb aa ab p).1 hp
    show ¬ decide (getV xb s < getV xa s) = true
    simp only [decide_eq_true_eq]
    by_cases e : srcIn s xa
    · obtain ⟨x, hx, rfl⟩ := e
      have := h x hx
      rw [getV_mem aa hx]
      simpa using this
    · rw [getV_not e]
      by_cases e2 : srcIn s xb
      · obtain ⟨y, hy, rfl⟩ := e2
        rw [getV_mem ab hy]
        have := pb y hy
        omega
      · rw [getV_not e2]; omega
  · intro h x hx
    have hp := h _ ((side_mem xa xb aa ab (pairOf xa xb x.a0)).2 ⟨x.a0, .inl ⟨x, hx, rfl⟩, rfl⟩)
    have hp2 : ¬ decide (getV xb x.a0 < getV xa x.a0) = true := hp
    rw [getV_mem aa hx] at hp2
    simpa using hp2
theorem below_less {xa xb : List MarkV} (ha : mstampB xa = true) (hb : mstampB xb = true) : belowB xb xa = !lessP (sideL xa xb) := by
  have aa := asc_of_stamp ha
  have ab := asc_of_stamp hb
  have pa := pos_of_stamp ha
  rw [Bool.eq_iff_iff]
  unfold belowB lessP
  rw [List.all_eq_true, Bool.not_eq_true', List.any_eq_false]
  constructor
  · intro h p hp
    obtain ⟨s, hs, rfl⟩ := (side_mem xa xb aa ab p).1 hp
    show ¬ decide (getV xa s < getV xb s) = true
    simp only [decide_eq_true_eq]
    by_cases e : srcIn s xb
    · obtain ⟨x, hx, rfl⟩ := e
      have := h x hx
      rw [getV_mem ab hx]
      simpa using this
    · rw [getV_not e]
      by_cases e2 : srcIn s xa
      · obtain ⟨y, hy, rfl⟩ := e2
        rw [getV_mem aa hy]
        have := pa y hy
        omega
      · rw [getV_not e2]; omega
  · intro h x hx
    have hp := h _ ((side_mem xa xb aa ab (pairOf xa xb x.a0)).2 ⟨x.a0, .inr ⟨x, hx, rfl⟩, rfl⟩)
    have hp2 : ¬ decide (getV xa x.a0 < getV xb x.a0) = true := hp
    rw [getV_mem ab hx] at hp2
    simpa using hp2
theorem bel_no {xa xb : List MarkV} {k : Nat} (hk : k < xa.length) (h : getV xb xa[k].a0 < xa[k].a1) : belowB xa xb = false := by
  unfold belowB
  rw [List.all_eq_false]
  exact ⟨_, List.getElem_mem hk, by simpa using h⟩
theorem bel_yes {xa xb : List MarkV} (h : ∀ j (hj : j < xa.length), xa[j].a1 ≤ getV xb xa[j].a0) : belowB xa xb = true := by
  unfold belowB
  rw [List.all_eq_true]
  intro x hx
  obtain ⟨j, hj, rfl⟩ := List.getElem_of_mem hx
  simpa using h j hj
set_option maxHeartbeats 1600000 in
theorem l13Below_row (w : World) (b off ca : Nat) (vb : Value) (xa xb : List MarkV) (hl : (xa.length : Int) ≤ 12) (hsb : SmallMarkS xb) (hc : MarkAt w b off xa) (hb : b < w.heap.size) (hB : MarkSRd w vb xb) :
    Calls Tryz.prog 62 #[.slice (some ⟨b, off, none⟩) xa.length ca, vb] w fun e w' => e = .returned (.bool (belowB xa xb)) ∧ Below w.heap.size w w' := by
  have HG := hide (fun (s : ByteArray) W (bb : Below w.heap.size w W) => (l13Get_any xb vb s W hsb (hB.up bb)).mono (R' := fun e w' => e = .returned (.int .i64 (getV xb s)) ∧ Below W.heap.size W w') (fun e w' ⟨h1, h2⟩ => ⟨h1, by rw [h2]; exact Below.refl _ _⟩))
  have HC := hide hc
  obtain ⟨a2, n2, c2, rfl⟩ := hB.form
  clear hc hB hsb
  go_enter Tryz.func62, Tryz.ntmps62
  go_wp2_with fail
  go_loopw [5] (fun i wr => ∃ k : Nat, k ≤ xa.length ∧ i = .int .i64 k ∧ Hid (∀ j (hj : j < xa.length), j < k → xa[j].a1 ≤ getV xb xa[j].a0) ∧ Hid (Below w.heap.size w wr)) (fun i _ => xa.length - (intOf i).toNat)
  case atStart => exact ⟨0, Nat.zero_le _, rfl, fun j _ hj => absurd hj (Nat.not_lt_zero _), Below.refl _ _⟩
  case round =>
    obtain ⟨k, hk, rfl, HN, HB⟩ := hrel
    by_cases hlt : k < xa.length
    · obtain ⟨c0, c1⟩ := (unhide HC).below (unhide HB) hb k hlt
      have HNO := hide (fun h => bel_no (xb := xb) hlt h)
      have HYES := hide (show xa[k].a1 ≤ getV xb xa[k].a0 → ∀ j (hj : j < xa.length), j < k + 1 → xa[j].a1 ≤ getV xb xa[j].a0 from fun h j hj hjk => by
        by_cases e : j = k
        · subst e; exact h
        · exact unhide HN j hj (by omega))
      have HG1 := hide (fun (x : LaterW wr) => unhide HG xa[k].a0 x.to ((unhide HB).trans (x.bel.mono (unhide HB).size)))
      obtain ⟨g, HGE⟩ : ∃ g, Hid (getV xb xa[k].a0 = g) := ⟨_, hide rfl⟩
      rw [unhide HGE] at HG1
      simp only [unhide HGE] at HNO HYES
      clear HG HN
      generalize xa[k].a0 = nm at *
      generalize xa[k].a1 = vl at *
      clear HGE
      have r0 : ∀ x : LaterW wr, x.to.cell? ⟨b, off + k * 2, none⟩ = some (.string nm) := fun x => x.cell c0
      have r1 : ∀ x : LaterW wr, x.to.cell? ⟨b, off + k * 2 + 1, none⟩ = some (.int .i64 vl) := fun x => x.cell c1
      by_cases h1 : g < vl
      · have HE := hide (unhide HNO h1)
        clear HYES HNO
        go_wp2_with fail
        refine wp_region_later (by kernel_rfl) (by kernel_rfl) ?_
        repeat (go_big_quiet_step ((go_at_call 85; exact quiet_ret (unhide HG1 _))))
        refine wpQuiet_nil ?_
        rintro _ ⟨x, rfl⟩
        have B2 := hide ((unhide HB).trans (x.bel.mono (unhide HB).size))
        go_wp2_with fail
        go_ret
        exact ⟨ret_bool (unhide HE).symm, unhide B2⟩
      · have HY := hide (unhide HYES (Int.not_lt.1 h1))
        clear HYES HNO
        go_wp2_with fail
        refine wp_region_later (by kernel_rfl) (by kernel_rfl) ?_
        repeat (go_big_quiet_step ((go_at_call 85; exact quiet_ret (unhide HG1 _))))
        refine wpQuiet_nil ?_
        rintro _ ⟨x, rfl⟩
        have B2 := hide ((unhide HB).trans (x.bel.mono (unhide HB).size))
        go_wp2_with fail
        go_roundw
        case rel => exact ⟨k + 1, by omega, by go_num, HY, B2⟩
        case measure => simp [intOf]; omega
    · have HE := hide (bel_yes (xb := xb) (fun j hj => unhide HN j hj (by omega)))
      go_wp2_with fail
      go_ret
      exact ⟨ret_bool (unhide HE).symm, unhide HB⟩
theorem l13Below_none (w : World) (a : Option Addr) (ca : Nat) (vb : Value) (xb : List MarkV) (hB : MarkSRd w vb xb) :
    Calls Tryz.prog 62 #[.slice a 0 ca, vb] w fun e w' => e = .returned (.bool (belowB [] xb)) ∧ Below w.heap.size w w' := by
  obtain ⟨a2, n2, c2, rfl⟩ := hB.form
  clear hB
  go_enter Tryz.func62, Tryz.ntmps62
  go_wp2_with fail
  refine wp_loop_rounds 1 ?_
  rw [rounds_succ]
  go_wp2_with fail
  go_ret
  exact ⟨rfl, Below.refl _ _⟩
theorem l13Below_any (xa : List MarkV) (va : Value) (xb : List MarkV) (vb : Value) (w : World) (hl : (xa.length : Int) ≤ 12) (hsb : SmallMarkS xb) (hA : MarkSRd w va xa) (hB : MarkSRd w vb xb) :
    Calls Tryz.prog 62 #[va, vb] w fun e w' => e = .returned (.bool (belowB xa xb)) ∧ Below w.heap.size w w' := by
  obtain ⟨a, ca, rfl, hA⟩ := hA
  rcases hA with rfl | ⟨b, off, rfl, hb, hc⟩
  · exact l13Below_none w a ca vb xb hB
  · exact l13Below_row w b off ca vb xa xb hl hsb hc hb hB
set_option maxHeartbeats 1600000 in
theorem specOrder_any (xa : List MarkV) (va : Value) (xb : List MarkV) (vb : Value) (w : World) (hsa : SmallMarkS xa) (hsb : SmallMarkS xb) (hA : MarkSRd w va xa) (hB : MarkSRd w vb xb) :
    Calls Tryz.prog 27 #[va, vb] w fun e w' => e = .returned (.int .i64 (orderOut xa xb)) ∧ Below w.heap.size w w' := by
  have HO1 := hide (fun W (bb : Below w.heap.size w W) => specStampOk_any xa va W hsa (hA.up bb))
  have HO2 := hide (fun W (bb : Below w.heap.size w W) => specStampOk_any xb vb W hsb (hB.up bb))
  have HB1 := hide (fun (h : (xa.length : Int) ≤ 12) W (bb : Below w.heap.size w W) => l13Below_any xa va xb vb W h hsb (hA.up bb) (hB.up bb))
  have HB2 := hide (fun (h : (xb.length : Int) ≤ 12) W (bb : Below w.heap.size w W) => l13Below_any xb vb xa va W h hsa (hB.up bb) (hA.up bb))
  obtain ⟨a, n, c, rfl⟩ := hA.form
  obtain ⟨a2, n2, c2, rfl⟩ := hB.form
  clear hA hB hsa hsb
  unfold orderOut
  cases oa : mstampB xa
  · rw [oa] at HO1
    clear HB1 HB2
    go_enter Tryz.func27, Tryz.ntmps27
    go_wp2_with fail
    refine (unhide HO1 _ (Below.refl _ _)).mono ?_
    rintro e w1 ⟨rfl, b1⟩
    have B1 := hide b1
    clear b1
    go_wp2_with fail
    go_ret
    exact ⟨rfl, unhide B1⟩
  · cases ob : mstampB xb
    · rw [oa] at HO1
      rw [ob] at HO2
      clear HB1 HB2
      go_enter Tryz.func27, Tryz.ntmps27
      go_wp2_with fail
      refine (unhide HO1 _ (Below.refl _ _)).mono ?_
      rintro e w1 ⟨rfl, b1⟩
      have B1 := hide b1
      clear b1
      go_wp2_with fail
      refine (unhide HO2 _ (unhide B1)).mono ?_
      rintro e w2 ⟨rfl, b2⟩
      have B2 := hide ((unhide B1).trans (b2.mono (unhide B1).size))
      clear b2
      go_wp2_with fail
      go_ret
      exact ⟨rfl, unhide B2⟩
    · have K1 := hide (unhide HB1 (by have := mstamp_len oa; omega))
      have K2 := hide (unhide HB2 (by have := mstamp_len ob; omega))
      rw [below_more oa ob] at K1
      rw [below_less oa ob] at K2
      rw [oa] at HO1
      rw [ob] at HO2
      have HE := hide (show orderS xa xb = orderB (lessP (sideL xa xb)) (moreP (sideL xa xb)) from rfl)
      generalize lessP (sideL xa xb) = L at *
      generalize moreP (sideL xa xb) = M at *
      clear HB1 HB2 oa ob
      cases L <;> cases M
      all_goals
        go_enter Tryz.func27, Tryz.ntmps27
        go_wp2_with fail
        refine (unhide HO1 _ (Below.refl _ _)).mono ?_
        rintro e w1 ⟨rfl, b1⟩
        have B1 := hide b1
        clear b1
        go_wp2_with fail
        refine (unhide HO2 _ (unhide B1)).mono ?_
        rintro e w2 ⟨rfl, b2⟩
        have B2 := hide ((unhide B1).trans (b2.mono (unhide B1).size))
        clear b2
        go_wp2_with fail
        refine (unhide K1 _ (unhide B2)).mono ?_
        rintro e w3 ⟨rfl, b3⟩
        have B3 := hide ((unhide B2).trans (b3.mono (unhide B2).size))
        clear b3
        go_wp2_with fail
        refine (unhide K2 _ (unhide B3)).mono ?_
        rintro e w4 ⟨rfl, b4⟩
        have B4 := hide ((unhide B3).trans (b4.mono (unhide B3).size))
        clear b4
        go_wp2_with fail
        go_ret
        exact ⟨by rw [unhide HE]; rfl, unhide B4⟩
end Go.Proofs.YtknkdbfgfcgkiaaGreatDoor

set_option linter.unusedVariables false
namespace Go.Proofs.YtknkdbfgfcgkiaaGreatDoor
open Go.RowKit Go.Maps Go.Deep

theorem ordSaid : OrdSaid orderOut := fun xa va xb vb w hsa hsb hA hB => specOrder_any xa va xb vb w hsa hsb hA hB
set_option maxHeartbeats 3200000 in
theorem comesBehind_any (xa : List MarkV) (va : Value) (xb : List MarkV) (vb : Value) (w : World) (hsa : SmallMarkS xa) (hsb : SmallMarkS xb) (hA : MarkSRd w va xa) (hB : MarkSRd w vb xb) :
    Calls Tryz.prog 107 #[va, vb] w fun e w' => e = .returned (.bool (aboveB orderOut xa xb)) ∧ Below w.heap.size w w' := by
  have HS := hide (fun W (bb : Below w.heap.size w W) => equalFunc_any xa va xb vb W hsa hsb (hA.up bb) (hB.up bb))
  have HO := hide (fun W (bb : Below w.heap.size w W) => implOrder_any xa va xb vb W hsa hsb (hA.up bb) (hB.up bb))
  obtain ⟨a, n, c, rfl⟩ := hA.form
  obtain ⟨a2, n2, c2, rfl⟩ := hB.form
  clear hA hB hsa hsb
  unfold aboveB
  generalize srcB xa xb = s at *
  generalize orderOut xa xb = o at *
  go_enter Tryz.func107, Tryz.ntmps107
  go_wp2_with fail
  refine (unhide HS _ (by go_grown)).mono ?_
  rintro e w1 ⟨rfl, b1⟩
  have B1 := hide (show Below w.heap.size w w1 from Below.trans (by go_grown) (b1.mono (by simp)))
  clear b1 HS
  cases s
  · go_wp2_with fail
    go_ret
    exact ⟨rfl, unhide B1⟩
  · go_wp2_with fail
    refine (unhide HO _ (unhide B1)).mono ?_
    rintro e w2 ⟨rfl, b2⟩
    have B2 := hide ((unhide B1).trans (b2.mono (unhide B1).size))
    clear b2
    go_wp2_with fail
    go_ret
    exact ⟨by simp, unhide B2⟩
end Go.Proofs.YtknkdbfgfcgkiaaGreatDoor
