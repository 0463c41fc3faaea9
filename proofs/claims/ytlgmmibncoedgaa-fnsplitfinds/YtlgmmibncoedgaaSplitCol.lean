/-
  All that an iterator of bodies tells, put into a row (slices.Collect).
-/
import Derived.Test.YtlgmmibncoedgaaSplitBod
import Derived.RangeFuncBox
import Derived.BigQuiet
import Derived.Deep.QuietTactic
set_option linter.unusedVariables false
namespace Go.Proofs.Ytlgmmibncoedgaa
open Go.RowKit Go.Maps Go.Deep Go.Shelf

attribute [local go_sem] Oper.semAt_some

theorem wpListIn_bvAppend {F : Fence} {q : Nat} {w : World} {ops : Array Oper} {rest : List Oper} {o : Oper} {a : Act} {Q : Exit → Act → World → Prop} (hgd : o.guard = none) (s x : Operand)
    (ho : o.op = .call { callee := .builtin .append, args := #[s, x], argTypes := #[36, 36] }) (B : Nat) (v : Value) (vs : List Value) (ya : Option Addr) (yn yc : Nat) (g : Nat) (hs : a.eval s = v) (hx : a.eval x = .slice (some ⟨g, 0, none⟩) 1 1)
    (hv : BvRow B w v vs) (c0 : w.cell? ⟨g, 0, none⟩ = some (.slice ya yn yc)) (hl : vs.length ≤ 1000000) (hB : B ≤ w.heap.size)
    (h : ∀ g' n c w', BvRow B w' (.slice (some ⟨g', 0, none⟩) n c) (vs ++ [.slice ya yn yc]) → n = vs.length + 1 → w.grownBy w' v.ownBlock → wpListIn F q Try.prog ops Q rest (a.put o.dst (.slice (some ⟨g', 0, none⟩) n c)) w') : wpListIn F q Try.prog ops Q (o :: rest) a w := by
  obtain ⟨i0, hi, hz0, hz1, hz2⟩ := infoBv_parts infoBv
  refine wpListIn_plain hgd fun K hK' => ?_
  obtain ⟨g', cap, w', hrun, r1, r2, _, _⟩ := run_append_lies (P := Try.prog) (w := w) 36 o.type B 22 i0 _ 1 24 Try.underlying36 hi hz0 hz1 hz2 rfl (by decide) v vs.length vs hv ⟨g, 0, none⟩ 1 1 [.slice ya yn yc] rfl (news_bv c0) (by intro u hu; simp at hu; rw [hu]; rfl) (by decide) (by unfold maxLen; omega) (by omega) hB w.heap.size rfl
  have r1' : BvRow B w' (.slice (some ⟨g', 0, none⟩) (vs.length + 1) cap) (vs ++ [.slice ya yn yc]) := by
    unfold BvRow
    rw [List.length_append]
    exact r1
  unfold Oper.wpIn
  refine ⟨?_, ?_⟩
  · simp [Oper.about, ho, resolve, Target.leads, Sem.run_pure]
  · rw [Oper.semAt_plain F _ _ (by rw [ho]; intro c hc'; cases hc')]
    simp [execOp, ho, resolve, invoke, builtin, hs, hx, hrun, Result.andThen]
    exact hK' _ _ (h g' _ cap w' r1' rfl r2)
theorem ownFrom_turnS {α : Type} {B : Nat} {S : List Nat} {w₀ : World} (hB : w₀.heap.size ≤ B) : OwnFrom B (fun (_ : α) W => Turn S w₀ W) := fun s X Y row hs hg hr => by
  cases row with
  | none => exact hs.trans (Turn.of_below (S := S) ⟨hg.os, hg.tape, hg.output, hg.size, fun k hk => hg.block k hk (by simp)⟩)
  | some k =>
    have h1 : Turn (S ++ [k]) w₀ Y := (hs.mono (fun q hq => .inl (by simp [hq]))).trans (Turn.of_grown hg (by simp))
    exact h1.mono (fun q hq => by
      rcases List.mem_append.1 hq with hq | hq
      · exact .inl hq
      · simp at hq
        subst hq
        exact .inr (Nat.le_trans hB (hr q rfl).1))
theorem ownFrom_sizeS {α : Type} (B n : Nat) : OwnFrom B (fun (_ : α) W => n ≤ W.heap.size) := fun s W W' row hs hg hr => Nat.le_trans hs hg.size
theorem keepU_put {w W : World} {l : Nat} {o o' : Obj} (h : W.heap[l]? = some o) (hc : o.isCells = false) : KeepU W (W.putObj l o') := ⟨by simp, fun g cur hg => World.putObj_heap_other (fun e => by
  subst e
  rw [h] at hg
  cases hg
  cases hc)⟩
theorem kpS_t {n₀ Bg N : Nat} {A C D : World} (h : KpS n₀ Bg N A C) (k : KpS n₀ Bg N C D) : KpS n₀ Bg N A D := ⟨h.1.trans k.1, fun g t cur ht hg => by
  have h1 := h.2.1 g t cur ht hg
  exact (k.2.1 g t cur ht (h1.trans hg)).trans h1, k.2.2.1.trans h.2.2.1, h.2.2.2.trans k.2.2.2⟩
theorem kpS_refl (n₀ Bg N : Nat) (A : World) : KpS n₀ Bg N A A := ⟨KeepG.refl _ _, fun _ _ _ _ _ => rfl, rfl, KeepsFrom.refl _ _⟩
theorem kpS_put {n₀ Bg m N : Nat} (h0 : n₀ ≤ m) (h2 : Bg < m) (W : World) (l : Nat) (o o' : Obj) (hl : m ≤ l) (hl2 : l < N) (h : W.heap[l]? = some o) (hc : o.isCells = false) : KpS n₀ Bg N W (W.putObj l o') :=
  ⟨⟨keepU_put (w := W) h hc, fun k hk => World.putObj_heap_other (by omega)⟩, fun g t cur ht hg => World.putObj_heap_other (fun e => by
    subst e
    rw [h] at hg
    cases hg
    cases hc), World.putObj_heap_other (by omega), KeepsFrom.of_grownBy (grownBy_putObj' W l o') (fun j e => by cases e; exact hl2)⟩
theorem kpS_b {n₀ Bg : Nat} {w : World} (h0 : n₀ ≤ w.heap.size) (h2 : Bg < w.heap.size) (W : World) (l : Nat) (o o' : Obj) (hl : w.heap.size ≤ l) (hl2 : l < w.heap.size + 2) (h : W.heap[l]? = some o) (hc : o.isCells = false) (hw : o.isWalk = false) : KpS n₀ Bg (w.heap.size + 2) W (W.putObj l o') := kpS_put h0 h2 W l o o' hl hl2 h hc
theorem bodS_put {n₀ : Nat} {bs : List UInt8} {lost : Int} {Bl Bg B m : Nat} (h0 : n₀ ≤ m) (h2 : Bg < m) (xs : List SlV) (W : World) (l : Nat) (o o' : Obj) (hl : m ≤ l) (h : W.heap[l]? = some o) (hc : o.isCells = false) (hw : o.isWalk = false) (hs : BodS n₀ bs lost Bl Bg B xs W) : BodS n₀ bs lost Bl Bg B xs (W.putObj l o') := by
  obtain ⟨k0, k1, k2, _⟩ := kpS_put (N := l + 1) h0 h2 W l o o' hl (by omega) h hc
  obtain ⟨s1, ⟨a, n, c, s2, s3⟩, s4⟩ := hs
  exact ⟨s1.keepU k0.1, ⟨a, n, c, k2.trans s2, s3.keepG k0⟩, (k1 _ _ _ (.inl rfl) s4).trans s4⟩
theorem keepU_box {w : World} {Bs : Nat} {v : Value} (h : Boxed w Bs 36 v) (u : Value) : KeepU w (w.setCell ⟨Bs, 0, none⟩ u) :=
  ⟨by simp, fun g cur hg => Below.heap_setCell w ⟨Bs, 0, none⟩ u g (fun e => by
    have e' : g = Bs := e
    subst e'
    rw [show w.heap[g]? = _ from h] at hg
    simp at hg)⟩
theorem col_leaf {w W w3 : World} {n₀ N0 N Bg : Nat} {vs : List Value} {x v v' : Value} (hz0 : w.heap.size + 1 ≤ W.heap.size) (hn0 : n₀ ≤ w.heap.size) (hBg : Bg < w.heap.size) (bS : Boxed W w.heap.size 36 v) (hrw : BvRow (w.heap.size + 1) W v vs) (hT : Turn [Bg] w W)
    (hr3 : BvRow (w.heap.size + 1) w3 v' (vs ++ [x])) (hg3 : (W.alloc (.cells #[x] 22)).grownBy w3 v.ownBlock) :
    (w3.cell? ⟨w.heap.size, 0, none⟩ = some v ∧ w3.frozen? ⟨w.heap.size, 0, none⟩ = false) ∧
      KeepsFrom N0 W (w3.setCell ⟨w.heap.size, 0, none⟩ v') ∧ KpS n₀ Bg N W (w3.setCell ⟨w.heap.size, 0, none⟩ v') ∧ Boxed (w3.setCell ⟨w.heap.size, 0, none⟩ v') w.heap.size 36 v' ∧ BvRow (w.heap.size + 1) (w3.setCell ⟨w.heap.size, 0, none⟩ v') v' (vs ++ [x]) ∧ Turn [Bg] w (w3.setCell ⟨w.heap.size, 0, none⟩ v') ∧ w.heap.size + 1 ≤ (w3.setCell ⟨w.heap.size, 0, none⟩ v').heap.size := by
  have nb : ∀ k, v.ownBlock = some k → w.heap.size + 1 ≤ k := fun k hk => hrw.ge k hk
  have hsz := hg3.size
  simp only [World.size_alloc] at hsz
  have keep : ∀ k, k < w.heap.size + 1 → w3.heap[k]? = W.heap[k]? := fun k hk => (hg3.block k (by simp; omega) (fun e => by have := nb k e.symm; omega)).trans (Below.heap_alloc _ _ _ (by omega))
  have bS3 : Boxed w3 w.heap.size 36 v := (keep _ (by omega)).trans bS
  have TS : Turn [w.heap.size] w3 (w3.setCell ⟨w.heap.size, 0, none⟩ v') := (Turn.refl _ _).setCell (by simp) _ _
  have hrA : BvRow (w.heap.size + 1) (W.alloc (.cells #[x] 22)) v vs := hrw.up ((Below.refl _ _).alloc (Nat.le_refl _) _)
  have ku : KeepU W (w3.setCell ⟨w.heap.size, 0, none⟩ v') := ((KeepU.below ((Below.refl W.heap.size W).alloc (Nat.le_refl _) _)).trans (KeepU.grown hg3 hrA.typed)).trans (keepU_box bS3 v')
  have ko : KeepsOthers W w3 := (KeepsOthers.alloc W _).trans (KeepsOthers.of_grownBy hg3 (fun j o e hj => by
    obtain ⟨cur, hc⟩ := hrA.typed j e
    rw [hc] at hj
    cases hj
    rfl))
  have low : ∀ k, k < w.heap.size → (w3.setCell ⟨w.heap.size, 0, none⟩ v').heap[k]? = W.heap[k]? := fun k hk => (TS.block k (by omega) (by simp; omega)).trans (keep k (by omega))
  have kl : ∀ (k : Nat) (t : TypeId) (cur : Array Value), (t = 109 ∨ t = 51) → W.heap[k]? = some (Obj.cells cur t) → (w3.setCell ⟨w.heap.size, 0, none⟩ v').heap[k]? = W.heap[k]? := fun k t cur ht hk => by
    have hkl : k < W.heap.size := (Array.getElem?_eq_some_iff.1 hk).1
    have k1 : (W.alloc (.cells #[x] 22)).heap[k]? = W.heap[k]? := Below.heap_alloc _ _ _ hkl
    have k2 : w3.heap[k]? = W.heap[k]? := (hg3.block k (by simp; omega) (fun e => by
      obtain ⟨c2, hc2⟩ := hrA.typed k e.symm
      rw [k1, hk] at hc2
      simp only [Option.some.injEq, Obj.cells.injEq] at hc2
      obtain ⟨_, et, _⟩ := hc2
      rcases ht with rfl | rfl <;> exact absurd et (by decide))).trans k1
    refine (TS.block k (by omega) (fun e => ?_)).trans k2
    simp only [List.mem_singleton] at e
    subst e
    rw [show W.heap[w.heap.size]? = _ from bS] at hk
    simp only [Option.some.injEq, Obj.cells.injEq] at hk
    obtain ⟨_, et, _⟩ := hk
    rcases ht with rfl | rfl <;> exact absurd et (by decide)
  refine ⟨⟨bS3.cell, bS3.frozen⟩, (ko.trans (KeepsOthers.setCell _ _ _)).from _, ⟨⟨ku, fun k hk => low k (by omega)⟩, kl, low _ hBg, (ko.trans (KeepsOthers.setCell _ _ _)).from _⟩, bS3.set v', hr3.keep fun k hk => TS.block k (hr3.lt k hk) (by have := hr3.ge k hk; simp; omega), ?_, by simp; omega⟩
  have t1 : Turn ([Bg] ++ [w.heap.size]) w (w3.setCell ⟨w.heap.size, 0, none⟩ v') := by
    have t2 : Turn [Bg] w w3 := ⟨hg3.os.trans hT.os, hg3.tape.trans hT.tape, hg3.output.trans hT.output, by have := hT.size; omega, fun k hk hS => (keep k (by omega)).trans (hT.block k hk hS)⟩
    exact (t2.mono (fun q hq => .inl (by simp at hq; simp [hq]))).trans (TS.mono (fun q hq => .inl (by simp at hq; simp [hq])))
  exact t1.mono (fun q hq => by
    simp at hq
    rcases hq with rfl | rfl
    · exact .inl (by simp)
    · exact .inr (Nat.le_refl _))
theorem BvRow.mono1 {B : Nat} {w : World} {v : Value} {vs : List Value} (h : BvRow (B + 1) w v vs) : BvRow B w v vs := by
  refine ⟨h.1, ?_⟩
  rcases h.2 with h0 | ⟨g, cap, cur, e, hb, r⟩
  · exact .inl h0
  · exact .inr ⟨g, cap, cur, e, by omega, r⟩
def RetCol (S : List SlV → World → Prop) (Bg : Nat) (w : World) (e : Ending) (w' : World) : Prop := ∃ a n c pre, e = .returned (.slice a n c) ∧ Hid (BvRow w.heap.size w' (.slice a n c) (pre.map toV)) ∧ Hid (S pre w') ∧ Hid (Turn [Bg] w w')
set_option maxRecDepth 100000 in
set_option maxHeartbeats 8000000 in
theorem appendSeq_in (gf : Nat) (lb : Array Value) (eg : ∀ args w, (callFunc gf args).run Try.prog w = .ok (.enter gf args) w) (S : List SlV → World → Prop) (n₀ Bg N : Nat) (hN : N ≤ 200000) (w : World) (hgl : Bg < w.heap.size) (hnl : n₀ ≤ w.heap.size)
    (hseq : SeqWs Fence.wide 2 Try.prog gf lb (fun x : SlV => #[toV x]) (KpS n₀ Bg) S (fun _ => True) N Bg (w.alloc (.cells #[.slice none 0 0] 36)))
    (hSb : ∀ (m : Nat) (xs : List SlV) (W : World) (l : Nat) (o o' : Obj), w.heap.size ≤ m → m ≤ l → W.heap[l]? = some o → o.isCells = false → o.isWalk = false → S xs W → S xs (W.putObj l o')) :
    CallsIn Fence.wide 3 Try.prog 69 #[.slice none 0 0, .func (.func gf) #[] lb] w fun e w' => RetCol S Bg w e w' := by
  have bS := Boxed.new w 36 (.slice none 0 0)
  have bl := (Below.refl w.heap.size w).alloc (Nat.le_refl _) (.cells #[.slice none 0 0] 36)
  have hz1 : (w.alloc (.cells #[.slice none 0 0] 36)).heap.size = w.heap.size + 1 := by simp
  have SEQ := hide hseq
  have TT := hide (show Turn [Bg] w _ from Turn.of_below bl)
  have EG := hide eg
  have HSB := hide hSb
  clear hseq eg hSb
  refine callsIn_of_wp_marks Try.func69 rfl trivial ?_ rfl
  simp only [Try.ntmps69, List.size_toArray, List.length_cons, List.length_nil, Nat.reduceAdd, Nat.reduceSub, Array.replicate_succ, Array.replicate_zero, List.push_toArray, List.append_toArray, List.nil_append, List.cons_append]
  gi_wp2_with fail
  generalize w.alloc (.cells #[.slice none 0 0] 36) = w1 at *
  have hB1 : Bg < w1.heap.size := by omega
  have hL1 : n₀ ≤ w1.heap.size := by omega
  refine range_ws rfl (by omega) (gf := gf) (lb := lb) rfl trivial (unhide EG)
    (unhide SEQ) hB1 kpS_t (kpS_b hL1 hB1) (Below.refl _ _) (fun _ => rfl)
    (fun pre W => (∃ v, Boxed W w.heap.size 36 v ∧ W.ownsRow (w.heap.size + 1) 22 1 v (pre.map toV).length (pre.map toV) ∧ pre.length ≤ N) ∧ Turn [Bg] w W ∧ w.heap.size + 1 ≤ W.heap.size)
    (fun _ _ _ => False)
    (OwnFrom.and (Own.from (holdsRow_own _ _ _ _ _ (fun (pre : List SlV) => (pre.map toV).length) (fun (pre : List SlV) => pre.map toV) (fun (pre : List SlV) _ => pre.length ≤ N)) _) (OwnFrom.and (ownFrom_turnS (by omega)) (ownFrom_sizeS _ _)))
    (fun c s X Y row hs _ _ => hs)
    ?iw (fun xs W l o o' h1 => unhide HSB w1.heap.size xs W l o o' (by omega) h1)
    ⟨⟨_, bS, BvRow.nil _ _, by simp⟩, unhide TT, by omega⟩
    (fun x a' W => a' = { tmps := #[.slice none 0 0, .func (.func gf) #[] lb, .pointer (some ⟨w.heap.size, 0, none⟩), undef, .slice none 0 0, toV x, .func (.func gf) #[] lb, toV x, undef, undef, undef, undef, undef], defers := [] })
    (fun x a' _ X Y row hs hg hr => hs)
    ?assign ?body ?done ?stop
  case iw =>
    rintro pre X i u ⟨⟨v, b1, r1, h1⟩, hT, hz⟩
    have r1' : BvRow (w.heap.size + 1) X v (pre.map toV) := r1
    exact ⟨⟨v, boxedS b1 (by omega), r1'.keep (fun k hk => Below.heap_setCell X ⟨Bg, i, none⟩ u k (by have := r1'.ge k hk; show k ≠ Bg; omega)), h1⟩, hT.trans ((Turn.refl [Bg] X).setCell (g := Bg) (by simp) i u), by simpa using hz⟩
  case assign =>
    rintro l pre x W K ⟨⟨v, b1, r1, h1⟩, hT, hz⟩ hK
    gi_wp2
    exact hK _ _ ((KeepsOthers.refl _).from _) (kpS_refl _ _ _ _) ⟨⟨v, b1, r1, h1⟩, hT, hz⟩ rfl
  case body =>
    rintro l pre x a' W hl ⟨rr, hrr⟩ ⟨⟨v, b1, r1, h1⟩, hT, hz⟩ rfl hlt
    have r1' : BvRow (w.heap.size + 1) W v (pre.map toV) := r1
    obtain ⟨av, cv, hv⟩ := r1'.form
    rw [List.length_map] at hv
    subst hv
    obtain ⟨xa, xn, xc⟩ := x
    have HPM := hide (show (pre ++ [(xa, xn, xc)]).map toV = pre.map toV ++ [.slice xa xn xc] by rw [List.map_append]; rfl)
    have HPL := hide (show (pre ++ [(xa, xn, xc)]).length ≤ N by simp; omega)
    have LEAF := hide (fun (w3 : World) (g2 n2 c2 : Nat) (hr3 : BvRow (w.heap.size + 1) w3 (.slice (some ⟨g2, 0, none⟩) n2 c2) (pre.map toV ++ [.slice xa xn xc])) (hg3 : (W.alloc (.cells #[.slice xa xn xc] 22)).grownBy w3 (Value.slice av pre.length cv).ownBlock) => col_leaf (N0 := w1.heap.size) (N := w1.heap.size + 2) hz hnl hgl b1 r1' hT hr3 hg3)
    have R1 := hide (r1'.up ((Below.refl _ _).alloc (Nat.le_refl _) (.cells #[.slice xa xn xc] 22)))
    have C1 := hide (show (W.alloc (.cells #[.slice xa xn xc] 22)).cell? ⟨W.heap.size, 0, none⟩ = some (.slice xa xn xc) from World.cell?_alloc_at _ _ _ _ rfl)
    have HVL := hide (show (pre.map toV).length ≤ 1000000 by rw [List.length_map]; omega)
    have HLM := hide (show (pre.map toV).length = pre.length from List.length_map _)
    have HZ1 := hide (show w.heap.size + 1 ≤ (W.alloc (.cells #[.slice xa xn xc] 22)).heap.size by simp; omega)
    have cR := b1.cell
    have fR := b1.frozen
    dsimp only [toV]
    clear r1 r1' b1 hT
    generalize hrs : pre.map toV = rs at *
    clear hrs
    gi_wp2_with (first
      | (gi_at_builtin; refine wpListIn_bvAppend rfl _ _ rfl (w.heap.size + 1) (.slice av pre.length cv) rs xa xn xc W.heap.size rfl rfl (unhide R1) (unhide C1) (unhide HVL) (unhide HZ1) ?_; intro g2 m2 c2 w3 hr3 hm2 hg3; rw [unhide HLM] at hm2; subst hm2; obtain ⟨⟨d1, d2⟩, KEY⟩ := unhide LEAF w3 g2 _ c2 hr3 hg3; clear hr3 hg3 R1)
      | fail)
    obtain ⟨k1, k2, k3, k4, k5, k6⟩ := KEY
    refine ⟨k1, k2, ⟨⟨_, k3, by rw [unhide HPM]; exact k4, unhide HPL⟩, k5, k6⟩⟩
  case done =>
    rintro D ys W hD hys ⟨⟨v, b1, r1, h1⟩, hT, hz⟩ hK
    have r1' : BvRow (w.heap.size + 1) W v (ys.map toV) := r1
    obtain ⟨av, cv, hv⟩ := r1'.form
    rw [List.length_map] at hv
    subst hv
    have R1 := hide r1'
    have cR := b1.cell
    clear r1 r1' b1
    gi_wp2_with fail
    have KEEP : ∀ k, k ≠ D → (W.putObj D (.deferred none)).heap[k]? = W.heap[k]? := fun k hk => World.putObj_heap_other (by omega)
    refine ⟨by simp, .inl ⟨_, _, rfl, run_takeDeferred hK, ?_⟩⟩
    refine ⟨.slice av ys.length cv, by simp [results, Try.f69, go_sem], ?_⟩
    refine ⟨av, ys.length, cv, ys, rfl, hide (BvRow.mono1 ((unhide R1).keep fun k hk => KEEP k (fun e => ?_))), hide (unhide HSB w1.heap.size ys W D _ _ (by omega) hD hK rfl rfl hys), hide ((ownFrom_turnS (α := Unit) (S := [Bg]) (w₀ := w) (B := w1.heap.size) (by omega)).putObj (s := ()) _ hT hD hK rfl)⟩
    subst e
    obtain ⟨cur, hc⟩ := (unhide R1).typed k hk
    rw [hK] at hc
    cases hc
  case stop =>
    rintro D c pre W hD hpre hx hK
    exact hx.elim
theorem collect_gen (gf : Nat) (lb : Array Value) (eg : ∀ args w, (callFunc gf args).run Try.prog w = .ok (.enter gf args) w) (S : List SlV → World → Prop) (n₀ Bg N : Nat) (hN : N ≤ 200000) (w : World) (hgl : Bg < w.heap.size) (hnl : n₀ ≤ w.heap.size)
    (hseq : SeqWs Fence.wide 2 Try.prog gf lb (fun x : SlV => #[toV x]) (KpS n₀ Bg) S (fun _ => True) N Bg (w.alloc (.cells #[.slice none 0 0] 36)))
    (hSb : ∀ (m : Nat) (xs : List SlV) (W : World) (l : Nat) (o o' : Obj), w.heap.size ≤ m → m ≤ l → W.heap[l]? = some o → o.isCells = false → o.isWalk = false → S xs W → S xs (W.putObj l o')) :
    Calls Try.prog 43 #[.func (.func gf) #[] lb] w fun e w' => RetCol S Bg w e w' := by
  have HA := hide ((callsIn_wide (n := 3)).1 (appendSeq_in gf lb eg S n₀ Bg N hN w hgl hnl hseq hSb))
  clear hseq eg hSb
  go_enter Try.func43, Try.ntmps43
  go_wp2_with fail
  refine (unhide HA).mono ?_
  rintro e w1 ⟨xa, xn, xc, pre, rfl, h1, h2, h3⟩
  go_wp2_with fail
  go_ret
  exact ⟨_, _, _, pre, rfl, h1, h2, h3⟩
theorem collect_any (n₀ Bl Bg B : Nat) (hn0 : n₀ ≤ Bg) (bs : List UInt8) (hbs : bs.length ≤ 100000) (lost : Int) (hl0 : 0 ≤ lost) (hl1 : lost + (bs.length : Int) ≤ 9223372036854775807) (hne : Bl ≠ Bg) (w : World) (a : Option Addr) (c : Nat) (hBW : B ≤ w.heap.size) (hL : Lis w Bg a bs.length c lost) (hP : Boxed w Bl 109 (.pointer (some ⟨Bg, 0, none⟩))) (hU : ByU n₀ w (.slice a bs.length c) bs) :
    Calls Try.prog 43 #[.func (.func 70) #[] #[.pointer (some ⟨Bl, 0, none⟩)]] w fun e w' => RetCol (BodS n₀ bs lost Bl Bg B) Bg w e w' := by
  have bl := (Below.refl w.heap.size w).alloc (Nat.le_refl _) (.cells #[.slice none 0 0] 36)
  have hg := hL.lt
  exact collect_gen _ _ (enters_of Try.func70 (by kernel_rfl) rfl) _ n₀ Bg (bs.length + 1) (by omega) w hg (by omega)
    (bodies_stops n₀ 2 (by omega) Bl Bg B hn0 bs hbs lost hl0 hl1 hne _ a c (Nat.le_trans hBW bl.size) (hL.up bl) (boxedU hP bl) (hU.keepG (KeepG.below bl (by omega))))
    (fun m xs W l o o' h1 h2 => bodS_put (m := m) (by omega) (by omega) xs W l o o' h2)
theorem bodies_any (w : World) (Bg : Nat) : Calls Try.prog 44 #[.pointer (some ⟨Bg, 0, none⟩)] w fun e w' => e = .returned (.func (.func 70) #[] #[.pointer (some ⟨w.heap.size, 0, none⟩)]) ∧ w' = w.alloc (.cells #[.pointer (some ⟨Bg, 0, none⟩)] 109) := by
  go_enter Try.func44, Try.ntmps44
  go_wp2_with fail
  go_ret
  exact ⟨rfl, rfl⟩
end Go.Proofs.Ytlgmmibncoedgaa
