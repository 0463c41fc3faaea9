/-
  The bodies that are heard when nothing comes any more.
-/
import Derived.Test.YtlgmmibncoedgaaSplitCol
import Derived.Test.YtlgmmibncoedgaaMerged11
set_option linter.unusedVariables false
namespace Go.Proofs.Ytlgmmibncoedgaa
open Go.RowKit Go.Maps Go.Deep Go.Shelf

attribute [local go_sem] Oper.semAt_some

def collD (D : Nat) : Deferred := { target := .collected D, args := #[] }
/-- what is left of earlier loops: blocks of no deferred calls -/
def DefOk (N : Nat) (W : World) (Ds : List Nat) : Prop := Ds.Nodup ∧ ∀ D ∈ Ds, N ≤ D ∧ W.heap[D]? = some (.deferred (some []))
theorem DefOk.lt {N : Nat} {W : World} {Ds : List Nat} (h : DefOk N W Ds) {D : Nat} (hD : D ∈ Ds) : D < W.heap.size := (Array.getElem?_eq_some_iff.1 (h.2 D hD).2).1
theorem DefOk.keep {N : Nat} {W W' : World} {Ds : List Nat} (h : DefOk N W Ds) (hk : ∀ D ∈ Ds, W'.heap[D]? = W.heap[D]?) : DefOk N W' Ds := ⟨h.1, fun D hD => ⟨(h.2 D hD).1, (hk D hD).trans (h.2 D hD).2⟩⟩
theorem DefOk.from {N : Nat} {W W' : World} {Ds : List Nat} (h : DefOk N W Ds) (hk : KeepsFrom N W W') : DefOk N W' Ds := h.keep fun D hD => by
  rw [hk.same D _ (h.2 D hD).1 (h.2 D hD).2 rfl, (h.2 D hD).2]
theorem DefOk.cons {N m D : Nat} {W : World} {Ds : List Nat} (h : DefOk N W Ds) (hm : ∀ D' ∈ Ds, D' < m) (hD : m ≤ D) (hN : N ≤ m) (hK : W.heap[D]? = some (.deferred (some []))) : DefOk N W (D :: Ds) := by
  refine ⟨List.nodup_cons.2 ⟨fun hh => by have := hm D hh; omega, h.1⟩, fun D' hD' => ?_⟩
  rcases List.mem_cons.1 hD' with rfl | hD'
  · exact ⟨by omega, hK⟩
  · exact h.2 D' hD'
theorem leaves_coll {F : Fence} {n N : Nat} {P : Program} {fn : Func} {tmps : Array Value} {R : Ending → World → Prop} (Z : World → Prop) (hZ : ∀ (W : World) (l : Nat) (o o' : Obj), N ≤ l → W.heap[l]? = some o → o.isCells = false → o.isWalk = false → Z W → Z (W.putObj l o')) (hR : ∀ W, Z W → ∃ v, (results fn tmps).run P W = .ok v W ∧ R (.returned v) W) :
    ∀ (Ds : List Nat) (W : World), DefOk N W Ds → Z W → LeavesInM F n P fn tmps R (Ds.map collD) .returning W := by
  intro Ds
  induction Ds with
  | nil => intro W _ hz; exact hR W hz
  | cons D Ds ih =>
    intro W hd hz
    obtain ⟨h1, h2⟩ := hd.2 D (by simp)
    refine ⟨by simp, .inl ⟨D, _, rfl, run_takeDeferred h2, ih _ ⟨(List.nodup_cons.1 hd.1).2, fun D' hD' => ?_⟩ (hZ W D _ _ h1 h2 rfl rfl hz)⟩⟩
    obtain ⟨k1, k2⟩ := hd.2 D' (by simp [hD'])
    exact ⟨k1, (World.putObj_heap_other (fun e => (List.nodup_cons.1 hd.1).1 (by rw [← e]; exact hD'))).trans k2⟩
theorem round_wide {n m k l : Nat} {P : Program} {f : FuncId} {tmps : Array Value} {assign body : Code} {w : World} {R : Ending → World → Prop} (h : RoundIn Fence.wide n P l f tmps assign body w R) : RoundIn (Fence.wide.inRound k) m P l f tmps assign body w R := ⟨h.1, fun c cs _ => h.2 c cs (room_wide _)⟩
/-- what is left behind all -/
def EndS (bs : List UInt8) (lost : Int) (Bg B : Nat) (pre : List SlV) (W : World) : Prop := BsIs B W (pre.map toV) (endW bs).1 ∧ ∃ a c, Lis W Bg a 0 c (lost + ((endW bs).2 : Int))
theorem endS_put {bs : List UInt8} {lost : Int} {Bg B m : Nat} (h2 : Bg < m) (xs : List SlV) (W : World) (l : Nat) (o o' : Obj) (hl : m ≤ l) (h : W.heap[l]? = some o) (hc : o.isCells = false) (hw : o.isWalk = false) (hs : EndS bs lost Bg B xs W) : EndS bs lost Bg B xs (W.putObj l o') := by
  obtain ⟨k0, k1, k2, _⟩ := kpS_put (n₀ := 0) (N := l + 1) (Nat.zero_le m) h2 W l o o' hl (by omega) h hc
  obtain ⟨s1, a, c, s2⟩ := hs
  exact ⟨s1.keepU k0.1, a, c, k2.trans s2⟩
/-- what stands while the inner loop goes on -/
structure EKeep (n₀ N l Bl Bg By : Nat) (Ds : List Nat) (w2 W : World) : Prop where
  kg : KeepG n₀ w2 W
  bl : Boxed W Bl 109 (.pointer (some ⟨Bg, 0, none⟩))
  by_ : Boxed W By 51 (.func (.yield l) #[] #[])
  ty : ∃ cur, W.heap[Bg]? = some (Obj.cells cur 76)
  ds : DefOk N W Ds
theorem EKeep.low {n₀ N l Bl Bg By : Nat} {Ds : List Nat} {w2 X Y : World} (h : EKeep n₀ N l Bl Bg By Ds w2 X) (h0 : n₀ ≤ w2.heap.size) (h1 : Bl < w2.heap.size) (h2 : Bg < w2.heap.size) (h3 : By < w2.heap.size) (h4 : ∀ D ∈ Ds, D < w2.heap.size) (hs : X.heap.size ≤ Y.heap.size) (hk : ∀ k, k < w2.heap.size → Y.heap[k]? = X.heap[k]?) : EKeep n₀ N l Bl Bg By Ds w2 Y := by
  obtain ⟨kg, bl, by_, ⟨cur, ty⟩, ds⟩ := h
  exact ⟨⟨⟨Nat.le_trans kg.1.1 hs, fun g cur hg => (hk g (Array.getElem?_eq_some_iff.1 hg).1).trans (kg.1.2 g cur hg)⟩, fun k hk' => (hk k (by omega)).trans (kg.2 k hk')⟩, (hk _ h1).trans bl, (hk _ h3).trans by_, ⟨cur, (hk _ h2).trans ty⟩, ds.keep fun D hD => hk D (h4 D hD)⟩
theorem EKeep.own {n₀ N l Bl Bg By : Nat} {Ds : List Nat} {w2 : World} {β : Type} (h0 : n₀ ≤ w2.heap.size) (h1 : Bl < w2.heap.size) (h2 : Bg < w2.heap.size) (h3 : By < w2.heap.size) (h4 : ∀ D ∈ Ds, D < w2.heap.size) : OwnFrom w2.heap.size (fun (_ : β) W => EKeep n₀ N l Bl Bg By Ds w2 W) := fun _ X Y row hs hg hr =>
  hs.low h0 h1 h2 h3 h4 hg.size (fun k hk => hg.block k (Nat.lt_of_lt_of_le hk hs.kg.1.1) (fun e => by have := (hr k e.symm).1; omega))
theorem EKeep.setB {n₀ N l Bl Bg By : Nat} {Ds : List Nat} {w2 X : World} (h : EKeep n₀ N l Bl Bg By Ds w2 X) (hn : n₀ ≤ Bg) (i : Nat) (v : Value) : EKeep n₀ N l Bl Bg By Ds w2 (X.setCell ⟨Bg, i, none⟩ v) := by
  obtain ⟨kg, bl, by_, ⟨cur, ty⟩, ds⟩ := h
  have other : ∀ k, k ≠ Bg → (X.setCell ⟨Bg, i, none⟩ v).heap[k]? = X.heap[k]? := fun k hk => Below.heap_setCell X ⟨Bg, i, none⟩ v k hk
  have h1 : Bl ≠ Bg := fun e => by
    rw [e] at bl
    rw [show X.heap[Bg]? = _ from bl] at ty
    simp at ty
  have h3 : By ≠ Bg := fun e => by
    rw [e] at by_
    rw [show X.heap[Bg]? = _ from by_] at ty
    simp at ty
  refine ⟨⟨⟨by simpa using kg.1.1, fun g c hg => ?_⟩, fun k hk => (other k (by omega)).trans (kg.2 k hk)⟩, (other _ h1).trans bl, (other _ h3).trans by_, ?_, ds.keep fun D hD => other D (fun e => ?_)⟩
  · have e1 := kg.1.2 g c hg
    refine (other g (fun e => ?_)).trans e1
    subst e
    rw [hg, ty] at e1
    simp at e1
  · obtain ⟨hlt, hk⟩ := Array.getElem?_eq_some_iff.1 ty
    exact ⟨_, by
      show (X.heap.modify Bg _)[Bg]? = _
      rw [Array.getElem?_eq_getElem (by rw [Array.size_modify]; exact hlt), Array.getElem_modify_self, hk]⟩
  · have := (ds.2 D hD).2
    rw [e, ty] at this
    cases this
theorem EKeep.kp {n₀ N l Bl Bg By : Nat} {Ds : List Nat} {w2 X Y : World} (h : EKeep n₀ N l Bl Bg By Ds w2 X) (hk : KpS n₀ Bg N X Y) : EKeep n₀ N l Bl Bg By Ds w2 Y := by
  obtain ⟨kg, bl, by_, ⟨cur, ty⟩, ds⟩ := h
  exact ⟨kg.trans hk.1, (hk.2.1 _ _ _ (.inl rfl) bl).trans bl, (hk.2.1 _ _ _ (.inr rfl) by_).trans by_, ⟨cur, hk.2.2.1.trans ty⟩, ds.from hk.2.2.2⟩
/-- the outer iterator at work -/
def ERel (n₀ N l Bl Bg By B : Nat) (bs : List UInt8) (lost : Int) (J : List SlV → World → Prop) (Ds : List Nat) (wr : World) : Prop := ∃ (pre : List SlV) (ns : List (List UInt8)) (cur : List UInt8) (q : Nat) (a' : Option Addr) (c' : Nat), Hid (ETo bs cur ns q) ∧ Hid (Lis wr Bg a' cur.length c' (lost + (q : Int))) ∧ Hid (EKeep n₀ N l Bl Bg By Ds wr wr) ∧ Hid (ByU n₀ wr (.slice a' cur.length c') cur) ∧ Hid (BsIs B wr (pre.map toV) ns) ∧ Hid (J pre wr) ∧ Hid (B ≤ wr.heap.size) ∧ Hid (N ≤ wr.heap.size)
theorem EKeep.re {n₀ N l Bl Bg By : Nat} {Ds : List Nat} {w2 W : World} (h : EKeep n₀ N l Bl Bg By Ds w2 W) : EKeep n₀ N l Bl Bg By Ds W W := ⟨KeepG.refl _ _, h.bl, h.by_, h.ty, h.ds⟩
/-- one byte passed over, and a new iterator made -/
theorem end_open {n₀ N l Bl Bg By B : Nat} {lost : Int} {J : List SlV → World → Prop} {Ds : List Nat} {wr : World} {pre : List SlV} {ns : List (List UInt8)} {cur : List UInt8} {q : Nat} {a' : Option Addr} {c' : Nat} (hn0 : n₀ ≤ Bg) (h0 : 1 ≤ cur.length) (hJ : ∀ pre X Y, J pre X → Below X.heap.size X Y → J pre Y) (hJw : ∀ pre X i v, J pre X → J pre (X.setCell ⟨Bg, i, none⟩ v))
    (hL : Lis wr Bg a' cur.length c' (lost + (q : Int))) (hK : EKeep n₀ N l Bl Bg By Ds wr wr) (hU : ByU n₀ wr (.slice a' cur.length c') cur) (hI : BsIs B wr (pre.map toV) ns) (hj : J pre wr) (w1 w2 : World) (hw1 : w1 = (wr.setCell ⟨Bg, 0, none⟩ (.slice (if c' = 1 then a' else a'.map (fun x => x.add 1)) (cur.length - 1) (c' - 1))).setCell ⟨Bg, 1, none⟩ (.int .i64 (lost + (q : Int) + 1))) (hw2 : w2 = w1.alloc (.cells #[.pointer (some ⟨Bg, 0, none⟩)] 109)) :
    w2.heap.size = wr.heap.size + 1 ∧ Lis w2 Bg (if c' = 1 then a' else a'.map (fun x => x.add 1)) (cur.drop 1).length (c' - 1) (lost + (q : Int) + 1) ∧ EKeep n₀ N l Bl Bg By Ds w2 w2 ∧ Boxed w2 wr.heap.size 109 (.pointer (some ⟨Bg, 0, none⟩)) ∧ ByU n₀ w2 (.slice (if c' = 1 then a' else a'.map (fun x => x.add 1)) (cur.drop 1).length (c' - 1)) (cur.drop 1) ∧ BsIs B w2 (pre.map toV) ns ∧ J pre w2 ∧ Boxed w1 Bl 109 (.pointer (some ⟨Bg, 0, none⟩)) := by
  have l1 := hL.set0 (if c' = 1 then a' else a'.map (fun x => x.add 1)) (cur.length - 1) (c' - 1)
  have l2 := l1.set1 (lost + (q : Int) + 1)
  have k1 := (hL.keepG hn0 0 (.slice (if c' = 1 then a' else a'.map (fun x => x.add 1)) (cur.length - 1) (c' - 1))).trans (l1.keepG hn0 1 (.int .i64 (lost + (q : Int) + 1)))
  have e1 := (hK.setB hn0 0 (.slice (if c' = 1 then a' else a'.map (fun x => x.add 1)) (cur.length - 1) (c' - 1))).setB hn0 1 (.int .i64 (lost + (q : Int) + 1))
  have j1 := hJw _ _ 1 (.int .i64 (lost + (q : Int) + 1)) (hJw _ _ 0 (.slice (if c' = 1 then a' else a'.map (fun x => x.add 1)) (cur.length - 1) (c' - 1)) hj)
  have hz : w1.heap.size = wr.heap.size := by rw [hw1]; simp
  rw [← hw1] at l2 k1 e1 j1
  have bl : Below w1.heap.size w1 w2 := by rw [hw2]; exact (Below.refl w1.heap.size w1).alloc (Nat.le_refl _) _
  have hg := hL.lt
  have hd := hU.drop 1 h0
  rw [List.length_drop]
  refine ⟨by rw [hw2]; simp [hz], l2.up bl, ?_, by rw [hw2, ← hz]; exact Boxed.new _ _ _, (hd.keepG k1).keepG (KeepG.below bl (by omega)), (hI.keepU k1.1).keepU (KeepU.below bl), hJ _ _ _ j1 bl, e1.bl⟩
  obtain ⟨_, b1, b2, ⟨cu, b3⟩, b4⟩ := e1
  exact ⟨KeepG.refl _ _, boxedU b1 bl, boxedU b2 bl, ⟨cu, (bl.block _ (by omega)).trans b3⟩, b4.keep fun D hD => bl.block D (b4.lt hD)⟩
theorem own_pre {N m : Nat} {J : List SlV → World → Prop} (pre : List SlV) (h : OwnFrom N J) (hm : N ≤ m) : OwnFrom m (fun pre' W => J (pre ++ pre') W) := fun s X Y row hs hg hr => h _ X Y row hs hg (fun k e => ⟨Nat.le_trans hm (hr k e).1, (hr k e).2⟩)
theorem own_def {N m : Nat} {Ds : List Nat} {β : Type} (h4 : ∀ D ∈ Ds, D < m) : OwnFrom m (fun (_ : β) W => DefOk N W Ds) := fun s X Y row hs hg hr => hs.keep fun D hD => hg.block D (hs.lt hD) (fun e => by have := (hr D e.symm).1; have := h4 D hD; omega)
theorem kpS_more {n₀ Bg N M : Nat} {A C : World} (h : KpS n₀ Bg N A C) (hM : N ≤ M) : KpS n₀ Bg M A C := ⟨h.1, h.2.1, h.2.2.1, kfMore h.2.2.2 hM⟩
/-- the round is over -/
theorem end_next {n₀ N l Bl Bg By B D : Nat} {bs : List UInt8} {lost : Int} {J : List SlV → World → Prop} {Ds : List Nat} {wr w2 W : World} {pre xs : List SlV} {ns : List (List UInt8)} {cur : List UInt8} {q Bk : Nat} {a' : Option Addr} {c' : Nat} (h0 : 1 ≤ cur.length) (hE : ETo bs cur ns q) (hL : Lis wr Bg a' cur.length c' (lost + (q : Int))) (hI : BsIs B w2 (pre.map toV) ns) (hB : B ≤ w2.heap.size) (hNN : N ≤ w2.heap.size) (h4 : ∀ D ∈ Ds, D < w2.heap.size)
    (hD : w2.heap.size ≤ D) (hS : BodS n₀ (cur.drop 1) (lost + (q : Int) + 1) Bk Bg w2.heap.size xs W) (hj : J (pre ++ xs) W) (hK : EKeep n₀ N l Bl Bg By Ds w2 W) (hKD : W.heap[D]? = some (.deferred (some []))) :
    ERel n₀ N l Bl Bg By B bs lost J (D :: Ds) W ∧ lenS W Bg < lenS wr Bg := by
  obtain ⟨s1, ⟨a, n, c, s2, s3⟩, s4⟩ := hS
  have hn : n = (walkW (cur.drop 1)).2.1.length := (by_len s3.rd).1
  subst hn
  have hw := (walk_len (cur.drop 1)).1
  rw [List.length_drop] at hw
  have hsz := hK.kg.1.1
  rw [lenS_lis s2, lenS_lis hL]
  refine ⟨⟨pre ++ xs, ns ++ (walkW (cur.drop 1)).1, (walkW (cur.drop 1)).2.1, q + 1 + (walkW (cur.drop 1)).2.2, a, c, hide (hE.step h0), hide ?_, hide ⟨KeepG.refl _ _, hK.bl, hK.by_, hK.ty, hK.ds.cons h4 hD hNN hKD⟩, hide s3, hide ?_, hide hj, hide (by omega), hide (by omega)⟩, by omega⟩
  · rw [show lost + ((q + 1 + (walkW (cur.drop 1)).2.2 : Nat) : Int) = lost + (q : Int) + 1 + ((walkW (cur.drop 1)).2.2 : Int) by omega]
    exact s2
  · rw [List.map_append]
    exact hI.append hK.kg.1 hB s1
set_option maxRecDepth 100000 in
set_option maxHeartbeats 8000000 in
theorem last1_in (n₀ n : Nat) (hn : 2 ≤ n) (l Bl Bg B : Nat) (hn0 : n₀ ≤ Bg) (bs : List UInt8) (hbs : bs.length ≤ 100000) (lost : Int) (hl0 : 0 ≤ lost) (hl1 : lost + (bs.length : Int) ≤ 9223372036854775807) (hne : Bl ≠ Bg)
    (J Jx : List SlV → World → Prop) (W0 : World) (hJ : OwnFrom W0.heap.size J) (hJx : OwnFrom W0.heap.size Jx) (hJw : ∀ pre X i v, J pre X → J pre (X.setCell ⟨Bg, i, none⟩ v))
    (hY : ∀ pre (x : SlV) W, J pre W → pre.length < bs.length + 1 → YieldAt Fence.wide (n - 1) Try.prog l #[toV x] W fun e W' => (e = .returned (.bool true) ∧ J (pre ++ [x]) W' ∧ KpS n₀ Bg W0.heap.size W W') ∨ (e = .returned (.bool false) ∧ Jx (pre ++ [x]) W' ∧ KeepsFrom W0.heap.size W W'))
    (a : Option Addr) (c : Nat) (hBW : B ≤ W0.heap.size) (hL : Lis W0 Bg a bs.length c lost) (hP : Boxed W0 Bl 109 (.pointer (some ⟨Bg, 0, none⟩))) (hU : ByU n₀ W0 (.slice a bs.length c) bs) (hj0 : J [] W0) :
    CallsIn Fence.wide n Try.prog 88 #[.func (.yield l) #[] #[], .pointer (some ⟨Bl, 0, none⟩)] W0 fun e W' => (∃ v, e = .returned v) ∧ ((∃ ys, EndS bs lost Bg B ys W' ∧ J ys W') ∨ (∃ pre, True ∧ Jx pre W')) := by
  have bW := (Below.refl W0.heap.size W0).alloc (Nat.le_refl _) (.cells #[.func (.yield l) #[] #[]] 51)
  have hgl := hL.lt
  have hll := hP.lt
  have START : ERel n₀ W0.heap.size l Bl Bg W0.heap.size B bs lost J [] (W0.alloc (.cells #[.func (.yield l) #[] #[]] 51)) :=
    ⟨[], [], bs, 0, a, c, hide (ETo.zero bs), hide (by simpa using hL.up bW), hide ⟨KeepG.refl _ _, boxedU hP bW, Boxed.new _ _ _, ⟨_, hL.up bW⟩, ⟨by simp, by simp⟩⟩, hide (hU.keepG (KeepG.below bW (by omega))), hide (BsIs.nil _ _), hide (hJ.alloc _ hj0), hide (by simp; omega), hide (by simp)⟩
  have ST := hide START
  have HJ := hide hJ
  have HJX := hide hJx
  have HJW := hide hJw
  have HY := hide hY
  have HLL := hide hl1
  clear hJ hY hJw hj0 hL hP hU START hJx bW
  obtain ⟨N, hN⟩ : ∃ N, N = W0.heap.size := ⟨_, rfl⟩
  refine callsIn_of_wp_marks Try.func88 rfl trivial ?_ rfl
  simp only [Try.ntmps88, List.size_toArray, List.length_cons, List.length_nil, Nat.reduceAdd, Nat.reduceSub, Array.replicate_succ, Array.replicate_zero, List.push_toArray, List.append_toArray, List.nil_append, List.cons_append]
  gi_wp2
  generalize W0.alloc (.cells #[.func (.yield l) #[] #[]] 51) = W1 at *
  rw [← hN] at HJ HJX HY ST hBW hgl hll ⊢
  clear hN
  refine wpIn_loop (fun a' wr => ∃ (u4 u5 u6 u7 u8 u9 u10 u11 u12 u13 u14 : Value) (Ds : List Nat), ERel n₀ N l Bl Bg N B bs lost J Ds wr ∧ a' = { tmps := #[.func (.yield l) #[] #[], .pointer (some ⟨Bl, 0, none⟩), .pointer (some ⟨N, 0, none⟩), undef, u4, u5, u6, u7, u8, u9, u10, u11, u12, u13, u14, undef, undef, undef, undef, undef], defers := Ds.map collD }) (fun _ wr => lenS wr Bg) ⟨_, _, _, _, _, _, _, _, _, _, _, [], unhide ST, rfl⟩ ?_
  rintro _ wr ⟨u4, u5, u6, u7, u8, u9, u10, u11, u12, u13, u14, Ds, ⟨pre, ns, cur, q, a', c', HE, HL, HK, HU, HI, HJs, HB, HNN⟩, rfl⟩
  clear ST
  have cP := (unhide HK).bl.cell
  have cL := (unhide HL).cells.1
  rcases Nat.eq_zero_or_pos cur.length with h0 | h0
  · have HZ := hide (show EndS bs lost Bg B pre wr ∧ J pre wr from ⟨⟨by rw [(unhide HE).done h0]; exact unhide HI, a', c', by rw [(unhide HE).done h0, ← h0]; exact unhide HL⟩, unhide HJs⟩)
    rw [h0] at cL
    gi_wp2
    refine leaves_coll (N := N) (fun W => EndS bs lost Bg B pre W ∧ J pre W) (fun W l o o' h1 h2 h3 h4 hz => ⟨endS_put (m := N) hgl pre W l o o' h1 h2 h3 h4 hz.1, (unhide HJ).putObj o' hz.2 h1 h2 h3⟩) (fun W hz => ⟨_, results_none rfl _ _ _, ⟨_, rfl⟩, .inl ⟨pre, hz⟩⟩) Ds wr (unhide HK).ds (unhide HZ)
  · have hcc : cur.length ≤ c' := (by_len (unhide HU).rd).2
    have he := (unhide HE).1
    have hll1 := unhide HLL
    have HPO := hide (passOver_any wr Bg a' cur.length c' (lost + (q : Int)) h0 hcc (by omega) (by omega) (by omega) (unhide HL))
    have HOP := hide (end_open hn0 h0 (abidesS (unhide HJ)) (unhide HJW) (unhide HL) (unhide HK) (unhide HU) (unhide HI) (unhide HJs))
    have hDs : ∀ D ∈ Ds, D < wr.heap.size := fun D hD => (unhide HK).ds.lt hD
    have HDS := hide hDs
    have HBN := hide (And.intro (unhide HB) (unhide HNN))
    have HGL := hide (unhide HL).lt
    have HBL := hide (unhide HK).bl.lt
    have HBY := hide (unhide HK).by_.lt
    have HLW := hide (unhide HL)
    have HPL := hide (show pre.length = ns.length by have := (unhide HI).len; simpa using this)
    clear hDs HL HK HU HI HJs HB HNN
    generalize hm : cur.length = m at *
    gi_wp2_with fail
    refine ⟨trivial, fun _ => by omega, ?_⟩
    refine (callsIn_wide.2 (unhide HPO)).mono ?_
    rintro e w1 ⟨rfl, hw1⟩
    have hz1 : w1.heap.size = wr.heap.size := by rw [hw1]; simp
    have HOP1 := hide (fun w2 hw2 => unhide HOP w1 w2 hw1 hw2)
    have cP1 : w1.cell? ⟨Bl, 0, none⟩ = some (.pointer (some ⟨Bg, 0, none⟩)) := (unhide HOP w1 _ hw1 rfl).2.2.2.2.2.2.2.cell
    clear hw1 HOP
    clear cP cL HPO
    gi_wp2_with fail
    refine ⟨trivial, fun _ => by omega, ?_⟩
    refine (callsIn_wide.2 (bodies_any w1 Bg)).mono ?_
    rintro e w2 ⟨rfl, hw2⟩
    have F2 := hide (unhide HOP1 w2 hw2)
    clear hw2 HOP1 cP1
    rw [hz1]
    clear hz1
    gi_wp2_with fail
    have hz2 := (unhide F2).1
    have hgw := unhide HGL
    have hlw := unhide HBL
    have hyw := unhide HBY
    have hbn := unhide HBN
    have hdl : (cur.drop 1).length = m - 1 := by rw [List.length_drop, hm]
    have HD2 := hide (fun D hD => (show D < w2.heap.size by have := unhide HDS D hD; omega))
    have SEQ := hide (bodies_stops n₀ (n - 1) (by omega) wr.heap.size Bg w2.heap.size hn0 (cur.drop 1) (by omega) (lost + (q : Int) + 1) (by omega) (by omega) (by omega) w2 (if c' = 1 then a' else a'.map (fun x => x.add 1)) (c' - 1) (Nat.le_refl _) (unhide F2).2.1 (unhide F2).2.2.2.1 (unhide F2).2.2.2.2.1)
    have K2 := hide (unhide F2).2.2.1
    have I2 := hide (unhide F2).2.2.2.2.2.1
    have J2 := hide (unhide F2).2.2.2.2.2.2.1
    clear F2
    refine range_ws rfl (by omega) (gf := 70) (lb := #[.pointer (some ⟨wr.heap.size, 0, none⟩)]) rfl trivial (enters_of Try.func70 (by kernel_rfl) rfl)
      (unhide SEQ) (by omega) kpS_t (kpS_b (by omega) (by omega)) (Below.refl _ _) (fun _ => rfl)
      (fun pre' W => J (pre ++ pre') W ∧ EKeep n₀ N l Bl Bg N Ds w2 W)
      (fun c pre' W => (c = .ret ∧ Jx (pre ++ pre') W) ∧ DefOk N W Ds)
      (OwnFrom.and (own_pre pre (unhide HJ) (by omega)) (EKeep.own (by omega) (by omega) (by omega) (by omega) (unhide HD2)))
      (fun c => OwnFrom.and (fun s X Y row hs hg hr => ⟨hs.1, own_pre pre (unhide HJX) (by omega) s X Y row hs.2 hg hr⟩) (own_def (unhide HD2)))
      (fun s X i v hs => ⟨unhide HJW _ _ i v hs.1, hs.2.setB hn0 i v⟩)
      (fun xs W l o o' h1 => bodS_put (m := w2.heap.size) (by omega) (by omega) xs W l o o' h1)
      ⟨by rw [List.append_nil]; exact unhide J2, unhide K2⟩
      (fun x a1 W => a1 = { tmps := #[.func (.yield l) #[] #[], .pointer (some ⟨Bl, 0, none⟩), .pointer (some ⟨N, 0, none⟩), toV x, .pointer (some ⟨Bg, 0, none⟩), .pointer (some ⟨Bg, 0, none⟩), .pointer (some ⟨Bg, 0, none⟩), .pointer (some ⟨Bg, 0, none⟩), .slice a' m c', .int .i64 (m : Int), .bool true, .pointer (some ⟨Bg, 0, none⟩), .tuple #[], .pointer (some ⟨Bg, 0, none⟩), .func (.func 70) #[] #[.pointer (some ⟨wr.heap.size, 0, none⟩)], toV x, undef, undef, undef, undef], defers := [] })
      (fun x a1 _ X Y row hs hg hr => hs)
      ?assign ?body ?done ?stop
    case assign =>
      rintro l' pre' x W K hI' hK
      gi_wp2
      exact hK _ _ (KeepsFrom.refl _ _) (kpS_refl _ _ _ _) hI' rfl
    case body =>
      rintro l' pre' x a1 W hl' ⟨rr, hrr⟩ ⟨hj, hE⟩ rfl hlt
      obtain ⟨xa, xn, xc⟩ := x
      have cY := hE.by_.cell
      have HE2 := hide hE
      have hpl := unhide HPL
      obtain ⟨fn, tmps, assign, body, hy, hR⟩ := unhide HY (pre ++ pre') (xa, xn, xc) W hj (by rw [List.length_append]; omega)
      have HR := hide hR
      have hNW : N ≤ w2.heap.size := by omega
      clear hE hR hj hrr hlt
      dsimp only [toV] at hy ⊢
      gi_wp2_with fail
      refine ⟨fun h => by simp [Fence.wide] at h, (round_wide (unhide HR)).mono ?_⟩
      rintro e W5 (⟨rfl, hJ5, hk5⟩ | ⟨rfl, hJx5, hk5⟩)
      · have FIN := hide (show KeepsFrom w2.heap.size W W5 ∧ KpS n₀ Bg (w2.heap.size + 2) W W5 ∧ J (pre ++ (pre' ++ [(xa, xn, xc)])) W5 ∧ EKeep n₀ N l Bl Bg N Ds w2 W5 from ⟨kfMore hk5.2.2.2 hNW, kpS_more hk5 (by omega), by rw [← List.append_assoc]; exact hJ5, (unhide HE2).kp hk5⟩)
        clear hJ5 hk5
        gi_wp2_with fail
        exact unhide FIN
      · have FIN := hide (show KeepsFrom w2.heap.size W W5 ∧ (Code.ret = Code.ret ∧ Jx (pre ++ (pre' ++ [(xa, xn, xc)])) W5) ∧ DefOk N W5 Ds from ⟨kfMore hk5 hNW, ⟨rfl, by rw [← List.append_assoc]; exact hJx5⟩, (unhide HE2).ds.from hk5⟩)
        clear hJx5 hk5
        gi_wp2_with fail
        obtain ⟨f1, ⟨_, f2⟩, f3⟩ := unhide FIN
        exact ⟨f1, ⟨rfl, f2⟩, f3⟩
    case done =>
      rintro D ys W hD hys ⟨hj, hE⟩ hK
      have FIN := hide (end_next (by omega) (unhide HE) (by rw [hm]; exact unhide HLW) (unhide I2) (by omega) (by omega) (unhide HD2) hD hys hj hE hK)
      clear hys hj hE hK
      gi_wp2
      exact ⟨⟨_, _, _, _, _, _, _, _, _, _, _, D :: Ds, (unhide FIN).1, rfl⟩, (unhide FIN).2⟩
    case stop =>
      rintro D c pre' W hD hpre ⟨⟨rfl, hx⟩, hd⟩ hK
      have HX := hide hx
      have HDD := hide (hd.cons (unhide HD2) hD (by omega) hK)
      clear hx hd hK
      gi_wp2
      exact leaves_coll (N := N) (fun W => Jx (pre ++ pre') W) (fun W l o o' h1 h2 h3 h4 hz => (unhide HJX).putObj o' hz h1 h2 h3) (fun W hz => ⟨_, results_none rfl _ _ _, ⟨_, rfl⟩, .inr ⟨_, trivial, hz⟩⟩) (D :: Ds) W (unhide HDD) (unhide HX)
theorem last_stops (n₀ n : Nat) (hn : 2 ≤ n) (Bl Bg B : Nat) (hn0 : n₀ ≤ Bg) (bs : List UInt8) (hbs : bs.length ≤ 100000) (lost : Int) (hl0 : 0 ≤ lost) (hl1 : lost + (bs.length : Int) ≤ 9223372036854775807) (hne : Bl ≠ Bg) (w : World) (a : Option Addr) (c : Nat) (hBW : B ≤ w.heap.size) (hL : Lis w Bg a bs.length c lost) (hP : Boxed w Bl 109 (.pointer (some ⟨Bg, 0, none⟩))) (hU : ByU n₀ w (.slice a bs.length c) bs) :
    SeqWs Fence.wide n Try.prog 88 #[.pointer (some ⟨Bl, 0, none⟩)] (fun x : SlV => #[toV x]) (KpS n₀ Bg) (EndS bs lost Bg B) (fun _ => True) (bs.length + 1) Bg w := fun l J Jx W hW hJ hJx hJw hY h0 =>
  last1_in n₀ n hn l Bl Bg B hn0 bs hbs lost hl0 hl1 hne J Jx W hJ hJx hJw hY a c (Nat.le_trans hBW hW.size) (hL.up hW) (boxedU hP hW) (hU.keepG (KeepG.below hW (by have := hL.lt; omega))) h0
theorem collectEnd_any (n₀ Bl Bg B : Nat) (hn0 : n₀ ≤ Bg) (bs : List UInt8) (hbs : bs.length ≤ 100000) (lost : Int) (hl0 : 0 ≤ lost) (hl1 : lost + (bs.length : Int) ≤ 9223372036854775807) (hne : Bl ≠ Bg) (w : World) (a : Option Addr) (c : Nat) (hBW : B ≤ w.heap.size) (hL : Lis w Bg a bs.length c lost) (hP : Boxed w Bl 109 (.pointer (some ⟨Bg, 0, none⟩))) (hU : ByU n₀ w (.slice a bs.length c) bs) :
    Calls Try.prog 43 #[.func (.func 88) #[] #[.pointer (some ⟨Bl, 0, none⟩)]] w fun e w' => RetCol (EndS bs lost Bg B) Bg w e w' := by
  have bl := (Below.refl w.heap.size w).alloc (Nat.le_refl _) (.cells #[.slice none 0 0] 36)
  have hg := hL.lt
  exact collect_gen _ _ (enters_of Try.func88 (by kernel_rfl) rfl) _ n₀ Bg (bs.length + 1) (by omega) w hg (by omega)
    (last_stops n₀ 2 (by omega) Bl Bg B hn0 bs hbs lost hl0 hl1 hne _ a c (Nat.le_trans hBW bl.size) (hL.up bl) (boxedU hP bl) (hU.keepG (KeepG.below bl (by omega))))
    (fun m xs W l o o' h1 h2 => endS_put (m := m) (by omega) xs W l o o' h2)
theorem lastBodies_any (w : World) (Bg : Nat) : Calls Try.prog 68 #[.pointer (some ⟨Bg, 0, none⟩)] w fun e w' => e = .returned (.func (.func 88) #[] #[.pointer (some ⟨w.heap.size, 0, none⟩)]) ∧ w' = w.alloc (.cells #[.pointer (some ⟨Bg, 0, none⟩)] 109) := by
  go_enter Try.func68, Try.ntmps68
  go_wp2_with fail
  go_ret
  exact ⟨rfl, rfl⟩
end Go.Proofs.Ytlgmmibncoedgaa
