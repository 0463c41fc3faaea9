/-
  LogRead of the program.
-/
import Derived.Test.YtcpjcdbhcllbiaaLogIter
import Derived.RangeFuncBox
import Derived.BigQuiet
import Derived.Deep.QuietTactic
set_option linter.unusedVariables false
namespace Go.Proofs.Ytcpjcdbhcllbiaa
open Go.RowKit Go.Maps Go.Deep Go.Shelf

attribute [local go_sem] Oper.semAt_some

theorem recordsOf_in (n : Nat) (a : Option Addr) (m c : Nat) (w : World) :
    CallsIn Fence.wide n Try.prog 18 #[.slice a m c] w fun e w' => e = .returned (.func (.func 27) #[] #[.pointer (some ⟨w.heap.size, 0, none⟩)]) ∧ w' = w.alloc (.cells #[.slice a m c] 22) := by
  refine callsIn_of_wp Try.func18 rfl trivial ?_ rfl
  simp only [Try.ntmps18, List.size_toArray, List.length_cons, List.length_nil, Nat.reduceAdd, Nat.reduceSub, Array.replicate_succ, Array.replicate_zero, List.push_toArray, List.append_toArray, List.nil_append, List.cons_append]
  gi_wp2
  go_ret
  exact ⟨rfl, rfl⟩
/-- a record in a box of its own -/
def BoxR (W : World) (B : Nat) (r : RecV) : Prop := W.heap[B]? = some (.cells #[.int .i64 r.kind, .string r.name, .int .i64 r.num, .string r.text] 32 (0, 0))
theorem boxR_cells {W : World} {B : Nat} {r : RecV} (h : BoxR W B r) : W.cell? ⟨B, 0, none⟩ = some (.int .i64 r.kind) ∧ W.cell? ⟨B, 1, none⟩ = some (.string r.name) ∧ W.cell? ⟨B, 2, none⟩ = some (.int .i64 r.num) ∧ W.cell? ⟨B, 3, none⟩ = some (.string r.text) := by
  refine ⟨?_, ?_, ?_, ?_⟩ <;> simp [World.cell?, show W.heap[B]? = _ from h]
theorem boxR_lt {W : World} {B : Nat} {r : RecV} (h : BoxR W B r) : B < W.heap.size := (Array.getElem?_eq_some_iff.1 h).1
theorem boxR_own (B : Nat) (r : RecV) : Own (fun (_ : Unit) W => BoxR W B r) := fun s X Y row hs hg hrow =>
  (hg.block B (Array.getElem?_eq_some_iff.1 hs).1 (fun e' => by obtain ⟨o, ho, hc⟩ := hrow B e'.symm; rw [show X.heap[B]? = _ from hs] at ho; cases ho; cases hc)).trans hs
theorem boxR_new (W : World) (r : RecV) : BoxR (W.alloc (.cells #[.int .i64 r.kind, .string r.name, .int .i64 r.num, .string r.text] 32)) W.heap.size r := heap_alloc_new W _
theorem boxR_up {W W' : World} {B : Nat} {r : RecV} (h : BoxR W B r) (hb : Below W.heap.size W W') : BoxR W' B r := (hb.block B (boxR_lt h)).trans h
theorem ownFrom_sizeR {α : Type} (B n : Nat) : OwnFrom B (fun (_ : α) W => n ≤ W.heap.size) := fun s W W' row hs hg hr => Nat.le_trans hs hg.size

theorem wpListIn_recAppend {F : Fence} {q : Nat} {w : World} {ops : Array Oper} {rest : List Oper} {o : Oper} {a : Act} {Q : Exit → Act → World → Prop} (hgd : o.guard = none) (s x : Operand)
    (ho : o.op = .call { callee := .builtin .append, args := #[s, x], argTypes := #[23, 23] }) (B : Nat) (v : Value) (ns : List RecV) (y : RecV) (g : Nat) (hs : a.eval s = v) (hx : a.eval x = .slice (some ⟨g, 0, none⟩) 1 1)
    (hv : RcRow B w v ns) (c0 : w.cell? ⟨g, 0, none⟩ = some (.int .i64 y.kind)) (c1 : w.cell? ⟨g, 1, none⟩ = some (.string y.name)) (c2 : w.cell? ⟨g, 2, none⟩ = some (.int .i64 y.num)) (c3 : w.cell? ⟨g, 3, none⟩ = some (.string y.text)) (hl : ns.length ≤ 1000000) (hB : B ≤ w.heap.size)
    (h : ∀ g' n c w', RcRow B w' (.slice (some ⟨g', 0, none⟩) n c) (ns ++ [y]) → n = ns.length + 1 → w.grownBy w' v.ownBlock → wpListIn F q Try.prog ops Q rest (a.put o.dst (.slice (some ⟨g', 0, none⟩) n c)) w') : wpListIn F q Try.prog ops Q (o :: rest) a w := by
  obtain ⟨i0, hi, hz0, hz1, hz2⟩ := info_parts1 infoRc
  refine wpListIn_plain hgd fun K hK' => ?_
  obtain ⟨g', cap, w', hrun, r1, r2, _, _⟩ := run_append_lies (P := Try.prog) (w := w) 23 o.type B 32 i0 _ 4 48 Try.underlying23 hi hz0 hz1 hz2 rfl (by decide) v ns.length (rcCells ns) hv ⟨g, 0, none⟩ 1 1 [.int .i64 y.kind, .string y.name, .int .i64 y.num, .string y.text] rfl (news_rec c0 c1 c2 c3) (by intro u hu; simp at hu; rcases hu with rfl | rfl | rfl | rfl <;> rfl) (by decide) (by unfold maxLen; omega) (by omega) hB w.heap.size rfl
  have r1' : RcRow B w' (.slice (some ⟨g', 0, none⟩) (ns.length + 1) cap) (ns ++ [y]) := by
    unfold RcRow
    rw [rcCells_snoc, List.length_append]
    exact r1
  unfold Oper.wpIn
  refine ⟨?_, ?_⟩
  · simp [Oper.about, ho, resolve, Target.leads, Sem.run_pure]
  · rw [Oper.semAt_plain F _ _ (by rw [ho]; intro c hc'; cases hc')]
    simp [execOp, ho, resolve, invoke, builtin, hs, hx, hrun, Result.andThen]
    exact hK' _ _ (h g' _ cap w' r1' rfl r2)
theorem offs_le (ys : List RdP) : offs (ys.map fun x : RdP => x.1) ≤ ys.length * 1048576 := by
  induction ys with
  | nil => simp [offs]
  | cons x xs ih =>
    have := x.2
    simp only [List.map_cons, offs, List.sum_cons, List.length_cons] at ih ⊢
    omega
def logSet (R0 : Nat) (v : Value) (q : Int) (w3 : World) : World := (w3.setCell ⟨R0, 0, none⟩ v).setCell ⟨R0 + 1, 0, none⟩ (.int .i64 q)
theorem log_leaf {w W w3 : World} {N0 : Nat} {rs : List RecV} {r : RecV} {v v' : Value} {p q : Int} {T1 T2 : TypeId} (hz0 : w.heap.size + 3 ≤ W.heap.size) (bR : Boxed W w.heap.size T1 v) (bE : Boxed W (w.heap.size + 1) T2 (.int .i64 p)) (hrw : RcRow (w.heap.size + 3) W v rs) (hB : Below w.heap.size w W)
    (hr3 : RcRow (w.heap.size + 3) w3 v' (rs ++ [r])) (hg3 : (W.alloc (.cells #[.int .i64 r.kind, .string r.name, .int .i64 r.num, .string r.text] 32)).grownBy w3 v.ownBlock) :
    (w3.cell? ⟨w.heap.size, 0, none⟩ = some v ∧ w3.frozen? ⟨w.heap.size, 0, none⟩ = false ∧ w3.cell? ⟨w.heap.size + 1, 0, none⟩ = some (.int .i64 p) ∧ w3.frozen? ⟨w.heap.size + 1, 0, none⟩ = false) ∧
      KeepsFrom N0 W (logSet w.heap.size v' q w3) ∧ Keep (w.heap.size + 3) [w.heap.size, w.heap.size + 1] W (logSet w.heap.size v' q w3) ∧ Boxed (logSet w.heap.size v' q w3) w.heap.size T1 v' ∧ RcRow (w.heap.size + 3) (logSet w.heap.size v' q w3) v' (rs ++ [r]) ∧ Boxed (logSet w.heap.size v' q w3) (w.heap.size + 1) T2 (.int .i64 q) ∧ Below w.heap.size w (logSet w.heap.size v' q w3) ∧ w.heap.size + 3 ≤ (logSet w.heap.size v' q w3).heap.size := by
  have nb : ∀ k, v.ownBlock = some k → w.heap.size + 3 ≤ k := fun k hk => hrw.ge k hk
  have hsz := hg3.size
  simp only [World.size_alloc] at hsz
  have keep : ∀ k, k < w.heap.size + 3 → w3.heap[k]? = W.heap[k]? := fun k hk => (hg3.block k (by simp; omega) (fun e => by have := nb k e.symm; omega)).trans (Below.heap_alloc _ _ _ (by omega))
  have bR3 : Boxed w3 w.heap.size T1 v := (keep _ (by omega)).trans bR
  have bE3 : Boxed w3 (w.heap.size + 1) T2 (.int .i64 p) := (keep _ (by omega)).trans bE
  have TT : Turn [w.heap.size, w.heap.size + 1] w3 (logSet w.heap.size v' q w3) := ((Turn.refl _ _).setCell (by simp) _ _).setCell (by simp) _ _
  have hB3 : Below w.heap.size w w3 := (hB.alloc (by omega) _).grown hg3 (by simp; omega) (fun k hk => by have := nb k hk; omega)
  have hzs := TT.size
  have ko : KeepsOthers W w3 := (KeepsOthers.alloc W _).trans (KeepsOthers.of_grownBy hg3 (fun j o e hj => by
    rcases hrw.2 with ⟨rfl, _⟩ | ⟨g', cap, cur, rfl, hB', hh, _⟩
    · simp [Value.ownBlock] at e
    · simp only [Value.ownBlock, Option.some.injEq] at e
      subst e
      rw [Below.heap_alloc _ _ _ (Array.getElem?_eq_some_iff.1 hh).1, hh] at hj
      cases hj
      rfl))
  refine ⟨⟨bR3.cell, bR3.frozen, bE3.cell, bE3.frozen⟩, ((ko.trans (KeepsOthers.setCell _ _ _)).trans (KeepsOthers.setCell _ _ _)).from _, ⟨by omega, fun k hk hS => ?_⟩, ?_, ?_, ?_, hB3.trans (TT.below hB3.size (by simp)), by omega⟩
  · exact (TT.block k (by omega) hS).trans (keep k hk)
  · exact (bR3.set v').other (by omega) _
  · exact hr3.keep fun k hk => TT.block k (hr3.lt k hk) (by have := hr3.ge k hk; simp; omega)
  · exact (bE3.other (by omega) _).set _
set_option maxRecDepth 100000 in
set_option maxHeartbeats 8000000 in
theorem implLog_in (bs : List UInt8) (a : Option Addr) (c : Nat) (w : World) (hbs : bs.length ≤ 1048576) (hc : bs.length ≤ c) (hin : ByIn w a bs) :
    CallsIn Fence.wide 3 Try.prog 7 #[.slice a bs.length c] w fun e w' => RetLogR bs w e w' := by
  have bR := (Boxed.new w 23 (.slice none 0 0)).alloc (.cells #[.int .i64 0] 3)
  have bE := Boxed.new (w.alloc (.cells #[.slice none 0 0] 23)) 3 (.int .i64 0)
  have bl := ((Below.refl w.heap.size w).alloc (Nat.le_refl _) (.cells #[.slice none 0 0] 23)).alloc (by simp) (.cells #[.int .i64 0] 3)
  have hz1 : ((w.alloc (.cells #[.slice none 0 0] 23)).alloc (.cells #[.int .i64 0] 3)).heap.size = w.heap.size + 2 := by simp
  rw [World.size_alloc] at bE
  refine callsIn_of_wp_marks Try.func7 rfl trivial ?_ rfl
  simp only [Try.ntmps7, List.size_toArray, List.length_cons, List.length_nil, Nat.reduceAdd, Nat.reduceSub, Array.replicate_succ, Array.replicate_zero, List.push_toArray, List.append_toArray, List.nil_append, List.cons_append]
  gi_wp2_with fail
  refine ⟨trivial, ?_⟩
  generalize (w.alloc (.cells #[.slice none 0 0] 23)).alloc (.cells #[.int .i64 0] 3) = w1 at *
  refine (recordsOf_in 2 a bs.length c w1).mono ?_
  rintro e W0 ⟨rfl, hW0⟩
  have bA := Boxed.new w1 22 (.slice a bs.length c)
  rw [← hW0, hz1] at bA
  have hs0 : W0.heap.size = w.heap.size + 3 := by rw [hW0]; simp; omega
  have b0 : Below w1.heap.size w1 W0 := by rw [hW0]; exact (Below.refl _ _).alloc (Nat.le_refl _) _
  have bR0 := boxed_on bR b0
  have bE0 := boxed_on bE b0
  have bl0 := bl.trans (b0.mono (by omega))
  have hK0 : ByK W0 (w.heap.size + 3) [w.heap.size + 2, w.heap.size, w.heap.size + 1] a bs := by
    rcases hin with h | ⟨b, off, e, hb, h⟩
    · exact .inl h
    · exact .inr ⟨b, off, e, by omega, by simp; omega, fun i hi => (bl0.cell (p := ⟨b, off + i, none⟩) hb).trans (h i hi)⟩
  rw [hz1]
  clear hW0 b0 bR bE bl hin
  gi_wp2_with fail
  refine range_wr rfl (by omega) (gf := 27) (lb := #[.pointer (some ⟨w.heap.size + 2, 0, none⟩)]) rfl trivial (enters_of Try.func27 (by kernel_rfl) rfl)
    (recs_stops 2 (by omega) (w.heap.size + 2) (w.heap.size + 3) a c bs hbs hc [w.heap.size, w.heap.size + 1] (by omega) (by simp) W0 (by omega) hK0 bA) (by omega) keepK_t (keepK_b (by omega)) (Below.refl _ _) (fun _ => rfl)
    (fun pre W => ((∃ v, Boxed W w.heap.size 23 v ∧ W.ownsRow (w.heap.size + 3) 32 4 v (pre.map fun x : RdP => x.1.1).length (rcCells (pre.map fun x : RdP => x.1.1)) ∧ pre.length < 200) ∧ Boxed W (w.heap.size + 1) 3 (.int .i64 (offs (pre.map fun x : RdP => x.1) : Int))) ∧ Below w.heap.size w W ∧ w.heap.size + 3 ≤ W.heap.size)
    (fun c pre W => ((∃ v, Boxed W w.heap.size 23 v ∧ W.ownsRow (w.heap.size + 3) 32 4 v (pre.map fun x : RdP => x.1.1).length (rcCells (pre.map fun x : RdP => x.1.1)) ∧ (c = .exit 0 ∧ pre.length = 200)) ∧ Boxed W (w.heap.size + 1) 3 (.int .i64 (offs (pre.map fun x : RdP => x.1) : Int))) ∧ Below w.heap.size w W)
    (OwnFrom.and (OwnFrom.and (Own.from (holdsRow_own _ _ _ _ _ (fun (pre : List RdP) => (pre.map fun x : RdP => x.1.1).length) (fun (pre : List RdP) => rcCells (pre.map fun x : RdP => x.1.1)) (fun (pre : List RdP) _ => pre.length < 200)) _) (Own.from (boxed_own _ _ (fun (pre : List RdP) => .int .i64 (offs (pre.map fun x : RdP => x.1) : Int))) _)) (OwnFrom.and (ownFrom_below (Nat.le_refl _) (by omega)) (ownFrom_sizeR _ _)))
    (fun c => OwnFrom.and (OwnFrom.and (Own.from (holdsRow_own _ _ _ _ _ (fun (pre : List RdP) => (pre.map fun x : RdP => x.1.1).length) (fun (pre : List RdP) => rcCells (pre.map fun x : RdP => x.1.1)) (fun (pre : List RdP) _ => c = .exit 0 ∧ pre.length = 200)) _) (Own.from (boxed_own _ _ (fun (pre : List RdP) => .int .i64 (offs (pre.map fun x : RdP => x.1) : Int))) _)) (ownFrom_below (Nat.le_refl _) (by omega)))
    ?iw
    ⟨⟨⟨_, bR0, RcRow.nil _ _, by simp⟩, bE0⟩, bl0, by omega⟩
    (fun x a' W => ∃ Bx, w.heap.size + 2 < Bx ∧ BoxR W Bx x.1.1 ∧ a' = { tmps := #[.slice a bs.length c, undef, .slice none 0 0, .int .i64 0, .pointer (some ⟨w.heap.size, 0, none⟩), .pointer (some ⟨w.heap.size + 1, 0, none⟩), .pointer (some ⟨Bx, 0, none⟩), .int .i64 (x.1.2 : Int), .slice a bs.length c, .func (.func 27) #[] #[.pointer (some ⟨w.heap.size + 2, 0, none⟩)], .agg #[.int .i64 x.1.1.kind, .string x.1.1.name, .int .i64 x.1.1.num, .string x.1.1.text], .int .i64 (x.1.2 : Int), undef, undef, undef, undef, undef, undef, undef, undef, undef, undef, undef, undef], defers := [] })
    (fun x a' _ X Y row hs hg hr => by obtain ⟨Bx, e1, e2, e3⟩ := hs; exact ⟨Bx, e1, boxR_own Bx x.1.1 () X Y row e2 hg (fun r e => (hr r e).2), e3⟩)
    ?assign ?body ?done ?stop
  case iw =>
    rintro pre X u ⟨⟨⟨v, b1, r1, h1⟩, b2⟩, hB, hz⟩
    have r1' : RcRow (w.heap.size + 3) X v (pre.map fun x : RdP => x.1.1) := r1
    exact ⟨⟨⟨v, b1.other (by omega) _, r1'.keep (fun k hk => Below.heap_setCell X ⟨w.heap.size + 2, 0, none⟩ u k (by have := r1'.ge k hk; show k ≠ w.heap.size + 2; omega)), h1⟩, b2.other (by omega) _⟩, hB.setCell (p := ⟨w.heap.size + 2, 0, none⟩) (by simp) _, by simpa using hz⟩
  case assign =>
    rintro l pre x W K ⟨⟨⟨v, b1, r1, h1⟩, b2⟩, hB, hz⟩ hK
    simp only [encR]
    gi_wp2
    exact hK _ _ ((KeepsOthers.alloc _ _).from _) ((Keep.refl _ _ W).alloc (by omega) _) ⟨⟨⟨v, b1.alloc _, r1.alloc _, h1⟩, b2.alloc _⟩, hB.alloc (by omega) _, by simp; omega⟩ ⟨W.heap.size, by omega, boxR_new W _, rfl⟩
  case body =>
    rintro l pre x a' W hl ⟨rr, hrr⟩ ⟨⟨⟨v, b1, r1, h1⟩, b2⟩, hB, hz⟩ ⟨Bx, hBx, bX, rfl⟩ hlt
    have r1' : RcRow (w.heap.size + 3) W v (pre.map fun x : RdP => x.1.1) := r1
    obtain ⟨av, cv, hv⟩ := r1'.slice
    rw [List.length_map] at hv
    subst hv
    have hxs := x.2
    have hol := offs_le pre
    have HPM := hide (show (pre ++ [x]).map (fun x : RdP => x.1.1) = pre.map (fun x : RdP => x.1.1) ++ [x.1.1] by simp)
    have HPO := hide (show offs ((pre ++ [x]).map (fun x : RdP => x.1)) = offs (pre.map (fun x : RdP => x.1)) + x.1.2 by rw [List.map_append]; exact offs_snoc _ _)
    have HPL := hide (show (pre ++ [x]).length = pre.length + 1 by simp)
    have LEAF := hide (fun (w3 : World) (g2 n2 c2 : Nat) (hr3 : RcRow (w.heap.size + 3) w3 (.slice (some ⟨g2, 0, none⟩) n2 c2) (pre.map (fun x : RdP => x.1.1) ++ [x.1.1])) (hg3 : (W.alloc (.cells #[.int .i64 x.1.1.kind, .string x.1.1.name, .int .i64 x.1.1.num, .string x.1.1.text] 32)).grownBy w3 (Value.slice av pre.length cv).ownBlock) => log_leaf (N0 := W0.heap.size) (q := (offs (pre.map fun x : RdP => x.1) : Int) + (x.1.2 : Int)) hz b1 b2 r1' hB hr3 hg3)
    have cR := b1.cell
    have fR := b1.frozen
    have cE := b2.cell
    have fE := b2.frozen
    obtain ⟨x0, x1, x2, x3⟩ := boxR_cells bX
    obtain ⟨y0, y1, y2, y3⟩ := (boxF_new W [.int .i64 x.1.1.kind, .string x.1.1.name, .int .i64 x.1.1.num, .string x.1.1.text] 32).1.four
    have R1 := hide (r1'.up ((Below.refl _ _).alloc (Nat.le_refl _) (.cells #[.int .i64 x.1.1.kind, .string x.1.1.name, .int .i64 x.1.1.num, .string x.1.1.text] 32)))
    have HLM := hide (show (pre.map (fun x : RdP => x.1.1)).length = pre.length from List.length_map _)
    have n1 : ¬ (w.heap.size = w.heap.size + 1) := by omega
    have n2' : ¬ (w.heap.size + 1 = w.heap.size) := by omega
    have hp1 : ((offs (pre.map fun x : RdP => x.1) : Nat) : Int) ≤ 300000000 := by omega
    have hx1 : ((x.1.2 : Nat) : Int) ≤ 1048576 := by omega
    clear r1 r1' b1 b2 bX hol hK0 bA bR0 bE0
    unfold logSet at LEAF
    generalize hrs : pre.map (fun x : RdP => x.1.1) = rs at *
    generalize hpp : offs (pre.map fun x : RdP => x.1) = p at *
    clear hrs hpp
    by_cases hfull : pre.length = 199
    · have q1 : (((pre.length + 1 : Nat) : Int) == 200) = true := by rw [hfull]; rfl
      have HFU := hide hfull
      clear hfull h1
      have h1 : pre.length < 1000 := by have := unhide HFU; omega
      gi_wp2_with (first
        | (gi_at_builtin; have _g := R1; refine wpListIn_recAppend rfl _ _ rfl (w.heap.size + 3) (.slice av pre.length cv) rs x.1.1 W.heap.size rfl rfl (unhide R1) y0 y1 y2 y3 (by rw [unhide HLM]; omega) (by simp; omega) ?_; intro g2 m2 c2 w3 hr3 hm2 hg3; rw [unhide HLM] at hm2; subst hm2; obtain ⟨⟨d1, d2, d3, d4⟩, KEY⟩ := unhide LEAF w3 g2 _ c2 hr3 hg3; clear hr3 hg3 R1)
        | fail)
      obtain ⟨k1, k2, k3, k4, k5, k6, k7⟩ := KEY
      refine ⟨k1, ⟨⟨_, k3, by rw [unhide HPM]; exact k4, rfl, by rw [unhide HPL, unhide HFU]⟩, by rw [unhide HPO, Int.natCast_add]; exact k5⟩, k6⟩
    · have q1 : (((pre.length + 1 : Nat) : Int) == 200) = false := by rw [beq_eq_false_iff_ne]; omega
      gi_wp2_with (first
        | (gi_at_builtin; have _g := R1; refine wpListIn_recAppend rfl _ _ rfl (w.heap.size + 3) (.slice av pre.length cv) rs x.1.1 W.heap.size rfl rfl (unhide R1) y0 y1 y2 y3 (by rw [unhide HLM]; omega) (by simp; omega) ?_; intro g2 m2 c2 w3 hr3 hm2 hg3; rw [unhide HLM] at hm2; subst hm2; obtain ⟨⟨d1, d2, d3, d4⟩, KEY⟩ := unhide LEAF w3 g2 _ c2 hr3 hg3; clear hr3 hg3 R1)
        | fail)
      obtain ⟨k1, k2, k3, k4, k5, k6, k7⟩ := KEY
      refine ⟨k1, k2, ⟨⟨_, k3, by rw [unhide HPM]; exact k4, by rw [unhide HPL]; omega⟩, by rw [unhide HPO, Int.natCast_add]; exact k5⟩, k6, k7⟩
  case done =>
    rintro D ys W hD hys ⟨⟨⟨v, b1, r1, h1⟩, b2⟩, hB, hz⟩ hK
    have r1' : RcRow (w.heap.size + 3) W v (ys.map fun x : RdP => x.1.1) := r1
    obtain ⟨av, cv, hv⟩ := r1'.slice
    rw [List.length_map] at hv
    subst hv
    have HE := hide (lg_none (RdTo.lg _ _ rfl (by simp; omega) hys.1) (by simp; omega) hys.2)
    simp only [List.map_map] at HE
    have R1 := hide (show RcRow w.heap.size W (.slice av ys.length cv) (ys.map ((fun x : RecV × Nat => x.1) ∘ fun x : RdP => x.1)) from r1'.mono (by omega))
    have cR := b1.cell
    have cE := b2.cell
    gi_wp2_with fail
    refine wpIn_wide.2 ?_
    go_quiet (fail)
    gi_wp2
    have hK' : (W.drewN nq).heap[D]? = some (.deferred (some [])) := hK
    refine ⟨by simp, .inl ⟨_, _, rfl, run_takeDeferred hK', ?_⟩⟩
    refine ⟨.tuple #[.slice av ys.length cv, .int .i64 (offs (ys.map fun x : RdP => x.1) : Int)], by simp [results, Try.f7, go_sem], ?_⟩
    have KEEP : ∀ k, k ≠ D → ((W.drewN nq).putObj D (.deferred none)).heap[k]? = W.heap[k]? := fun k hk => World.putObj_heap_other (by omega)
    refine ⟨_, by rw [(unhide HE).2], ?_, (hB.trans (below_drewN (Below.refl _ _) nq)).trans (belowK_b (w := w) (Nat.le_refl _) (W.drewN nq) D _ _ (by omega) hK' rfl rfl)⟩
    rw [(unhide HE).1]
    refine hide ((unhide R1).keep fun k hk => KEEP k (fun e => ?_))
    subst e
    rcases (unhide R1).2 with ⟨h0, _⟩ | ⟨g', cap, cur, h0, _, hh, _⟩
    · rw [h0] at hk; simp [Value.ownBlock] at hk
    · rw [h0] at hk
      simp only [Value.ownBlock, Option.some.injEq] at hk
      subst hk
      rw [hK] at hh
      cases hh
  case stop =>
    rintro D c pre W hD hpre ⟨⟨⟨v, b1, r1, rfl, h2⟩, b2⟩, hB⟩ hK
    have r1' : RcRow (w.heap.size + 3) W v (pre.map fun x : RdP => x.1.1) := r1
    obtain ⟨av, cv, hv⟩ := r1'.slice
    rw [List.length_map] at hv
    subst hv
    have HE := hide (lg_full (by have h := RdTo.lg _ _ rfl (by simp; omega) hpre; rwa [List.length_map, h2] at h))
    simp only [List.map_map] at HE
    clear h2
    have R1 := hide (show RcRow w.heap.size W (.slice av pre.length cv) (pre.map ((fun x : RecV × Nat => x.1) ∘ fun x : RdP => x.1)) from r1'.mono (by omega))
    have cR := b1.cell
    have cE := b2.cell
    gi_wp2_with fail
    refine wpIn_wide.2 ?_
    go_quiet (fail)
    gi_wp2
    have hK' : (W.drewN nq).heap[D]? = some (.deferred (some [])) := hK
    refine ⟨by simp, .inl ⟨_, _, rfl, run_takeDeferred hK', ?_⟩⟩
    refine ⟨.tuple #[.slice av pre.length cv, .int .i64 (offs (pre.map fun x : RdP => x.1) : Int)], by simp [results, Try.f7, go_sem], ?_⟩
    have KEEP : ∀ k, k ≠ D → ((W.drewN nq).putObj D (.deferred none)).heap[k]? = W.heap[k]? := fun k hk => World.putObj_heap_other (by omega)
    refine ⟨_, by rw [(unhide HE).2], ?_, (hB.trans (below_drewN (Below.refl _ _) nq)).trans (belowK_b (w := w) (Nat.le_refl _) (W.drewN nq) D _ _ (by omega) hK' rfl rfl)⟩
    rw [(unhide HE).1]
    refine hide ((unhide R1).keep fun k hk => KEEP k (fun e => ?_))
    subst e
    rcases (unhide R1).2 with ⟨h0, _⟩ | ⟨g', cap, cur, h0, _, hh, _⟩
    · rw [h0] at hk; simp [Value.ownBlock] at hk
    · rw [h0] at hk
      simp only [Value.ownBlock, Option.some.injEq] at hk
      subst hk
      rw [hK] at hh
      cases hh
theorem implLogRead_any (bs : List UInt8) (v : Value) (w : World) (hl : bs.length ≤ 1048576) (h : ByRd w v bs) : Calls Try.prog 7 #[v] w fun e w' => RetLogR bs w e w' := by
  obtain ⟨a, c, rfl, hin, hc⟩ := h
  exact (callsIn_wide (n := 3)).1 (implLog_in bs a c w hl hc hin)
end Go.Proofs.Ytcpjcdbhcllbiaa
