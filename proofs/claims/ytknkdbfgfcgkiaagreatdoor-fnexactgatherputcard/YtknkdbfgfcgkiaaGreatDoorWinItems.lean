/-
  The program's window handed out as items of their own.
-/
import Derived.Test.YtknkdbfgfcgkiaaGreatDoorMerged25
import Derived.Test.YtknkdbfgfcgkiaaGreatDoorMerged19
import Derived.Test.YtknkdbfgfcgkiaaGreatDoorMerged10
import Derived.Test.YtknkdbfgfcgkiaaGreatDoorMerged22
set_option linter.unusedVariables false
namespace Go.Proofs.YtknkdbfgfcgkiaaGreatDoor
open Go.RowKit Go.Maps Go.Deep Go.Shelf

attribute [local go_sem] Oper.semAt_some

theorem wpListIn_make_all {F : Fence} {q : Nat} {P : Program} (w : World) {ops : Array Oper} {rest : List Oper} {o : Oper} {a : Act} {Q : Exit → Act → World → Prop}
    (hg : o.guard = none) (l c : Operand) (t : TypeId) (hop : o.op = Op.makeSlice t l c)
    (base : Nat) (e : TypeId) (i : TypeInfo) (z : Value) (size : Nat) (h1 : P.underlying t = some (.slice e)) (h2 : P.info? e = some i) (h3 : i.zero = some z) (h4 : i.size = size)
    (kl kc : IntKind) (L C : Int) (n : Nat) (hl : a.eval l = .int kl L) (hc : a.eval c = .int kc C) (hL : L = (n : Int)) (hC : C = (n : Int)) (b2 : i.bytes * n ≤ 281474976710656) (b3 : n ≤ maxLen) (b4 : base ≤ w.heap.size)
    (hK : ∀ w', w'.ownsRow base e size (.slice (some ⟨w.heap.size, 0, none⟩) n n) n (madeCells z.cells (n * size)).toList → w.grownBy w' none → wpListIn F q P ops Q rest (a.put o.dst (.slice (some ⟨w.heap.size, 0, none⟩) n n)) w') :
    wpListIn F q P ops Q (o :: rest) a w := by
  refine wpListIn_plain hg fun K hK' => ?_
  obtain ⟨w', hrun, r1, r2⟩ := run_make_full (P := P) w base t e i z size h1 h2 h3 h4 kl kc n b2 b3 b4
  subst hL
  subst hC
  unfold Oper.wpIn
  refine ⟨?_, ?_⟩
  · simp [Oper.about, hop]
  · rw [Oper.semAt_plain F _ _ (by rw [hop]; intro c hc'; cases hc')]
    simp [execOp, hop, hl, hc, hrun, Result.andThen]
    exact hK' _ _ (hK w' r1 r2)
/-- the cells of a row at these places are the items; each one's marks lie in a row of their own -/
def ItemsTo (B : Nat) (W : World) (zs : List Value) (ns : List ItemV) (pre : List Nat) : Prop :=
  ∃ U : Nat → Value, (∀ i (h : i < ns.length), i ∈ pre → zs[i * 2]? = some (.int .i64 ns[i].a0) ∧ zs[i * 2 + 1]? = some (U i) ∧ MkRow (B + 1) W (U i) ns[i].a1) ∧ ∀ i j, i < ns.length → j < ns.length → i ∈ pre → j ∈ pre → i ≠ j → ∀ b, (U i).ownBlock = some b → (U j).ownBlock ≠ some b
theorem MkRow.cells {B : Nat} {w : World} {v : Value} {ns : List MarkV} (h : MkRow B w v ns) : ∀ g, v.ownBlock = some g → ∃ o : Obj, w.heap[g]? = some o ∧ o.isCells = true := by
  intro g hg
  rcases h.2 with ⟨rfl, _⟩ | ⟨g', cap, cur, rfl, hB, hh, _⟩
  · simp [Value.ownBlock] at hg
  · simp [Value.ownBlock] at hg; subst hg; exact ⟨_, hh, rfl⟩
theorem ItemsTo.nil (B : Nat) (W : World) (zs : List Value) (ns : List ItemV) : ItemsTo B W zs ns [] := ⟨fun _ => .slice none 0 0, fun i h hi => by simp at hi, fun i j _ _ hi => by simp at hi⟩
theorem ItemsTo.keep {B : Nat} {W W' : World} {zs : List Value} {ns : List ItemV} {pre : List Nat} (h : ItemsTo B W zs ns pre) (hk : ∀ g o, W.heap[g]? = some o → o.isCells = true → B < g → W'.heap[g]? = W.heap[g]?) : ItemsTo B W' zs ns pre := by
  obtain ⟨U, h1, h2⟩ := h
  refine ⟨U, fun i hi hp => ?_, h2⟩
  obtain ⟨c0, c1, hm⟩ := h1 i hi hp
  refine ⟨c0, c1, hm.keep fun g hg => ?_⟩
  obtain ⟨o, ho, hc⟩ := hm.cells g hg
  exact hk g o ho hc (hm.ge g hg)
theorem ItemsTo.step {B : Nat} {W W5 W6 : World} {zs : List Value} {ns : List ItemV} {pre : List Nat} {x : Nat} {u : Value} (h : ItemsTo B W zs ns pre) (hb : Below W.heap.size W W5) (ht : Turn [B] W5 W6) (hB : B < W.heap.size) (hx : x < ns.length) (hz : zs.length = ns.length * 2) (hu : MkRow W.heap.size W5 u ns[x].a1) :
    ItemsTo B W6 ((zs.set (x * 2) (.int .i64 ns[x].a0)).set (x * 2 + 1) u) ns (pre ++ [x]) := by
  obtain ⟨U, h1, h2⟩ := h
  have old : ∀ i, i < ns.length → i ∈ pre ++ [x] → i ≠ x → i ∈ pre := fun i _ hi hne => (List.mem_append.1 hi).elim id (fun e => absurd (by simpa using e) hne)
  refine ⟨fun i => if i = x then u else U i, fun i hi hp => ?_, fun i j hi hj hip hjp hij b => ?_⟩
  · by_cases e : i = x
    · subst e
      simp only [if_true]
      refine ⟨?_, ?_, (hu.keep fun g hg => ht.block g (hu.lt g hg) (by have := hu.ge g hg; simp; omega)).mono (by omega)⟩
      · simp [List.getElem?_set, hz]; omega
      · simp [List.getElem?_set, hz]; omega
    · obtain ⟨c0, c1, hm⟩ := h1 i hi (old i hi hp e)
      simp only [if_neg e]
      refine ⟨?_, ?_, (hm.up hb).keep fun g hg => ht.block g ((hm.up hb).lt g hg) (by have := hm.ge g hg; simp; omega)⟩ <;> (repeat rw [List.getElem?_set_ne (by omega)]) <;> assumption
  · by_cases e : i = x
    · have e' : ¬ j = x := fun e2 => hij (e.trans e2.symm)
      simp only [if_pos e, if_neg e']
      intro hb1 hb2
      have := hu.ge b hb1
      have := (h1 j hj (old j hj hjp e')).2.2.lt b hb2
      omega
    · simp only [if_neg e]
      by_cases e' : j = x
      · simp only [if_pos e']
        intro hb1 hb2
        have := hu.ge b hb2
        have := (h1 i hi (old i hi hip e)).2.2.lt b hb1
        omega
      · simp only [if_neg e']
        exact h2 i j hi hj (old i hi hip e) (old j hj hjp e') hij b
theorem itemsFull {B : Nat} {W : World} {zs : List Value} {ns : List ItemV} {pre : List Nat} {e : TypeId} (h : W.ownsRow B e 2 (.slice (some ⟨B, 0, none⟩) ns.length ns.length) ns.length zs) (hB : B < W.heap.size) (hx : ItemsTo B W zs ns pre) (hp : ∀ i, i < ns.length → i ∈ pre) :
    ∃ S, ItemSFull S W (.slice (some ⟨B, 0, none⟩) ns.length ns.length) ns ∧ ∀ k ∈ S, B ≤ k := by
  obtain ⟨U, h1, h2⟩ := hx
  have each : ∀ i, i < ns.length → ∃ q : List Nat, ∀ h : i < ns.length, MarkSOwn q W (U i) ns[i].a1 ∧ (∀ k ∈ q, B + 1 ≤ k) ∧ ∀ k ∈ q, (U i).ownBlock = some k := fun i hi => by
    obtain ⟨S, m1, m2, m3⟩ := (h1 i hi (hp i hi)).2.2.own
    exact ⟨S, fun _ => ⟨m1, m2, m3⟩⟩
  obtain ⟨G, hG⟩ := choose_lt each
  refine ⟨B :: (List.range ns.length).flatMap G, ⟨_, _, rfl, Nat.le_refl _, ?_, .inr ⟨B, 0, G, rfl, by simp, ?_, ?_, ?_, ?_⟩⟩, ?_⟩
  · intro k hk
    simp at hk
    rcases hk with rfl | ⟨i, hi, hk⟩
    · exact hB
    · exact (hG i hi hi).1.lt k hk
  · intro i hi k hk
    simp
    exact .inr ⟨i, hi, hk⟩
  · intro i hi
    rw [Nat.zero_add]
    exact rowFrozen h i hi
  · intro i j hi hj hij k hk hk'
    exact h2 i j hi hj (hp i hi) (hp j hj) hij k ((hG i hi hi).2.2 k hk) ((hG j hj hj).2.2 k hk')
  · intro i hi
    obtain ⟨c0, c1, _⟩ := h1 i hi (hp i hi)
    refine ⟨?_, fun hk => by have := (hG i hi hi).2.1 B hk; omega, U i, ?_, (hG i hi hi).1⟩
    all_goals
      rw [Nat.zero_add, h.cellAt _ (by omega)]
      assumption
  · intro k hk
    simp at hk
    rcases hk with rfl | ⟨i, hi, hk⟩
    · exact Nat.le_refl _
    · have := (hG i hi hi).2.1 k hk; omega
/-- what is so behind some rounds -/
def ItemsJ (B : Nat) (e : TypeId) (ns : List ItemV) (pre : List Nat) (W : World) : Prop := ∃ zs, W.ownsRow B e 2 (.slice (some ⟨B, 0, none⟩) ns.length ns.length) ns.length zs ∧ ItemsTo B W zs ns pre
theorem itemsJ_own {α : Type} (B : Nat) (e : TypeId) (ns : List ItemV) (f : α → List Nat) : Own (fun (pre : α) W => ItemsJ B e ns (f pre) W) := by
  rintro s X Y row ⟨zs, hr, hi⟩ hg hrow
  refine ⟨zs, hr.kept hg ?_, hi.keep fun g o ho hc _ => grownBy_keeps_cells hg hrow ho hc⟩
  rcases hr.2 with ⟨h', _⟩ | ⟨g, cap, cur, h', _, hgb, _⟩
  · simp at h'
  · refine .inr fun e' => ?_
    rw [h'] at e'
    obtain ⟨o, ho, hc⟩ := hrow g (by simpa [Value.ownBlock] using e'.symm)
    rw [hgb] at ho; cases ho; cases hc
/-- the world behind a round -/
def itemSet (B : Nat) (xi : Nat) (z : Int) (u : Value) (w5 : World) : World := (w5.setCell ⟨B, xi * 2, none⟩ (.int .i64 z)).setCell ⟨B, xi * 2 + 1, none⟩ u
theorem items_leaf {w W w5 : World} {N0 N1 : Nat} {ns : List ItemV} {pre : List Nat} {xi : Nat} {z : Int} {u : Value} {zs : List Value} {e T : TypeId} {V : Value} (hrow : W.ownsRow w.heap.size e 2 (.slice (some ⟨w.heap.size, 0, none⟩) ns.length ns.length) ns.length zs) (hto : ItemsTo w.heap.size W zs ns pre) (bO1 : Boxed W N1 T V)
    (hi3 : xi < ns.length) (hzz : z = ns[xi].a0) (hN : w.heap.size < N1) (hB1 : Below w.heap.size w W) (hz0 : N1 + 2 ≤ W.heap.size) (b5' : Below W.drew.heap.size W.drew w5) (r5 : MkRow W.drew.heap.size w5 u ns[xi].a1) :
    ((∃ v0, w5.cell? ⟨w.heap.size, xi * 2, none⟩ = some v0) ∧ (∃ v1, w5.cell? ⟨w.heap.size, xi * 2 + 1, none⟩ = some v1) ∧ w5.frozen? ⟨w.heap.size, xi * 2, none⟩ = false ∧ w5.frozen? ⟨w.heap.size, xi * 2 + 1, none⟩ = false ∧ w5.cell? ⟨N1, 0, none⟩ = some V) ∧
      KeepsFrom N0 W (itemSet w.heap.size xi z u w5) ∧ Keep (N1 + 2) [w.heap.size] W (itemSet w.heap.size xi z u w5) ∧ (ItemsJ w.heap.size e ns (pre ++ [xi]) (itemSet w.heap.size xi z u w5) ∧ Boxed (itemSet w.heap.size xi z u w5) N1 T V) ∧ Below w.heap.size w (itemSet w.heap.size xi z u w5) ∧ N1 + 2 ≤ (itemSet w.heap.size xi z u w5).heap.size := by
  have hwl : w.heap.size < W.heap.size := by omega
  have b5 : Below W.heap.size W w5 := (Below.refl _ _).drew.trans b5'
  have r5' : MkRow W.heap.size w5 u ns[xi].a1 := r5
  have hrow5 := ownsRowMark_below hrow b5 hwl
  obtain ⟨v0, v1, d0, d1, f0, f1⟩ := markCells hrow5 xi hi3
  have bO5 := boxed_up bO1 b5
  have hsz := b5.size
  have TT : Turn [w.heap.size] w5 (itemSet w.heap.size xi z u w5) := ((Turn.refl _ _).setCell (by simp) _ _).setCell (by simp) _ _
  have hz6 := TT.size
  have ms := markStore hrow5 xi (.int .i64 z) u
  have st := hto.step (x := xi) b5 TT hwl hi3 hrow.1 r5'
  rw [← hzz] at st
  refine ⟨⟨⟨v0, d0⟩, ⟨v1, d1⟩, f0, f1, bO5.cell⟩, ?_, ?_, ⟨⟨_, ms, st⟩, (TT.block _ bO5.lt (by simp; omega)).trans bO5⟩, (hB1.trans (b5.mono (by omega))).trans (TT.below (by omega) (by simp)), by omega⟩
  · exact (((keepsOthers_below b5).trans (KeepsOthers.setCell _ _ _)).trans (KeepsOthers.setCell _ _ _)).from _
  · exact ((Keep.of_below (b5.mono (by omega))).setCell (.inl (by simp)) _ _).setCell (.inl (by simp)) _ _
set_option maxRecDepth 100000 in
set_option maxHeartbeats 4000000 in
theorem items_in (g st : Nat) (xs : List RawI) (ns : List ItemV) (w : World) (hr : RingAt w g st xs) (hx : RawIs w xs ns) (hs : ∀ x ∈ ns, SmallItem x ∧ x.a1.length ≤ 1000000) (h4 : ns.length ≤ 4) :
    CallsIn Fence.wide 3 Tryz.prog 91 #[.pointer (some ⟨g, 0, none⟩)] w fun e w' => ∃ u S, e = .returned u ∧ Hid (ItemSFull S w' u ns) ∧ (∀ k ∈ S, w.heap.size ≤ k) ∧ Below w.heap.size w w' := by
  have hgl := hr.lt
  have c9 := hr.c9
  have hxl := hx.1
  rw [hxl] at c9
  obtain ⟨i0, hi, hz0, hz1, hz2⟩ := info_parts1 infoItem
  refine callsIn_of_wp_marks Tryz.func91 rfl trivial ?_ rfl
  simp only [Tryz.ntmps91, List.size_toArray, List.length_cons, List.length_nil, Nat.reduceAdd, Nat.reduceSub, Array.replicate_succ, Array.replicate_zero, List.push_toArray, List.append_toArray, List.nil_append, List.cons_append]
  gi_wp2_with (first
    | (gi_at_make; refine wpListIn_make_all _ rfl _ _ 60 rfl w.heap.size 44 i0 _ 2 Tryz.underlying60 hi hz0 hz1 _ _ _ _ ns.length rfl rfl rfl rfl (by rw [hz2]; omega) (by unfold maxLen; omega) (Nat.le_refl _) ?_; intro w1 hown hgrow)
    | fail)
  refine ⟨trivial, ?_⟩
  clear hz0 hz1 hz2 hi
  have hlt1 : w.heap.size < w1.heap.size := by
    rcases hown.2 with ⟨h', _⟩ | ⟨g', cap', cur, h', _, hg, _⟩
    · simp at h'
    · simp only [Value.slice.injEq, Option.some.injEq, Addr.mk.injEq, and_true, true_and] at h'
      obtain ⟨rfl, rfl⟩ := h'
      exact (Array.getElem?_eq_some_iff.1 hg).1
  have bl1 : Below w.heap.size w w1 := (Below.refl _ _).grown hgrow (Nat.le_refl _) (fun k hk => by cases hk)
  have bO := Boxed.new w1 60 (.slice (some ⟨w.heap.size, 0, none⟩) ns.length ns.length)
  have bl2 := bl1.alloc (by omega) (.cells #[.slice (some ⟨w.heap.size, 0, none⟩) ns.length ns.length] 60)
  have hown1 := ownsRowMark_below hown ((Below.refl _ _).alloc (Nat.le_refl _) (.cells #[.slice (some ⟨w.heap.size, 0, none⟩) ns.length ns.length] 60)) hlt1
  have hz1 : (w1.alloc (.cells #[.slice (some ⟨w.heap.size, 0, none⟩) ns.length ns.length] 60)).heap.size = w1.heap.size + 1 := by simp
  clear hown hgrow bl1
  generalize w1.alloc (.cells #[.slice (some ⟨w.heap.size, 0, none⟩) ns.length ns.length] 60) = w2 at *
  refine (ringSeq_in 2 g w2).mono ?_
  rintro e W0 ⟨rfl, hW0⟩
  have bA := (Boxed.new w2 187 (.pointer (some ⟨g, 0, none⟩))).cell
  rw [← hW0] at bA
  have hs0 : W0.heap.size = w1.heap.size + 2 := by rw [hW0]; simp; omega
  have b0 : Below w2.heap.size w2 W0 := by rw [hW0]; exact (Below.refl _ _).alloc (Nat.le_refl _) _
  have bl0 := bl2.trans (b0.mono (by omega))
  have hown0 := ownsRowMark_below hown1 b0 (by omega)
  have bO0 := boxed_up bO b0
  rw [hz1] at bA
  rw [hz1]
  clear hW0 b0 bl2 hown1 bO
  have HX := hide (fun (W : World) (bb : Below w.heap.size w W) (i : Nat) (h1 : i < xs.length) (h2 : i < ns.length) => (hx.2 i h1 h2).2.up bb)
  have HZ := hide (fun (i : Nat) (h1 : i < xs.length) (h2 : i < ns.length) => (hx.2 i h1 h2).1)
  have HS := hide hs
  clear hx hs
  gi_wp2_with fail
  refine wpIn_rangeFunc_ownH rfl (by omega) (gf := 122) (lb := #[.pointer (some ⟨w1.heap.size + 1, 0, none⟩)]) rfl trivial (enters_of Tryz.func122 (by kernel_rfl) rfl)
    (last_stops 2 (by omega) (w1.heap.size + 1) (w1.heap.size + 2) g st xs [w.heap.size] (by omega) (by omega) (by simp; omega) (by simp; omega) W0 (by omega) bA (hr.up bl0)) keepK_t (keepK_b (by omega)) (Below.refl _ _) (fun _ => rfl)
    (fun pre W => (ItemsJ w.heap.size 44 ns (pre.map fun y : RIt xs => y.1.1) W ∧ Boxed W w1.heap.size 60 (.slice (some ⟨w.heap.size, 0, none⟩) ns.length ns.length)) ∧ Below w.heap.size w W ∧ w1.heap.size + 2 ≤ W.heap.size)
    (fun c pre W => False)
    (OwnFrom.and (OwnFrom.and (Own.from (itemsJ_own _ _ _ _) _) (Own.from (boxed_own _ _ _) _)) (OwnFrom.and (ownFrom_below (Nat.le_refl _) (by omega)) (ownFrom_sizeW _ _)))
    (fun c => fun s W W' row hs hg hr => hs)
    ⟨⟨⟨_, hown0, ItemsTo.nil _ _ _ _⟩, bO0⟩, bl0, by omega⟩
    (fun x a' W => ∃ Bx, w1.heap.size + 1 < Bx ∧ BoxI W Bx x.1.2 ∧ a' = { tmps := #[.pointer (some ⟨g, 0, none⟩), undef, .slice none 0 0, .pointer (some ⟨w1.heap.size, 0, none⟩), .int .i64 (x.1.1 : Int), .pointer (some ⟨Bx, 0, none⟩), .pointer (some ⟨g, 0, none⟩), .pointer (some ⟨g, 0, none⟩), .pointer (some ⟨g, 0, none⟩), .pointer (some ⟨g, 9, none⟩), .int .i64 (ns.length : Int), .slice (some ⟨w.heap.size, 0, none⟩) ns.length ns.length, .pointer (some ⟨g, 0, none⟩), .pointer (some ⟨g, 0, none⟩), .pointer (some ⟨g, 0, none⟩), .func (.func 122) #[] #[.pointer (some ⟨w1.heap.size + 1, 0, none⟩)], .int .i64 (x.1.1 : Int), .agg #[.int .i64 x.1.2.z, .slice x.1.2.a x.1.2.n x.1.2.c], undef, undef, undef, undef, undef, undef], defers := [] })
    (fun x a' _ X Y row hs hg hr => by obtain ⟨Bx, e1, e2, e3⟩ := hs; exact ⟨Bx, e1, boxI_own Bx x.1.2 () X Y row e2 hg (fun r e => (hr r e).2), e3⟩)
    ?assign ?body ?done ?stop
  case assign =>
    rintro l pre x W K ⟨⟨hJ, bO1⟩, hB1, hz0⟩ hK
    simp only [encI, RawI.v]
    gi_wp2
    exact hK _ _ ((KeepsOthers.alloc _ _).from _) ((Keep.refl _ _ W).alloc (by omega) _) ⟨⟨(itemsJ_own _ _ _ _).alloc _ hJ, bO1.alloc _⟩, hB1.alloc (by omega) _, by simp; omega⟩ ⟨W.heap.size, by omega, boxI_new W _, rfl⟩
  case body =>
    rintro l pre x a' W hl ⟨r, hr⟩ ⟨⟨⟨zs, hrow, hto⟩, bO1⟩, hB1, hz0⟩ ⟨Bx, hBx, bX, rfl⟩ hlt
    obtain ⟨hi1, hi2⟩ := x.at
    have hi3 : x.1.1 < ns.length := by omega
    have HOWN := hide (fun (X : World) (bb : Below w.heap.size w X) => ownItem_any x.1.2.z x.1.2.v ns[x.1.1].a1 X (unhide HS _ (List.getElem_mem hi3)).1.2 (unhide HS _ (List.getElem_mem hi3)).2 (by rw [← hi2]; exact unhide HX X bb x.1.1 hi1 hi3))
    unfold RawI.v at HOWN
    have hzz : x.1.2.z = ns[x.1.1].a0 := by rw [← hi2]; exact unhide HZ x.1.1 hi1 hi3
    have hwl : w.heap.size < W.heap.size := by omega
    obtain ⟨x0, x1⟩ := boxI_cells bX
    have cO := bO1.cell
    have hPM : (pre ++ [x]).map (fun y : RIt xs => y.1.1) = pre.map (fun y : RIt xs => y.1.1) ++ [x.1.1] := by simp
    have HF := hide (fun (w5 : World) (ua : Option Addr) (un uc : Nat) (b5 : Below W.drew.heap.size W.drew w5) (r5 : MkRow W.drew.heap.size w5 (.slice ua un uc) ns[x.1.1].a1) => items_leaf (N0 := W0.heap.size) hrow hto bO1 hi3 hzz hlt1 hB1 hz0 b5 r5)
    rw [← hPM] at HF
    unfold itemSet at HF
    have BWD := hide (show Below w.heap.size w W.drew from hB1.drew)
    have hil : (x.1.1 : Int) < (ns.length : Int) := by omega
    clear hto hrow bX hi1 hi2 hzz hPM bO1 HX HZ HS bO0 hown0 bA hr
    generalize ns[x.1.1].a1 = ms at *
    gi_wp2_with fail
    -- BODY
    refine wpIn_region_any (by kernel_rfl) ?_
    change wpAnyIn _ _ _ _ _ _ _ _ _ (World.drew _)
    refine wpAnyIn_ready (rs := [0, 1, 2]) (by kernel_rfl) (by simp) ?_
    refine AllReadyIn.cons rfl (fun K hK => ?_) (AllReadyIn.cons rfl (fun K hK => ?_) (AllReadyIn.cons rfl (fun K hK => ?_) AllReadyIn.nil))
    · skip
      have hKK := hK
      clear hK
      go_simp
      refine hKK _ _ ?_
      clear hKK K
      try simp
      refine wpAnyIn_ready (rs := [1, 2]) (by kernel_rfl) (by simp) ?_
      refine AllReadyIn.cons rfl (fun K hK => ?_) (AllReadyIn.cons rfl (fun K hK => ?_) AllReadyIn.nil)
      · skip
        have hKK := hK
        clear hK
        go_simp
        refine hKK _ _ ?_
        clear hKK K
        try simp [Act.put]
        refine wpAnyIn_ready (rs := [2]) (by kernel_rfl) (by simp) ?_
        refine AllReadyIn.cons rfl (fun K hK => ?_) AllReadyIn.nil
        have hKK := hK
        clear hK
        go_simp
        refine hKK _ _ ?_
        clear hKK K
        try simp [Act.put]
        refine wpAnyIn_ready (rs := [3]) (by kernel_rfl) (by simp) ?_
        refine AllReadyIn.cons rfl (fun K hK => ?_) AllReadyIn.nil
        have hKK := hK
        clear hK
        go_simp
        refine ⟨trivial, ?_⟩
        refine (CallsIn.inRound l (callsIn_wide.2 (unhide HOWN _ (unhide BWD)))).mono ?_
        rintro e w5 ⟨u, rfl, R5, b5⟩
        obtain ⟨ua, uc, hu⟩ := MkRow.slice (unhide R5)
        generalize hun : ms.length = un at hu
        subst hu
        clear hun
        obtain ⟨⟨⟨v0, d0⟩, ⟨v1, d1⟩, f0, f1, cO5⟩, KEY⟩ := unhide HF w5 _ _ _ b5 (unhide R5)
        clear b5 R5
        refine hKK _ _ ?_
        clear hKK K
        try simp [Act.put]
        refine wpAnyIn_ready (rs := [4]) (by kernel_rfl) (by simp) ?_
        refine AllReadyIn.cons rfl (fun K hK => ?_) AllReadyIn.nil
        have hKK := hK
        clear hK
        go_simp
        refine hKK _ _ ?_
        clear hKK K
        try simp [Act.put]
        refine wpAnyIn_ready (rs := [5]) (by kernel_rfl) (by simp) ?_
        refine AllReadyIn.cons rfl (fun K hK => ?_) AllReadyIn.nil
        have hKK := hK
        clear hK
        go_simp
        refine hKK _ _ ?_
        clear hKK K
        try simp [Act.put]
        refine wpAnyIn_done (by kernel_rfl) ?_ _
        gi_wp2
        exact KEY
      · skip
        have hKK := hK
        clear hK
        go_simp
        refine hKK _ _ ?_
        clear hKK K
        try simp [Act.put]
        refine wpAnyIn_ready (rs := [1, 3]) (by kernel_rfl) (by simp) ?_
        refine AllReadyIn.cons rfl (fun K hK => ?_) (AllReadyIn.cons rfl (fun K hK => ?_) AllReadyIn.nil)
        · skip
          have hKK := hK
          clear hK
          go_simp
          refine hKK _ _ ?_
          clear hKK K
          try simp [Act.put]
          refine wpAnyIn_ready (rs := [3]) (by kernel_rfl) (by simp) ?_
          refine AllReadyIn.cons rfl (fun K hK => ?_) AllReadyIn.nil
          have hKK := hK
          clear hK
          go_simp
          refine ⟨trivial, ?_⟩
          refine (CallsIn.inRound l (callsIn_wide.2 (unhide HOWN _ (unhide BWD)))).mono ?_
          rintro e w5 ⟨u, rfl, R5, b5⟩
          obtain ⟨ua, uc, hu⟩ := MkRow.slice (unhide R5)
          generalize hun : ms.length = un at hu
          subst hu
          clear hun
          obtain ⟨⟨⟨v0, d0⟩, ⟨v1, d1⟩, f0, f1, cO5⟩, KEY⟩ := unhide HF w5 _ _ _ b5 (unhide R5)
          clear b5 R5
          refine hKK _ _ ?_
          clear hKK K
          try simp [Act.put]
          refine wpAnyIn_ready (rs := [4]) (by kernel_rfl) (by simp) ?_
          refine AllReadyIn.cons rfl (fun K hK => ?_) AllReadyIn.nil
          have hKK := hK
          clear hK
          go_simp
          refine hKK _ _ ?_
          clear hKK K
          try simp [Act.put]
          refine wpAnyIn_ready (rs := [5]) (by kernel_rfl) (by simp) ?_
          refine AllReadyIn.cons rfl (fun K hK => ?_) AllReadyIn.nil
          have hKK := hK
          clear hK
          go_simp
          refine hKK _ _ ?_
          clear hKK K
          try simp [Act.put]
          refine wpAnyIn_done (by kernel_rfl) ?_ _
          gi_wp2
          exact KEY
        · skip
          have hKK := hK
          clear hK
          go_simp
          refine ⟨trivial, ?_⟩
          refine (CallsIn.inRound l (callsIn_wide.2 (unhide HOWN _ (unhide BWD)))).mono ?_
          rintro e w5 ⟨u, rfl, R5, b5⟩
          obtain ⟨ua, uc, hu⟩ := MkRow.slice (unhide R5)
          generalize hun : ms.length = un at hu
          subst hu
          clear hun
          obtain ⟨⟨⟨v0, d0⟩, ⟨v1, d1⟩, f0, f1, cO5⟩, KEY⟩ := unhide HF w5 _ _ _ b5 (unhide R5)
          clear b5 R5
          refine hKK _ _ ?_
          clear hKK K
          try simp [Act.put]
          refine wpAnyIn_ready (rs := [1]) (by kernel_rfl) (by simp) ?_
          refine AllReadyIn.cons rfl (fun K hK => ?_) AllReadyIn.nil
          have hKK := hK
          clear hK
          go_simp
          refine hKK _ _ ?_
          clear hKK K
          try simp [Act.put]
          refine wpAnyIn_ready (rs := [4]) (by kernel_rfl) (by simp) ?_
          refine AllReadyIn.cons rfl (fun K hK => ?_) AllReadyIn.nil
          have hKK := hK
          clear hK
          go_simp
          refine hKK _ _ ?_
          clear hKK K
          try simp [Act.put]
          refine wpAnyIn_ready (rs := [5]) (by kernel_rfl) (by simp) ?_
          refine AllReadyIn.cons rfl (fun K hK => ?_) AllReadyIn.nil
          have hKK := hK
          clear hK
          go_simp
          refine hKK _ _ ?_
          clear hKK K
          try simp [Act.put]
          refine wpAnyIn_done (by kernel_rfl) ?_ _
          gi_wp2
          exact KEY
    · skip
      have hKK := hK
      clear hK
      go_simp
      refine hKK _ _ ?_
      clear hKK K
      try simp
      refine wpAnyIn_ready (rs := [0, 2]) (by kernel_rfl) (by simp) ?_
      refine AllReadyIn.cons rfl (fun K hK => ?_) (AllReadyIn.cons rfl (fun K hK => ?_) AllReadyIn.nil)
      · skip
        have hKK := hK
        clear hK
        go_simp
        refine hKK _ _ ?_
        clear hKK K
        try simp [Act.put]
        refine wpAnyIn_ready (rs := [2]) (by kernel_rfl) (by simp) ?_
        refine AllReadyIn.cons rfl (fun K hK => ?_) AllReadyIn.nil
        have hKK := hK
        clear hK
        go_simp
        refine hKK _ _ ?_
        clear hKK K
        try simp [Act.put]
        refine wpAnyIn_ready (rs := [3]) (by kernel_rfl) (by simp) ?_
        refine AllReadyIn.cons rfl (fun K hK => ?_) AllReadyIn.nil
        have hKK := hK
        clear hK
        go_simp
        refine ⟨trivial, ?_⟩
        refine (CallsIn.inRound l (callsIn_wide.2 (unhide HOWN _ (unhide BWD)))).mono ?_
        rintro e w5 ⟨u, rfl, R5, b5⟩
        obtain ⟨ua, uc, hu⟩ := MkRow.slice (unhide R5)
        generalize hun : ms.length = un at hu
        subst hu
        clear hun
        obtain ⟨⟨⟨v0, d0⟩, ⟨v1, d1⟩, f0, f1, cO5⟩, KEY⟩ := unhide HF w5 _ _ _ b5 (unhide R5)
        clear b5 R5
        refine hKK _ _ ?_
        clear hKK K
        try simp [Act.put]
        refine wpAnyIn_ready (rs := [4]) (by kernel_rfl) (by simp) ?_
        refine AllReadyIn.cons rfl (fun K hK => ?_) AllReadyIn.nil
        have hKK := hK
        clear hK
        go_simp
        refine hKK _ _ ?_
        clear hKK K
        try simp [Act.put]
        refine wpAnyIn_ready (rs := [5]) (by kernel_rfl) (by simp) ?_
        refine AllReadyIn.cons rfl (fun K hK => ?_) AllReadyIn.nil
        have hKK := hK
        clear hK
        go_simp
        refine hKK _ _ ?_
        clear hKK K
        try simp [Act.put]
        refine wpAnyIn_done (by kernel_rfl) ?_ _
        gi_wp2
        exact KEY
      · skip
        have hKK := hK
        clear hK
        go_simp
        refine hKK _ _ ?_
        clear hKK K
        try simp [Act.put]
        refine wpAnyIn_ready (rs := [0, 3]) (by kernel_rfl) (by simp) ?_
        refine AllReadyIn.cons rfl (fun K hK => ?_) (AllReadyIn.cons rfl (fun K hK => ?_) AllReadyIn.nil)
        · skip
          have hKK := hK
          clear hK
          go_simp
          refine hKK _ _ ?_
          clear hKK K
          try simp [Act.put]
          refine wpAnyIn_ready (rs := [3]) (by kernel_rfl) (by simp) ?_
          refine AllReadyIn.cons rfl (fun K hK => ?_) AllReadyIn.nil
          have hKK := hK
          clear hK
          go_simp
          refine ⟨trivial, ?_⟩
          refine (CallsIn.inRound l (callsIn_wide.2 (unhide HOWN _ (unhide BWD)))).mono ?_
          rintro e w5 ⟨u, rfl, R5, b5⟩
          obtain ⟨ua, uc, hu⟩ := MkRow.slice (unhide R5)
          generalize hun : ms.length = un at hu
          subst hu
          clear hun
          obtain ⟨⟨⟨v0, d0⟩, ⟨v1, d1⟩, f0, f1, cO5⟩, KEY⟩ := unhide HF w5 _ _ _ b5 (unhide R5)
          clear b5 R5
          refine hKK _ _ ?_
          clear hKK K
          try simp [Act.put]
          refine wpAnyIn_ready (rs := [4]) (by kernel_rfl) (by simp) ?_
          refine AllReadyIn.cons rfl (fun K hK => ?_) AllReadyIn.nil
          have hKK := hK
          clear hK
          go_simp
          refine hKK _ _ ?_
          clear hKK K
          try simp [Act.put]
          refine wpAnyIn_ready (rs := [5]) (by kernel_rfl) (by simp) ?_
          refine AllReadyIn.cons rfl (fun K hK => ?_) AllReadyIn.nil
          have hKK := hK
          clear hK
          go_simp
          refine hKK _ _ ?_
          clear hKK K
          try simp [Act.put]
          refine wpAnyIn_done (by kernel_rfl) ?_ _
          gi_wp2
          exact KEY
        · skip
          have hKK := hK
          clear hK
          go_simp
          refine ⟨trivial, ?_⟩
          refine (CallsIn.inRound l (callsIn_wide.2 (unhide HOWN _ (unhide BWD)))).mono ?_
          rintro e w5 ⟨u, rfl, R5, b5⟩
          obtain ⟨ua, uc, hu⟩ := MkRow.slice (unhide R5)
          generalize hun : ms.length = un at hu
          subst hu
          clear hun
          obtain ⟨⟨⟨v0, d0⟩, ⟨v1, d1⟩, f0, f1, cO5⟩, KEY⟩ := unhide HF w5 _ _ _ b5 (unhide R5)
          clear b5 R5
          refine hKK _ _ ?_
          clear hKK K
          try simp [Act.put]
          refine wpAnyIn_ready (rs := [0]) (by kernel_rfl) (by simp) ?_
          refine AllReadyIn.cons rfl (fun K hK => ?_) AllReadyIn.nil
          have hKK := hK
          clear hK
          go_simp
          refine hKK _ _ ?_
          clear hKK K
          try simp [Act.put]
          refine wpAnyIn_ready (rs := [4]) (by kernel_rfl) (by simp) ?_
          refine AllReadyIn.cons rfl (fun K hK => ?_) AllReadyIn.nil
          have hKK := hK
          clear hK
          go_simp
          refine hKK _ _ ?_
          clear hKK K
          try simp [Act.put]
          refine wpAnyIn_ready (rs := [5]) (by kernel_rfl) (by simp) ?_
          refine AllReadyIn.cons rfl (fun K hK => ?_) AllReadyIn.nil
          have hKK := hK
          clear hK
          go_simp
          refine hKK _ _ ?_
          clear hKK K
          try simp [Act.put]
          refine wpAnyIn_done (by kernel_rfl) ?_ _
          gi_wp2
          exact KEY
    · skip
      have hKK := hK
      clear hK
      go_simp
      refine hKK _ _ ?_
      clear hKK K
      try simp
      refine wpAnyIn_ready (rs := [0, 1, 3]) (by kernel_rfl) (by simp) ?_
      refine AllReadyIn.cons rfl (fun K hK => ?_) (AllReadyIn.cons rfl (fun K hK => ?_) (AllReadyIn.cons rfl (fun K hK => ?_) AllReadyIn.nil))
      · skip
        have hKK := hK
        clear hK
        go_simp
        refine hKK _ _ ?_
        clear hKK K
        try simp [Act.put]
        refine wpAnyIn_ready (rs := [1, 3]) (by kernel_rfl) (by simp) ?_
        refine AllReadyIn.cons rfl (fun K hK => ?_) (AllReadyIn.cons rfl (fun K hK => ?_) AllReadyIn.nil)
        · skip
          have hKK := hK
          clear hK
          go_simp
          refine hKK _ _ ?_
          clear hKK K
          try simp [Act.put]
          refine wpAnyIn_ready (rs := [3]) (by kernel_rfl) (by simp) ?_
          refine AllReadyIn.cons rfl (fun K hK => ?_) AllReadyIn.nil
          have hKK := hK
          clear hK
          go_simp
          refine ⟨trivial, ?_⟩
          refine (CallsIn.inRound l (callsIn_wide.2 (unhide HOWN _ (unhide BWD)))).mono ?_
          rintro e w5 ⟨u, rfl, R5, b5⟩
          obtain ⟨ua, uc, hu⟩ := MkRow.slice (unhide R5)
          generalize hun : ms.length = un at hu
          subst hu
          clear hun
          obtain ⟨⟨⟨v0, d0⟩, ⟨v1, d1⟩, f0, f1, cO5⟩, KEY⟩ := unhide HF w5 _ _ _ b5 (unhide R5)
          clear b5 R5
          refine hKK _ _ ?_
          clear hKK K
          try simp [Act.put]
          refine wpAnyIn_ready (rs := [4]) (by kernel_rfl) (by simp) ?_
          refine AllReadyIn.cons rfl (fun K hK => ?_) AllReadyIn.nil
          have hKK := hK
          clear hK
          go_simp
          refine hKK _ _ ?_
          clear hKK K
          try simp [Act.put]
          refine wpAnyIn_ready (rs := [5]) (by kernel_rfl) (by simp) ?_
          refine AllReadyIn.cons rfl (fun K hK => ?_) AllReadyIn.nil
          have hKK := hK
          clear hK
          go_simp
          refine hKK _ _ ?_
          clear hKK K
          try simp [Act.put]
          refine wpAnyIn_done (by kernel_rfl) ?_ _
          gi_wp2
          exact KEY
        · skip
          have hKK := hK
          clear hK
          go_simp
          refine ⟨trivial, ?_⟩
          refine (CallsIn.inRound l (callsIn_wide.2 (unhide HOWN _ (unhide BWD)))).mono ?_
          rintro e w5 ⟨u, rfl, R5, b5⟩
          obtain ⟨ua, uc, hu⟩ := MkRow.slice (unhide R5)
          generalize hun : ms.length = un at hu
          subst hu
          clear hun
          obtain ⟨⟨⟨v0, d0⟩, ⟨v1, d1⟩, f0, f1, cO5⟩, KEY⟩ := unhide HF w5 _ _ _ b5 (unhide R5)
          clear b5 R5
          refine hKK _ _ ?_
          clear hKK K
          try simp [Act.put]
          refine wpAnyIn_ready (rs := [1]) (by kernel_rfl) (by simp) ?_
          refine AllReadyIn.cons rfl (fun K hK => ?_) AllReadyIn.nil
          have hKK := hK
          clear hK
          go_simp
          refine hKK _ _ ?_
          clear hKK K
          try simp [Act.put]
          refine wpAnyIn_ready (rs := [4]) (by kernel_rfl) (by simp) ?_
          refine AllReadyIn.cons rfl (fun K hK => ?_) AllReadyIn.nil
          have hKK := hK
          clear hK
          go_simp
          refine hKK _ _ ?_
          clear hKK K
          try simp [Act.put]
          refine wpAnyIn_ready (rs := [5]) (by kernel_rfl) (by simp) ?_
          refine AllReadyIn.cons rfl (fun K hK => ?_) AllReadyIn.nil
          have hKK := hK
          clear hK
          go_simp
          refine hKK _ _ ?_
          clear hKK K
          try simp [Act.put]
          refine wpAnyIn_done (by kernel_rfl) ?_ _
          gi_wp2
          exact KEY
      · skip
        have hKK := hK
        clear hK
        go_simp
        refine hKK _ _ ?_
        clear hKK K
        try simp [Act.put]
        refine wpAnyIn_ready (rs := [0, 3]) (by kernel_rfl) (by simp) ?_
        refine AllReadyIn.cons rfl (fun K hK => ?_) (AllReadyIn.cons rfl (fun K hK => ?_) AllReadyIn.nil)
        · skip
          have hKK := hK
          clear hK
          go_simp
          refine hKK _ _ ?_
          clear hKK K
          try simp [Act.put]
          refine wpAnyIn_ready (rs := [3]) (by kernel_rfl) (by simp) ?_
          refine AllReadyIn.cons rfl (fun K hK => ?_) AllReadyIn.nil
          have hKK := hK
          clear hK
          go_simp
          refine ⟨trivial, ?_⟩
          refine (CallsIn.inRound l (callsIn_wide.2 (unhide HOWN _ (unhide BWD)))).mono ?_
          rintro e w5 ⟨u, rfl, R5, b5⟩
          obtain ⟨ua, uc, hu⟩ := MkRow.slice (unhide R5)
          generalize hun : ms.length = un at hu
          subst hu
          clear hun
          obtain ⟨⟨⟨v0, d0⟩, ⟨v1, d1⟩, f0, f1, cO5⟩, KEY⟩ := unhide HF w5 _ _ _ b5 (unhide R5)
          clear b5 R5
          refine hKK _ _ ?_
          clear hKK K
          try simp [Act.put]
          refine wpAnyIn_ready (rs := [4]) (by kernel_rfl) (by simp) ?_
          refine AllReadyIn.cons rfl (fun K hK => ?_) AllReadyIn.nil
          have hKK := hK
          clear hK
          go_simp
          refine hKK _ _ ?_
          clear hKK K
          try simp [Act.put]
          refine wpAnyIn_ready (rs := [5]) (by kernel_rfl) (by simp) ?_
          refine AllReadyIn.cons rfl (fun K hK => ?_) AllReadyIn.nil
          have hKK := hK
          clear hK
          go_simp
          refine hKK _ _ ?_
          clear hKK K
          try simp [Act.put]
          refine wpAnyIn_done (by kernel_rfl) ?_ _
          gi_wp2
          exact KEY
        · skip
          have hKK := hK
          clear hK
          go_simp
          refine ⟨trivial, ?_⟩
          refine (CallsIn.inRound l (callsIn_wide.2 (unhide HOWN _ (unhide BWD)))).mono ?_
          rintro e w5 ⟨u, rfl, R5, b5⟩
          obtain ⟨ua, uc, hu⟩ := MkRow.slice (unhide R5)
          generalize hun : ms.length = un at hu
          subst hu
          clear hun
          obtain ⟨⟨⟨v0, d0⟩, ⟨v1, d1⟩, f0, f1, cO5⟩, KEY⟩ := unhide HF w5 _ _ _ b5 (unhide R5)
          clear b5 R5
          refine hKK _ _ ?_
          clear hKK K
          try simp [Act.put]
          refine wpAnyIn_ready (rs := [0]) (by kernel_rfl) (by simp) ?_
          refine AllReadyIn.cons rfl (fun K hK => ?_) AllReadyIn.nil
          have hKK := hK
          clear hK
          go_simp
          refine hKK _ _ ?_
          clear hKK K
          try simp [Act.put]
          refine wpAnyIn_ready (rs := [4]) (by kernel_rfl) (by simp) ?_
          refine AllReadyIn.cons rfl (fun K hK => ?_) AllReadyIn.nil
          have hKK := hK
          clear hK
          go_simp
          refine hKK _ _ ?_
          clear hKK K
          try simp [Act.put]
          refine wpAnyIn_ready (rs := [5]) (by kernel_rfl) (by simp) ?_
          refine AllReadyIn.cons rfl (fun K hK => ?_) AllReadyIn.nil
          have hKK := hK
          clear hK
          go_simp
          refine hKK _ _ ?_
          clear hKK K
          try simp [Act.put]
          refine wpAnyIn_done (by kernel_rfl) ?_ _
          gi_wp2
          exact KEY
      · skip
        have hKK := hK
        clear hK
        go_simp
        refine ⟨trivial, ?_⟩
        refine (CallsIn.inRound l (callsIn_wide.2 (unhide HOWN _ (unhide BWD)))).mono ?_
        rintro e w5 ⟨u, rfl, R5, b5⟩
        obtain ⟨ua, uc, hu⟩ := MkRow.slice (unhide R5)
        generalize hun : ms.length = un at hu
        subst hu
        clear hun
        obtain ⟨⟨⟨v0, d0⟩, ⟨v1, d1⟩, f0, f1, cO5⟩, KEY⟩ := unhide HF w5 _ _ _ b5 (unhide R5)
        clear b5 R5
        refine hKK _ _ ?_
        clear hKK K
        try simp [Act.put]
        refine wpAnyIn_ready (rs := [0, 1]) (by kernel_rfl) (by simp) ?_
        refine AllReadyIn.cons rfl (fun K hK => ?_) (AllReadyIn.cons rfl (fun K hK => ?_) AllReadyIn.nil)
        · skip
          have hKK := hK
          clear hK
          go_simp
          refine hKK _ _ ?_
          clear hKK K
          try simp [Act.put]
          refine wpAnyIn_ready (rs := [1]) (by kernel_rfl) (by simp) ?_
          refine AllReadyIn.cons rfl (fun K hK => ?_) AllReadyIn.nil
          have hKK := hK
          clear hK
          go_simp
          refine hKK _ _ ?_
          clear hKK K
          try simp [Act.put]
          refine wpAnyIn_ready (rs := [4]) (by kernel_rfl) (by simp) ?_
          refine AllReadyIn.cons rfl (fun K hK => ?_) AllReadyIn.nil
          have hKK := hK
          clear hK
          go_simp
          refine hKK _ _ ?_
          clear hKK K
          try simp [Act.put]
          refine wpAnyIn_ready (rs := [5]) (by kernel_rfl) (by simp) ?_
          refine AllReadyIn.cons rfl (fun K hK => ?_) AllReadyIn.nil
          have hKK := hK
          clear hK
          go_simp
          refine hKK _ _ ?_
          clear hKK K
          try simp [Act.put]
          refine wpAnyIn_done (by kernel_rfl) ?_ _
          gi_wp2
          exact KEY
        · skip
          have hKK := hK
          clear hK
          go_simp
          refine hKK _ _ ?_
          clear hKK K
          try simp [Act.put]
          refine wpAnyIn_ready (rs := [0]) (by kernel_rfl) (by simp) ?_
          refine AllReadyIn.cons rfl (fun K hK => ?_) AllReadyIn.nil
          have hKK := hK
          clear hK
          go_simp
          refine hKK _ _ ?_
          clear hKK K
          try simp [Act.put]
          refine wpAnyIn_ready (rs := [4]) (by kernel_rfl) (by simp) ?_
          refine AllReadyIn.cons rfl (fun K hK => ?_) AllReadyIn.nil
          have hKK := hK
          clear hK
          go_simp
          refine hKK _ _ ?_
          clear hKK K
          try simp [Act.put]
          refine wpAnyIn_ready (rs := [5]) (by kernel_rfl) (by simp) ?_
          refine AllReadyIn.cons rfl (fun K hK => ?_) AllReadyIn.nil
          have hKK := hK
          clear hK
          go_simp
          refine hKK _ _ ?_
          clear hKK K
          try simp [Act.put]
          refine wpAnyIn_done (by kernel_rfl) ?_ _
          gi_wp2
          exact KEY
    -- ENDBODY
  case done =>
    rintro D ys W hD hys ⟨⟨hJ, bO1⟩, hB1, hz0⟩ hK
    have cO := bO1.cell
    have HJ := hide hJ
    clear hJ
    gi_wp2
    refine ⟨by simp, .inl ⟨_, _, rfl, run_takeDeferred hK, ?_⟩⟩
    obtain ⟨zs, r1, r2⟩ := (itemsJ_own w.heap.size 44 ns (fun (pre : List (RIt xs)) => pre.map fun y : RIt xs => y.1.1)).putObj (.deferred none) (unhide HJ) hK rfl
    obtain ⟨S, f1, f2⟩ := itemsFull r1 (by simp; omega) r2 (fun i hi => by
      obtain ⟨y, hm, e⟩ := lastL_has (xs := xs) (k := xs.length) (i := i) (Nat.le_refl _) (by omega) (by omega)
      rw [← hys] at hm
      obtain ⟨z, hz, ez⟩ := List.mem_map.1 hm
      exact List.mem_map.2 ⟨z, hz, by rw [ez, e]⟩)
    refine ⟨.slice (some ⟨w.heap.size, 0, none⟩) ns.length ns.length, ?_, _, S, rfl, hide f1, f2, hB1.trans (belowK_b (w := w) (Nat.le_refl _) W D _ _ (by omega) hK rfl rfl)⟩
    simp [results, Tryz.f91, go_sem]
  case stop =>
    rintro D c pre W hD _ hF
    exact hF.elim
end Go.Proofs.YtknkdbfgfcgkiaaGreatDoor
