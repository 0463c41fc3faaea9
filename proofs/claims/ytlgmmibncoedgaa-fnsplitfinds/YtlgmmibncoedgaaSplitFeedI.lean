/-
  The program's SplitFeed. (Made by wip/mkfeedi.py.)
-/
import Derived.Test.YtlgmmibncoedgaaMerged11
import Derived.Test.YtlgmmibncoedgaaSplitCol
import Derived.Deep.RegionHeld
import Derived.Deep.DeepCutAuto
import Derived.Deep.CutBlock
set_option linter.unusedVariables false
namespace Go.Proofs.Ytlgmmibncoedgaa
open Go.RowKit Go.Maps Go.Deep Go.Shelf

def RetFeedI (d : SplitV) (bs : List UInt8) (w : World) (e : Ending) (w' : World) : Prop := ∃ v S vr Q, e = .returned (.tuple #[v, vr, .bool (feedB d bs)]) ∧ Hid (SplitOwn S w' v (feedS d bs)) ∧ Hid (∀ k ∈ S, w.heap.size ≤ k) ∧ Hid (ByteSSOwn Q w' vr (feedH d bs)) ∧ Hid (∀ k ∈ Q, w.heap.size ≤ k) ∧ Hid (∀ k ∈ S, k ∉ Q) ∧ Below w.heap.size w w'
def RetFeedJ (d : SplitV) (bs : List UInt8) (w : World) (e : Ending) (w' : World) : Prop := ∃ v S vr Q vs, e = .returned (.tuple #[v, vr, .bool (feedB d bs)]) ∧ Hid (SplitOwn S w' v (feedS d bs)) ∧ Hid (∀ k ∈ S, w.heap.size ≤ k) ∧ Hid (ByteSSOwn Q w' vr (feedH d bs)) ∧ Hid (∀ k ∈ Q, w.heap.size ≤ k) ∧ Hid (∀ k ∈ S, k ∉ Q) ∧ Hid (BvRow w.heap.size w' vr vs) ∧ Hid (BsIs w.heap.size w' vs (feedH d bs)) ∧ Below w.heap.size w w'
theorem retFeedJ_no {d : SplitV} {bs : List UInt8} {w w' : World} (h : feedB d bs = false) (b : Below w.heap.size w w') : RetFeedJ d bs w (.returned (.tuple #[.agg #[.slice none 0 0, .int .i64 0], .slice none 0 0, .bool false])) w' :=
  ⟨_, [], _, [], [], by rw [h], hide (by unfold feedS; rw [h]; exact ⟨_, rfl, ByOwn.nil _ _ _⟩), hide (by simp), hide (by unfold feedH; rw [h]; exact ⟨none, 0, rfl, by simp, .inl rfl⟩), hide (by simp), hide (by simp), hide (BvRow.nil _ _), hide (by unfold feedH; rw [h]; exact BsIs.nil _ _), b⟩
theorem RetFeedJ.i {d : SplitV} {bs : List UInt8} {w w' : World} {e : Ending} (h : RetFeedJ d bs w e w') : RetFeedI d bs w e w' := by
  obtain ⟨v, S, vr, Q, vs, h0, h1, h2, h3, h4, h5, _, _, h6⟩ := h
  exact ⟨v, S, vr, Q, h0, h1, h2, h3, h4, h5, h6⟩
theorem allocBI (w : World) (ob : Obj) : Below w.heap.size w (w.alloc ob) := (Below.refl _ _).alloc (Nat.le_refl _) ob
theorem farL {w : World} {gs ga : Nat} {v u x y : Value} (h : gs + 2 ≤ ga) (hc : w.cell? ⟨gs, 0, none⟩ = some v ∧ w.cell? ⟨gs, 1, none⟩ = some u) : ((w.setCell ⟨ga, 0, none⟩ x).setCell ⟨ga, 1, none⟩ y).cell? ⟨gs, 0, none⟩ = some v ∧ ((w.setCell ⟨ga, 0, none⟩ x).setCell ⟨ga, 1, none⟩ y).cell? ⟨gs, 1, none⟩ = some u := by
  have t : Turn [ga] w ((w.setCell ⟨ga, 0, none⟩ x).setCell ⟨ga, 1, none⟩ y) := ((Turn.refl _ _).setCell (by simp) _ _).setCell (by simp) _ _
  have hl := World.block_lt_of_cell? w ⟨gs, 0, none⟩ hc.1
  exact ⟨(t.cell hl (by simp; omega)).trans hc.1, (t.cell hl (by simp; omega)).trans hc.2⟩
theorem farR {w : World} {gr ga : Nat} {v u x y : Value} (h : gr ≠ ga) (hc : w.cell? ⟨ga, 0, none⟩ = some v ∧ w.cell? ⟨ga, 1, none⟩ = some u) : ((w.setCell ⟨gr, 0, none⟩ x).setCell ⟨gr, 1, none⟩ y).cell? ⟨ga, 0, none⟩ = some v ∧ ((w.setCell ⟨gr, 0, none⟩ x).setCell ⟨gr, 1, none⟩ y).cell? ⟨ga, 1, none⟩ = some u := by
  have t : Turn [gr] w ((w.setCell ⟨gr, 0, none⟩ x).setCell ⟨gr, 1, none⟩ y) := ((Turn.refl _ _).setCell (by simp) _ _).setCell (by simp) _ _
  have hl := World.block_lt_of_cell? w ⟨ga, 0, none⟩ hc.1
  exact ⟨(t.cell hl (by simpa using fun e => h e.symm)).trans hc.1, (t.cell hl (by simpa using fun e => h e.symm)).trans hc.2⟩
set_option maxHeartbeats 1600000 in
theorem countable_any (a : Option Addr) (n c : Nat) (lost more : Int) (w : World) (h0 : 0 ≤ more) (h1 : more ≤ 100000000) :
    Calls Try.prog 42 #[.agg #[.slice a n c, .int .i64 lost], .int .i64 more] w fun e w' => e = .returned (.bool (decide (lost ≤ 9223372036854775807 - more))) ∧ Below w.heap.size w w' := by
  go_enter Try.func42, Try.ntmps42
  go_wp2_with fail
  go_ret
  exact ⟨rfl, by go_grown⟩
set_option maxRecDepth 20000 in
set_option maxHeartbeats 25600000 in
theorem implFeed_rows (d : SplitV) (v : Value) (bs : List UInt8) (vb : Value) (w : World) (hs : SmallSplit d) (hb : SmallByteS bs) (h : SplitRd w v d) (h2 : ByRd w vb bs) :
    Calls Try.prog 13 #[v, vb] w fun e w' => RetFeedJ d bs w e w' := by
  obtain ⟨v0, rfl, h0⟩ := h
  obtain ⟨buf, lost⟩ := d
  obtain ⟨a, c, hv⟩ := h0.len
  subst hv
  obtain ⟨a1, c1, hv1⟩ := h2.len
  subst hv1
  have hsb : buf.length ≤ 1048576 := hs
  have hbb : bs.length ≤ 1048576 := hb
  simp only at h0 ⊢
  obtain ⟨x0, x1, bA⟩ := box2pair w [.slice a buf.length c, .int .i64 lost] [.slice none 0 0, .int .i64 0] 35 35
  simp only [List.toArray] at x0 x1 bA
  have HOK := hide (implSplitOk_any ⟨buf, lost⟩ (.agg #[.slice a buf.length c, .int .i64 lost]) _ hs ⟨_, rfl, h0.up bA⟩)
  have H0 := hide h0
  have H2 := hide h2
  obtain ⟨n, hn⟩ : ∃ n, n = buf.length := ⟨_, rfl⟩
  obtain ⟨m, hm⟩ : ∃ m, m = bs.length := ⟨_, rfl⟩
  have HN := hide hn
  have HM := hide hm
  rw [← hn] at x0 x1 bA HOK hsb H0 ⊢
  rw [← hm] at H2 hbb ⊢
  have X0 := hide x0
  have X1 := hide x1
  have BA := hide bA
  clear x0 x1 bA h0 h2 hs hb hn hm
  go_enter Try.func13, Try.ntmps13
  go_wp2_with fail
  generalize (w.alloc (.cells #[.slice a n c, .int .i64 lost] 35)).alloc (.cells #[.slice none 0 0, .int .i64 0] 35) = W2 at *
  refine (unhide HOK).mono ?_
  rintro e w3 ⟨rfl, b3⟩
  have B3 := hide ((unhide BA).trans (b3.mono (unhide BA).size))
  have XS3 := hide ((unhide X0).up b3)
  have XR3 := hide ((unhide X1).up b3)
  obtain ⟨⟨s0, s1⟩, -⟩ := two33 (unhide XS3)
  clear b3 BA X0 X1 HOK
  cases hok : splitOkB ⟨buf, lost⟩
  · have HNO := hide (show feedB ⟨buf, lost⟩ bs = false by unfold feedB; rw [hok]; rfl)
    obtain ⟨⟨y0, y1⟩, z0, z1⟩ := two33 (unhide XR3)
    have HE := hide (fun (W : World) (t : Turn [w.heap.size + 1] w3 W) => retFeedJ_no (unhide HNO) ((unhide B3).trans (t.below (unhide B3).size (by simp))))
    clear hok
    go_wp2_with fail
    refine bodyPost_ret (v := .tuple #[.agg #[.slice none 0 0, .int .i64 0], .slice none 0 0, .bool false]) (by simp [results, Try.results13, go_sem, y0, y1]) rfl ?_
    exact unhide HE _ (((Turn.refl [w.heap.size + 1] w3).setCell (g := w.heap.size + 1) (by simp) _ _).setCell (g := w.heap.size + 1) (by simp) _ _)
  · by_cases g2 : 4000 < (m : Int)
    · have HNO := hide (show feedB ⟨buf, lost⟩ bs = false by unfold feedB; rw [hok, decide_eq_false (show ¬ bs.length ≤ 4000 by rw [← unhide HM]; omega)]; rfl)
      obtain ⟨⟨y0, y1⟩, z0, z1⟩ := two33 (unhide XR3)
      have HE := hide (fun (W : World) (t : Turn [w.heap.size + 1] w3 W) => retFeedJ_no (unhide HNO) ((unhide B3).trans (t.below (unhide B3).size (by simp))))
      clear hok
      go_wp2_with fail
      refine bodyPost_ret (v := .tuple #[.agg #[.slice none 0 0, .int .i64 0], .slice none 0 0, .bool false]) (by simp [results, Try.results13, go_sem, y0, y1]) rfl ?_
      exact unhide HE _ (((Turn.refl [w.heap.size + 1] w3).setCell (g := w.heap.size + 1) (by simp) _ _).setCell (g := w.heap.size + 1) (by simp) _ _)
    · obtain ⟨hb270, hlost⟩ := ok_len hok
      simp only at hb270 hlost
      rw [← unhide HN] at hb270
      have HCN := hide (countable_any a n c lost ((n : Int) + (m : Int)) w3 (by omega) (by omega))
      go_wp2_with fail
      refine (unhide HCN).mono ?_
      rintro e w4 ⟨rfl, b4⟩
      have B4 := hide ((unhide B3).trans (b4.mono (unhide B3).size))
      have XS4 := hide ((unhide XS3).up b4)
      have XR4 := hide ((unhide XR3).up b4)
      clear b4 B3 XS3 XR3 s0 s1 HCN
      by_cases g3 : 9223372036854775807 - (m : Int) - (n : Int) < lost
      · have HNO := hide (show feedB ⟨buf, lost⟩ bs = false by unfold feedB; rw [decide_eq_false (show ¬ lost ≤ 9223372036854775807 - (bs.length : Int) - (buf.length : Int) by rw [← unhide HM, ← unhide HN]; omega)]; simp)
        rw [decide_eq_false (show ¬ lost ≤ 9223372036854775807 - ((n : Int) + (m : Int)) by omega)]
        obtain ⟨⟨y0, y1⟩, z0, z1⟩ := two33 (unhide XR4)
        have HE := hide (fun (W : World) (t : Turn [w.heap.size + 1] w4 W) => retFeedJ_no (unhide HNO) ((unhide B4).trans (t.below (unhide B4).size (by simp))))
        clear hok
        go_wp2_with fail
        refine bodyPost_ret (v := .tuple #[.agg #[.slice none 0 0, .int .i64 0], .slice none 0 0, .bool false]) (by simp [results, Try.results13, go_sem, y0, y1]) rfl ?_
        exact unhide HE _ (((Turn.refl [w.heap.size + 1] w4).setCell (g := w.heap.size + 1) (by simp) _ _).setCell (g := w.heap.size + 1) (by simp) _ _)
      · have HYES := hide (show feedB ⟨buf, lost⟩ bs = true by unfold feedB; rw [hok, decide_eq_true (show bs.length ≤ 4000 by rw [← unhide HM]; omega), decide_eq_true (show lost ≤ 9223372036854775807 - (bs.length : Int) - (buf.length : Int) by rw [← unhide HM, ← unhide HN]; omega)]; rfl)
        rw [decide_eq_true (show lost ≤ 9223372036854775807 - ((n : Int) + (m : Int)) by omega)]
        clear hok
        go_upto_region 3 with fail
        go_cut [7] (fun s7 wx => ∃ ga ra rn rc, s7 = .pointer (some ⟨ga, 0, none⟩) ∧ Hid (Lis wx ga ra rn rc lost) ∧ Hid (ByU 0 wx (.slice ra rn rc) (buf ++ bs)) ∧ Hid (BoxF wx w.heap.size [.slice a n c, .int .i64 lost]) ∧ Hid (BoxF wx (w.heap.size + 1) [.slice none 0 0, .int .i64 0]) ∧ Hid (Below w.heap.size w wx) ∧ Hid (w.heap.size + 2 ≤ ga))
        case first =>
          have hS := (two33 ((unhide XS4).up (Below.refl w4.heap.size w4).drew)).1
          have BD := hide ((unhide B4).trans ((Below.refl w4.heap.size w4).drew.mono (unhide B4).size))
          have XSD := hide ((unhide XS4).up (Below.refl w4.heap.size w4).drew)
          have XRD := hide ((unhide XR4).up (Below.refl w4.heap.size w4).drew)
          refine wp_region_held_drew (S := fun X : World => X.cell? ⟨w.heap.size, 0, none⟩ = some (.slice a n c) ∧ X.cell? ⟨w.heap.size, 1, none⟩ = some (.int .i64 lost)) (by kernel_rfl) hS ?_
          intro hS
          generalize w4.drew = VD at *
          refine wpAnyH_take (i := 0) (v := .pointer (some ⟨w.heap.size, 0, none⟩)) rfl (by kernel_rfl) (by kernel_rfl) (by kernel_rfl) (fun _ _ _ h => h) (Or.inl ⟨by rfl, ?_⟩) hS ?_
          · intro X hX
            obtain ⟨hX1, hX2⟩ := hX
            clear hS
            go_simp
            try with_reducible rfl
          try simp [Act.put]
          refine wpAnyH_take (i := 1) (v := .slice a n c) rfl (by kernel_rfl) (by kernel_rfl) (by kernel_rfl) (fun _ _ _ h => h) (Or.inl ⟨by rfl, ?_⟩) hS ?_
          · intro X hX
            obtain ⟨hX1, hX2⟩ := hX
            clear hS
            go_simp
            try with_reducible rfl
          try simp [Act.put]
          refine wpAnyH_take (i := 2) (v := .slice a1 m c1) rfl (by kernel_rfl) (by kernel_rfl) (by kernel_rfl) (fun _ _ _ h => h) (Or.inl ⟨by rfl, ?_⟩) hS ?_
          · intro X hX
            obtain ⟨hX1, hX2⟩ := hX
            clear hS
            go_simp
            try with_reducible rfl
          try simp [Act.put]
          refine wpAnyH_take (i := 6) (v := .pointer (some ⟨w.heap.size, 1, none⟩)) rfl (by kernel_rfl) (by kernel_rfl) (by kernel_rfl) (fun _ _ _ h => h) (Or.inl ⟨by rfl, ?_⟩) hS ?_
          · intro X hX
            obtain ⟨hX1, hX2⟩ := hX
            clear hS
            go_simp
            try with_reducible rfl
          try simp [Act.put]
          refine wpAnyH_take (i := 7) (v := .int .i64 lost) rfl (by kernel_rfl) (by kernel_rfl) (by kernel_rfl) (fun _ _ _ h => h) (Or.inl ⟨by rfl, ?_⟩) hS ?_
          · intro X hX
            obtain ⟨hX1, hX2⟩ := hX
            clear hS
            go_simp
            try with_reducible rfl
          try simp [Act.put]
          refine wpAnyH_ready (rs := [3, 9]) (by kernel_rfl) (by simp) ?_
          refine AllReadyH.cons rfl (fun K hK => ?_) (AllReadyH.cons rfl (fun K hK => ?_) (AllReadyH.nil))
          · skip
            go_simp
            have B2 := hide ((unhide BD).trans ((allocBI VD (.cells #[.slice a n c, .slice a1 m c1] 22)).mono (unhide BD).size))
            have XS3 := hide ((unhide XSD).up (allocBI VD (.cells #[.slice a n c, .slice a1 m c1] 22)))
            have XR4 := hide ((unhide XRD).up (allocBI VD (.cells #[.slice a n c, .slice a1 m c1] 22)))
            have LC5 := hide (show BoxF (VD.alloc (.cells #[.slice a n c, .slice a1 m c1] 22)) VD.heap.size [.slice a n c, .slice a1 m c1] from boxF_new VD [.slice a n c, .slice a1 m c1] 22)
            have hS2 := (two33 (unhide XS3)).1
            refine hK.out _ _ hS2 ?_
            clear hK K hS hS2
            intro hS
            generalize VD.alloc (.cells #[.slice a n c, .slice a1 m c1] 22) = V1 at *
            generalize VD.heap.size = gl6 at *
            clear BD XSD XRD
            try simp [Act.put]
            refine wpAnyH_ready (rs := [4, 9]) (by kernel_rfl) (by simp) ?_
            refine AllReadyH.cons rfl (fun K hK => ?_) (AllReadyH.cons rfl (fun K hK => ?_) (AllReadyH.nil))
            · skip
              go_simp
              refine (concat2_any V1 gl6 2 (.slice a n c) (.slice a1 m c1) buf bs (unhide LC5).1.1 (two33 (unhide LC5)).1.1 (two33 (unhide LC5)).1.2 ((unhide H0).up (unhide B2)) ((unhide H2).up (unhide B2)) (by rw [← unhide HN, ← unhide HM]; omega)).mono ?_
              rintro e w7 ⟨ra, rn, rc, rfl, HRN, rr, bC⟩
              have RC8 := hide rr
              have B9 := hide ((unhide B2).trans (bC.mono (unhide B2).size))
              have XS10 := hide ((unhide XS3).up bC)
              have XR11 := hide ((unhide XR4).up bC)
              have LC12 := hide ((unhide LC5).up bC)
              have hS2 := (two33 (unhide XS10)).1
              refine hK.out _ _ hS2 ?_
              clear hK K hS hS2 rr bC
              intro hS
              clear B2 XS3 LC5
              try simp [Act.put]
              refine wpAnyH_take (i := 5) (v := .agg #[.slice ra rn rc]) rfl (by kernel_rfl) (by kernel_rfl) (by kernel_rfl) (fun _ _ _ h => h) (Or.inl ⟨by rfl, ?_⟩) hS ?_
              · intro X hX
                obtain ⟨hX1, hX2⟩ := hX
                clear hS
                go_simp
                try with_reducible rfl
              try simp [Act.put]
              refine wpAnyH_take (i := 8) (v := .agg #[.slice ra rn rc, .int .i64 lost]) rfl (by kernel_rfl) (by kernel_rfl) (by kernel_rfl) (fun _ _ _ h => h) (Or.inl ⟨by rfl, ?_⟩) hS ?_
              · intro X hX
                obtain ⟨hX1, hX2⟩ := hX
                clear hS
                go_simp
                try with_reducible rfl
              try simp [Act.put]
              refine wpAnyH_ready (rs := [9]) (by kernel_rfl) (by simp) ?_
              refine AllReadyH.cons rfl (fun K hK => ?_) (AllReadyH.nil)
              go_simp
              have B14 := hide ((unhide B9).trans ((allocBI w7 (.cells #[.slice none 0 0, .int .i64 0] 76)).mono (unhide B9).size))
              have XS15 := hide ((unhide XS10).up (allocBI w7 (.cells #[.slice none 0 0, .int .i64 0] 76)))
              have XR16 := hide ((unhide XR11).up (allocBI w7 (.cells #[.slice none 0 0, .int .i64 0] 76)))
              have LC17 := hide ((unhide LC12).up (allocBI w7 (.cells #[.slice none 0 0, .int .i64 0] 76)))
              have RC18 := hide ((unhide RC8).up (allocBI w7 (.cells #[.slice none 0 0, .int .i64 0] 76)))
              have LI19 := hide (show Lis (w7.alloc (.cells #[.slice none 0 0, .int .i64 0] 76)) w7.heap.size none 0 0 0 from World.alloc_heap_new w7 _)
              have HGA21 := hide (show w.heap.size + 2 ≤ w7.heap.size from by have := (unhide XR11).1.1; omega)
              have hS2 := (two33 (unhide XS15)).1
              refine hK.out _ _ hS2 ?_
              clear hK K hS hS2
              intro hS
              generalize w7.alloc (.cells #[.slice none 0 0, .int .i64 0] 76) = V13 at *
              generalize w7.heap.size = ga20 at *
              clear B9 XS10 XR11 LC12 RC8
              try simp [Act.put]
              obtain ⟨q0, q1⟩ := (unhide LI19).cells
              have f0 := (unhide LI19).frozen 0
              have f1 := (unhide LI19).frozen 1
              have LF := hide (((unhide LI19).set0 ra rn rc).set1 lost)
              have KU := hide (((unhide LI19).keepU 0 (.slice ra rn rc)).trans (((unhide LI19).set0 ra rn rc).keepU 1 (.int .i64 lost)))
              have TL := hide (((Turn.refl [ga20] V13).setCell (g := ga20) (by simp) 0 (.slice ra rn rc)).setCell (g := ga20) (by simp) 1 (.int .i64 lost))
              refine wpAnyH_ready (rs := [10]) (by kernel_rfl) (by simp) ?_
              refine AllReadyH.cons rfl (fun K hK => ?_) AllReadyH.nil
              go_simp
              refine hK.out _ _ (farL (unhide HGA21) hS) ?_
              clear hK K
              intro hS9
              refine wpAnyH_done (by kernel_rfl) ?_ _
              clear hS9 hS q0 q1 f0 f1
              go_wp2_with fail
              go_meet
              exact ⟨ga20, ra, rn, rc, rfl, LF, hide (ByU.keepG (n₀ := 0) (ByU.of_row (unhide RC18)) ⟨unhide KU, fun k hk => absurd hk (Nat.not_lt_zero k)⟩), hide ((unhide XS15).turn (unhide TL) (by have := unhide HGA21; simp; omega)), hide ((unhide XR16).turn (unhide TL) (by have := unhide HGA21; simp; omega)), hide ((unhide B14).trans ((unhide TL).below (unhide B14).size (by have := unhide HGA21; simp; omega))), HGA21⟩
            · skip
              go_simp
              have B23 := hide ((unhide B2).trans ((allocBI V1 (.cells #[.slice none 0 0, .int .i64 0] 76)).mono (unhide B2).size))
              have XS24 := hide ((unhide XS3).up (allocBI V1 (.cells #[.slice none 0 0, .int .i64 0] 76)))
              have XR25 := hide ((unhide XR4).up (allocBI V1 (.cells #[.slice none 0 0, .int .i64 0] 76)))
              have LC26 := hide ((unhide LC5).up (allocBI V1 (.cells #[.slice none 0 0, .int .i64 0] 76)))
              have LI27 := hide (show Lis (V1.alloc (.cells #[.slice none 0 0, .int .i64 0] 76)) V1.heap.size none 0 0 0 from World.alloc_heap_new V1 _)
              have HGA29 := hide (show w.heap.size + 2 ≤ V1.heap.size from by have := (unhide XR4).1.1; omega)
              have hS2 := (two33 (unhide XS24)).1
              refine hK.out _ _ hS2 ?_
              clear hK K hS hS2
              intro hS
              generalize V1.alloc (.cells #[.slice none 0 0, .int .i64 0] 76) = V22 at *
              generalize V1.heap.size = ga28 at *
              clear B2 XS3 LC5
              try simp [Act.put]
              refine wpAnyH_ready (rs := [4]) (by kernel_rfl) (by simp) ?_
              refine AllReadyH.cons rfl (fun K hK => ?_) (AllReadyH.nil)
              go_simp
              refine (concat2_any V22 gl6 2 (.slice a n c) (.slice a1 m c1) buf bs (unhide LC26).1.1 (two33 (unhide LC26)).1.1 (two33 (unhide LC26)).1.2 ((unhide H0).up (unhide B23)) ((unhide H2).up (unhide B23)) (by rw [← unhide HN, ← unhide HM]; omega)).mono ?_
              rintro e w30 ⟨ra, rn, rc, rfl, HRN, rr, bC⟩
              have RC31 := hide rr
              have B32 := hide ((unhide B23).trans (bC.mono (unhide B23).size))
              have XS33 := hide ((unhide XS24).up bC)
              have XR34 := hide ((unhide XR25).up bC)
              have LC35 := hide ((unhide LC26).up bC)
              have LI36 := hide ((unhide LI27).up bC)
              have hS2 := (two33 (unhide XS33)).1
              refine hK.out _ _ hS2 ?_
              clear hK K hS hS2 rr bC
              intro hS
              clear B23 XS24 XR25 LC26 LI27
              try simp [Act.put]
              refine wpAnyH_take (i := 5) (v := .agg #[.slice ra rn rc]) rfl (by kernel_rfl) (by kernel_rfl) (by kernel_rfl) (fun _ _ _ h => h) (Or.inl ⟨by rfl, ?_⟩) hS ?_
              · intro X hX
                obtain ⟨hX1, hX2⟩ := hX
                clear hS
                go_simp
                try with_reducible rfl
              try simp [Act.put]
              refine wpAnyH_take (i := 8) (v := .agg #[.slice ra rn rc, .int .i64 lost]) rfl (by kernel_rfl) (by kernel_rfl) (by kernel_rfl) (fun _ _ _ h => h) (Or.inl ⟨by rfl, ?_⟩) hS ?_
              · intro X hX
                obtain ⟨hX1, hX2⟩ := hX
                clear hS
                go_simp
                try with_reducible rfl
              try simp [Act.put]
              obtain ⟨q0, q1⟩ := (unhide LI36).cells
              have f0 := (unhide LI36).frozen 0
              have f1 := (unhide LI36).frozen 1
              have LF := hide (((unhide LI36).set0 ra rn rc).set1 lost)
              have KU := hide (((unhide LI36).keepU 0 (.slice ra rn rc)).trans (((unhide LI36).set0 ra rn rc).keepU 1 (.int .i64 lost)))
              have TL := hide (((Turn.refl [ga28] w30).setCell (g := ga28) (by simp) 0 (.slice ra rn rc)).setCell (g := ga28) (by simp) 1 (.int .i64 lost))
              refine wpAnyH_ready (rs := [10]) (by kernel_rfl) (by simp) ?_
              refine AllReadyH.cons rfl (fun K hK => ?_) AllReadyH.nil
              go_simp
              refine hK.out _ _ (farL (unhide HGA29) hS) ?_
              clear hK K
              intro hS9
              refine wpAnyH_done (by kernel_rfl) ?_ _
              clear hS9 hS q0 q1 f0 f1
              go_wp2_with fail
              go_meet
              exact ⟨ga28, ra, rn, rc, rfl, LF, hide (ByU.keepG (n₀ := 0) (ByU.of_row (unhide RC31)) ⟨unhide KU, fun k hk => absurd hk (Nat.not_lt_zero k)⟩), hide ((unhide XS33).turn (unhide TL) (by have := unhide HGA29; simp; omega)), hide ((unhide XR34).turn (unhide TL) (by have := unhide HGA29; simp; omega)), hide ((unhide B32).trans ((unhide TL).below (unhide B32).size (by have := unhide HGA29; simp; omega))), HGA29⟩
          · skip
            go_simp
            have B38 := hide ((unhide BD).trans ((allocBI VD (.cells #[.slice none 0 0, .int .i64 0] 76)).mono (unhide BD).size))
            have XS39 := hide ((unhide XSD).up (allocBI VD (.cells #[.slice none 0 0, .int .i64 0] 76)))
            have XR40 := hide ((unhide XRD).up (allocBI VD (.cells #[.slice none 0 0, .int .i64 0] 76)))
            have LI41 := hide (show Lis (VD.alloc (.cells #[.slice none 0 0, .int .i64 0] 76)) VD.heap.size none 0 0 0 from World.alloc_heap_new VD _)
            have HGA43 := hide (show w.heap.size + 2 ≤ VD.heap.size from by have := (unhide XRD).1.1; omega)
            have hS2 := (two33 (unhide XS39)).1
            refine hK.out _ _ hS2 ?_
            clear hK K hS hS2
            intro hS
            generalize VD.alloc (.cells #[.slice none 0 0, .int .i64 0] 76) = V37 at *
            generalize VD.heap.size = ga42 at *
            clear BD XSD XRD
            try simp [Act.put]
            refine wpAnyH_ready (rs := [3]) (by kernel_rfl) (by simp) ?_
            refine AllReadyH.cons rfl (fun K hK => ?_) (AllReadyH.nil)
            go_simp
            have B45 := hide ((unhide B38).trans ((allocBI V37 (.cells #[.slice a n c, .slice a1 m c1] 22)).mono (unhide B38).size))
            have XS46 := hide ((unhide XS39).up (allocBI V37 (.cells #[.slice a n c, .slice a1 m c1] 22)))
            have XR47 := hide ((unhide XR40).up (allocBI V37 (.cells #[.slice a n c, .slice a1 m c1] 22)))
            have LI48 := hide ((unhide LI41).up (allocBI V37 (.cells #[.slice a n c, .slice a1 m c1] 22)))
            have LC49 := hide (show BoxF (V37.alloc (.cells #[.slice a n c, .slice a1 m c1] 22)) V37.heap.size [.slice a n c, .slice a1 m c1] from boxF_new V37 [.slice a n c, .slice a1 m c1] 22)
            have hS2 := (two33 (unhide XS46)).1
            refine hK.out _ _ hS2 ?_
            clear hK K hS hS2
            intro hS
            generalize V37.alloc (.cells #[.slice a n c, .slice a1 m c1] 22) = V44 at *
            generalize V37.heap.size = gl50 at *
            clear B38 XS39 XR40 LI41
            try simp [Act.put]
            refine wpAnyH_ready (rs := [4]) (by kernel_rfl) (by simp) ?_
            refine AllReadyH.cons rfl (fun K hK => ?_) (AllReadyH.nil)
            go_simp
            refine (concat2_any V44 gl50 2 (.slice a n c) (.slice a1 m c1) buf bs (unhide LC49).1.1 (two33 (unhide LC49)).1.1 (two33 (unhide LC49)).1.2 ((unhide H0).up (unhide B45)) ((unhide H2).up (unhide B45)) (by rw [← unhide HN, ← unhide HM]; omega)).mono ?_
            rintro e w51 ⟨ra, rn, rc, rfl, HRN, rr, bC⟩
            have RC52 := hide rr
            have B53 := hide ((unhide B45).trans (bC.mono (unhide B45).size))
            have XS54 := hide ((unhide XS46).up bC)
            have XR55 := hide ((unhide XR47).up bC)
            have LC56 := hide ((unhide LC49).up bC)
            have LI57 := hide ((unhide LI48).up bC)
            have hS2 := (two33 (unhide XS54)).1
            refine hK.out _ _ hS2 ?_
            clear hK K hS hS2 rr bC
            intro hS
            clear B45 XS46 XR47 LC49 LI48
            try simp [Act.put]
            refine wpAnyH_take (i := 5) (v := .agg #[.slice ra rn rc]) rfl (by kernel_rfl) (by kernel_rfl) (by kernel_rfl) (fun _ _ _ h => h) (Or.inl ⟨by rfl, ?_⟩) hS ?_
            · intro X hX
              obtain ⟨hX1, hX2⟩ := hX
              clear hS
              go_simp
              try with_reducible rfl
            try simp [Act.put]
            refine wpAnyH_take (i := 8) (v := .agg #[.slice ra rn rc, .int .i64 lost]) rfl (by kernel_rfl) (by kernel_rfl) (by kernel_rfl) (fun _ _ _ h => h) (Or.inl ⟨by rfl, ?_⟩) hS ?_
            · intro X hX
              obtain ⟨hX1, hX2⟩ := hX
              clear hS
              go_simp
              try with_reducible rfl
            try simp [Act.put]
            obtain ⟨q0, q1⟩ := (unhide LI57).cells
            have f0 := (unhide LI57).frozen 0
            have f1 := (unhide LI57).frozen 1
            have LF := hide (((unhide LI57).set0 ra rn rc).set1 lost)
            have KU := hide (((unhide LI57).keepU 0 (.slice ra rn rc)).trans (((unhide LI57).set0 ra rn rc).keepU 1 (.int .i64 lost)))
            have TL := hide (((Turn.refl [ga42] w51).setCell (g := ga42) (by simp) 0 (.slice ra rn rc)).setCell (g := ga42) (by simp) 1 (.int .i64 lost))
            refine wpAnyH_ready (rs := [10]) (by kernel_rfl) (by simp) ?_
            refine AllReadyH.cons rfl (fun K hK => ?_) AllReadyH.nil
            go_simp
            refine hK.out _ _ (farL (unhide HGA43) hS) ?_
            clear hK K
            intro hS9
            refine wpAnyH_done (by kernel_rfl) ?_ _
            clear hS9 hS q0 q1 f0 f1
            go_wp2_with fail
            go_meet
            exact ⟨ga42, ra, rn, rc, rfl, LF, hide (ByU.keepG (n₀ := 0) (ByU.of_row (unhide RC52)) ⟨unhide KU, fun k hk => absurd hk (Nat.not_lt_zero k)⟩), hide ((unhide XS54).turn (unhide TL) (by have := unhide HGA43; simp; omega)), hide ((unhide XR55).turn (unhide TL) (by have := unhide HGA43; simp; omega)), hide ((unhide B53).trans ((unhide TL).below (unhide B53).size (by have := unhide HGA43; simp; omega))), HGA43⟩
        case rest =>
          obtain ⟨ga, ra, rn, rc, rfl, LI, RU, XS, XR, BB, HGA⟩ := hcut
          clear XS4 XR4 B4
          obtain ⟨hrn, hrc⟩ := by_len (unhide RU).rd
          rw [List.length_append, ← unhide HN, ← unhide HM] at hrn
          have HRN := hide hrn
          clear hrn
          go_wp2_with fail
          refine (bodies_any wc ga).mono ?_
          rintro e w5 ⟨rfl, hw5⟩
          have b5 := allocBI wc (.cells #[.pointer (some ⟨ga, 0, none⟩)] 109)
          have P5 := hide (Boxed.new wc 109 (.pointer (some ⟨ga, 0, none⟩)))
          rw [← hw5] at b5 P5
          have L5 := hide ((unhide LI).up b5)
          have U5 := hide ((unhide RU).keepG (KeepG.below b5 (Nat.zero_le _)))
          have XS5 := hide ((unhide XS).up b5)
          have XR5 := hide ((unhide XR).up b5)
          have B5 := hide ((unhide BB).trans (b5.mono (unhide BB).size))
          have HG5 := hide (show wc.heap.size ≠ ga from by have := (unhide LI).lt; omega)
          clear hw5 b5 LI RU XS XR BB
          generalize wc.heap.size = Bl at *
          have HLN := hide (show rn = (buf ++ bs).length by rw [List.length_append, ← unhide HN, ← unhide HM]; exact unhide HRN)
          have HCO := hide (collect_any 0 Bl ga w5.heap.size (Nat.zero_le _) (buf ++ bs) (by rw [← unhide HLN, unhide HRN]; omega) lost hlost (by rw [← unhide HLN, unhide HRN]; omega) (unhide HG5) w5 ra rc (Nat.le_refl _) (by rw [← unhide HLN]; exact unhide L5) (unhide P5) (by rw [← unhide HLN]; exact unhide U5))
          clear L5 U5 P5 HLN
          go_wp2_with fail
          refine (unhide HCO).mono ?_
          rintro e w6 ⟨va, vn, vc, pre, rfl, RV, BS, T6⟩
          obtain ⟨RI, ⟨xa, xn, xc, L6, U6⟩, -⟩ := unhide BS
          have LI6 := hide L6
          have RU6 := hide U6
          have RI6 := hide RI
          have XS6 := hide ((unhide XS5).turn (unhide T6) (by have := unhide HGA; simp; omega))
          have XR6 := hide ((unhide XR5).turn (unhide T6) (by have := unhide HGA; simp; omega))
          have B6 := hide ((unhide B5).trans ((unhide T6).below (unhide B5).size (by have := unhide HGA; simp; omega)))
          have Z6 := hide (unhide T6).size
          have Z5 := hide (show w.heap.size + 2 ≤ w5.heap.size from by have h1 := (unhide XR5).1.1; omega)
          have HW := hide (walk_len (buf ++ bs)).1
          obtain ⟨q, HQ⟩ : ∃ q, Hid ((walkW (buf ++ bs)).2.2 = q) := ⟨_, hide rfl⟩
          rw [unhide HQ] at LI6
          clear L6 U6 RI BS T6 XS5 XR5 B5 HCO
          go_upto_region 5 with fail
          have hS := (unhide LI6).cells
          have KD := hide (Below.refl w6.heap.size w6).drew
          refine wp_region_held_drew (S := fun X : World => X.cell? ⟨ga, 0, none⟩ = some (.slice xa xn xc) ∧ X.cell? ⟨ga, 1, none⟩ = some (.int .i64 (lost + (q : Int)))) (by kernel_rfl) ((unhide LI6).up (unhide KD)).cells ?_
          intro hS
          have RU7 := hide ((unhide RU6).keepG (KeepG.below (unhide KD) (Nat.zero_le _)))
          have LI7 := hide ((unhide LI6).up (unhide KD))
          have RI7 := hide ((unhide RI6).keepU (KeepU.below (unhide KD)))
          have RV7 := hide ((unhide RV).up (unhide KD))
          have XR7 := hide ((unhide XR6).up (unhide KD))
          have B7 := hide ((unhide B6).trans ((unhide KD).mono (unhide B6).size))
          have Z7 := hide (Nat.le_trans (unhide Z6) (unhide KD).size)
          clear RU6 LI6 RI6 RV XR6 XS6 B6
          generalize w6.drew = W7 at *
          refine wpAnyH_take (i := 0) (v := .pointer (some ⟨ga, 0, none⟩)) rfl (by kernel_rfl) (by kernel_rfl) (by kernel_rfl) (fun _ _ _ h => h) (Or.inl ⟨by rfl, ?_⟩) hS ?_
          · intro X hX
            obtain ⟨hX1, hX2⟩ := hX
            clear hS
            go_simp
            try with_reducible rfl
          try simp [Act.put]
          refine wpAnyH_take (i := 1) (v := .pointer (some ⟨ga, 0, none⟩)) rfl (by kernel_rfl) (by kernel_rfl) (by kernel_rfl) (fun _ _ _ h => h) (Or.inl ⟨by rfl, ?_⟩) hS ?_
          · intro X hX
            obtain ⟨hX1, hX2⟩ := hX
            clear hS
            go_simp
            try with_reducible rfl
          try simp [Act.put]
          refine wpAnyH_take (i := 2) (v := .slice xa xn xc) rfl (by kernel_rfl) (by kernel_rfl) (by kernel_rfl) (fun _ _ _ h => h) (Or.inl ⟨by rfl, ?_⟩) hS ?_
          · intro X hX
            obtain ⟨hX1, hX2⟩ := hX
            clear hS
            go_simp
            try with_reducible rfl
          try simp [Act.put]
          refine wpAnyH_take (i := 4) (v := .pointer (some ⟨ga, 1, none⟩)) rfl (by kernel_rfl) (by kernel_rfl) (by kernel_rfl) (fun _ _ _ h => h) (Or.inl ⟨by rfl, ?_⟩) hS ?_
          · intro X hX
            obtain ⟨hX1, hX2⟩ := hX
            clear hS
            go_simp
            try with_reducible rfl
          try simp [Act.put]
          refine wpAnyH_take (i := 5) (v := .int .i64 (lost + (q : Int))) rfl (by kernel_rfl) (by kernel_rfl) (by kernel_rfl) (fun _ _ _ h => h) (Or.inl ⟨by rfl, ?_⟩) hS ?_
          · intro X hX
            obtain ⟨hX1, hX2⟩ := hX
            clear hS
            go_simp
            try with_reducible rfl
          try simp [Act.put]
          refine wpAnyH_take (i := 7) (v := .slice va vn vc) rfl (by kernel_rfl) (by kernel_rfl) (by kernel_rfl) (fun _ _ _ h => h) (Or.inl ⟨by rfl, ?_⟩) hS ?_
          · intro X hX
            obtain ⟨hX1, hX2⟩ := hX
            clear hS
            go_simp
            try with_reducible rfl
          try simp [Act.put]
          obtain ⟨Q, OW, QG⟩ := bss_own (unhide RV7) (unhide RI7)
          have QL := hide OW.lt
          have OW7 := hide OW
          have HQG := hide QG
          clear OW QG
          refine wpAnyH_ready (rs := [3]) (by kernel_rfl) (by simp) ?_
          refine AllReadyH.cons rfl (fun K hK => ?_) AllReadyH.nil
          go_simp
          refine (clone_any W7 (.slice xa xn xc) (walkW (buf ++ bs)).2.1 (unhide RU7).rd (by have := unhide HW; rw [List.length_append, ← unhide HN, ← unhide HM] at this; omega)).mono ?_
          rintro e w8 ⟨ka, kn, kc, rfl, HKN, rk, bK⟩
          have RK := hide rk
          have LI8 := hide ((unhide LI7).up bK)
          have XR8 := hide ((unhide XR7).up bK)
          have B8 := hide ((unhide B7).trans (bK.mono (unhide B7).size))
          have OW8 := hide ((unhide OW7).up bK)
          have RV8 := hide ((unhide RV7).up bK)
          have RI8 := hide ((unhide RI7).keepU (KeepU.below bK))
          refine hK.out _ _ (unhide LI8).cells ?_
          clear hK K hS rk bK LI7 XR7 B7 OW7 RU7 RV7 RI7
          intro hS
          try simp [Act.put]
          refine wpAnyH_take (i := 6) (v := .agg #[.slice ka kn kc, .int .i64 (lost + (q : Int))]) rfl (by kernel_rfl) (by kernel_rfl) (by kernel_rfl) (fun _ _ _ h => h) (Or.inl ⟨by rfl, ?_⟩) hS ?_
          · intro X hX
            obtain ⟨hX1, hX2⟩ := hX
            clear hS
            go_simp
            try with_reducible rfl
          try simp [Act.put]
          obtain ⟨⟨y0, y1⟩, z0, z1⟩ := two33 (unhide XR8)
          obtain ⟨S, KO, KG, -⟩ := (unhide RK).own
          have HE := hide (fun (W : World) (t : Turn [w.heap.size + 1] w8 W) => show RetFeedJ ⟨buf, lost⟩ bs w (.returned (.tuple #[.agg #[.slice ka kn kc, .int .i64 (lost + (q : Int))], .slice va vn vc, .bool true])) W from
            ⟨_, S, _, Q, pre.map toV, by rw [unhide HYES], hide (by unfold feedS; rw [unhide HYES]; exact ⟨_, by rw [← unhide HQ]; rfl, KO.turn t (fun k hk hm => by have := KG k hk; have := unhide Z7; have := unhide Z5; simp at hm; omega)⟩), hide (fun k hk => by have := KG k hk; have := unhide Z7; have := unhide Z5; omega), hide (by unfold feedH; rw [unhide HYES]; exact (unhide OW8).turn t (fun k hk hm => by have := unhide HQG k hk; have := unhide Z5; simp at hm; omega)), hide (fun k hk => by have := unhide HQG k hk; have := unhide Z5; omega), hide (fun k hk hm => by have := KG k hk; have := unhide QL k hm; omega), hide (((unhide RV8).turn t (by have := unhide Z5; simp; omega)).mono (by have := unhide Z5; omega)), hide (by unfold feedH; rw [unhide HYES]; exact ((unhide RI8).turn t (by have := unhide Z5; simp; omega)).mono (by have := unhide Z5; omega)), (unhide B8).trans (t.below (unhide B8).size (by simp))⟩)
          refine wpAnyH_ready (rs := [8]) (by kernel_rfl) (by simp) ?_
          refine AllReadyH.cons rfl (fun K hK => ?_) AllReadyH.nil
          go_simp
          refine hK.out _ _ (farR (show w.heap.size + 1 ≠ ga by have := unhide HGA; omega) hS) ?_
          clear hK K hS KO KG RK OW8 LI8 XR8 B8 RV8 RI8
          intro hS
          try simp [Act.put]
          refine wpAnyH_take (i := 9) (v := .slice va vn vc) rfl (by kernel_rfl) (by kernel_rfl) (by kernel_rfl) (fun _ _ _ h => h) (Or.inl ⟨by rfl, ?_⟩) hS ?_
          · intro X hX
            obtain ⟨hX1, hX2⟩ := hX
            clear hS
            go_simp
            try with_reducible rfl
          try simp [Act.put]
          refine wpAnyH_take (i := 10) (v := .bool true) rfl (by kernel_rfl) (by kernel_rfl) (by kernel_rfl) (fun _ _ _ h => h) (Or.inl ⟨by rfl, ?_⟩) hS ?_
          · intro X hX
            obtain ⟨hX1, hX2⟩ := hX
            clear hS
            go_simp
            try with_reducible rfl
          try simp [Act.put]
          refine wpAnyH_done (by kernel_rfl) ?_ _
          clear hS
          go_wp2_with fail
          refine bodyPost_ret (v := .tuple #[.agg #[.slice ka kn kc, .int .i64 (lost + (q : Int))], .slice va vn vc, .bool true]) (by simp [results, Try.results13, go_sem, y0, y1]) rfl ?_
          exact unhide HE _ (((Turn.refl [w.heap.size + 1] w8).setCell (g := w.heap.size + 1) (by simp) _ _).setCell (g := w.heap.size + 1) (by simp) _ _)
theorem implFeed_any (d : SplitV) (v : Value) (bs : List UInt8) (vb : Value) (w : World) (hs : SmallSplit d) (hb : SmallByteS bs) (h : SplitRd w v d) (h2 : ByRd w vb bs) :
    Calls Try.prog 13 #[v, vb] w fun e w' => RetFeedI d bs w e w' := (implFeed_rows d v bs vb w hs hb h h2).mono fun _ _ h => h.i
end Go.Proofs.Ytlgmmibncoedgaa
