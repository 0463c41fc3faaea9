/-
  The exact law of GatherPut, walked. (Made by wip/mkgput.py out of the law's own text.)
-/
import Derived.Test.YtknkdbfgfcgkiaaGreatDoorMerged50
import Derived.Test.YtknkdbfgfcgkiaaGreatDoorMerged49
import Derived.Deep.RegionHeld
import Derived.Deep.DeepCutAuto
import Derived.BigRegion
set_option linter.unusedVariables false
namespace Go.Proofs.YtknkdbfgfcgkiaaGreatDoor
open Go.RowKit Go.Maps Go.Deep

set_option maxRecDepth 20000 in
set_option maxHeartbeats 12800000 in
theorem walk (d : GatherV) (v_d : Value) (f : FeedV) (v_f : Value) (w : World) (hE : ErrT w) (hf_d : GatherFit d) (hr_d : GatherRd w v_d d) (hf_f : FeedFit f) (hr_f : FeedRd w v_f f) :
  Calls Tryz.prog 3 #[v_d, v_f] w fun e w' => e = .returned (.bool true) ∧ Below w.heap.size w w' := by
 have HE := hide hE
 clear hE
 have HF_d := hide hf_d
 clear hf_d
 have HR_d := hide hr_d
 obtain ⟨p_d0, p_d1, p_d2, p_d3, p_d4, p_d5, p_d6, p_d7, p_d8, rfl⟩ := hr_d.form
 clear hr_d
 have HF_f := hide hf_f
 clear hf_f
 have HR_f := hide hr_f
 obtain ⟨p_f0, p_f1, p_f2, p_f3, p_f4, rfl⟩ := hr_f.form
 clear hr_f
 go_enter Tryz.func3, Tryz.ntmps3
 obtain ⟨bx1, b2, zz3⟩ := boxNew3 w (.slice p_d0 p_d1 p_d2) (.slice p_d3 p_d4 p_d5) (.slice p_d6 p_d7 p_d8) 26
 obtain ⟨bx4, b5, zz6⟩ := boxNew3 (w.alloc (.cells #[.slice p_d0 p_d1 p_d2, .slice p_d3 p_d4 p_d5, .slice p_d6 p_d7 p_d8] 26)) (.int .i64 p_f0) (.int .i64 p_f1) (.slice p_f2 p_f3 p_f4) 30
 rw [World.size_alloc] at bx4
 go_wp2_with fail
 generalize w.alloc (.cells #[.slice p_d0 p_d1 p_d2, .slice p_d3 p_d4 p_d5, .slice p_d6 p_d7 p_d8] 26) = W7 at *
 have B9 := hide b2
 have Z10 := hide (show w.heap.size < W7.heap.size from zz3)
 have BX8 := hide bx1
 clear bx1 b2 zz3
 generalize W7.alloc (.cells #[.int .i64 p_f0, .int .i64 p_f1, .slice p_f2 p_f3 p_f4] 30) = W11 at *
 have B13 := hide ((unhide B9).trans (b5.mono (unhide B9).size))
 clear B9
 have BX14 := hide ((unhide BX8).up b5)
 clear BX8
 have Z15 := hide (show W7.heap.size < W11.heap.size from zz6)
 have BX12 := hide bx4
 clear bx4 b5 zz6
 refine (szGatherP_kitL d _ 1048576 W11 (by omega) (by omega) (unhide HF_d) ((unhide HR_d).up (unhide B13))).mono ?_
 rintro e w16 ⟨q17, rfl, ql20, HQ18, b19⟩
 have B21 := hide ((unhide B13).trans (b19.mono (unhide B13).size))
 clear B13
 have BX22 := hide ((unhide BX14).up b19)
 clear BX14
 have BX23 := hide ((unhide BX12).up b19)
 clear BX12
 have Z24 := hide (show W11.heap.size ≤ w16.heap.size from b19.size)
 clear b19
 by_cases hnegq17 : q17 < 0
 ·go_wp2_with fail
  go_ret
  exact ⟨rfl, unhide B21⟩
 have HS25 := hide (unhide HQ18 (by omega))
 obtain ⟨x26, x27, x28⟩ := (unhide BX22).three
 obtain ⟨x29, x30, x31⟩ := (unhide BX23).three
 go_wp2_with fail
 clear x26 x27 x28 x29 x30 x31
 refine (szFeed_kitL f _ q17 w16 (by omega) (by omega) (unhide HF_f) ((unhide HR_f).up (unhide B21))).mono ?_
 rintro e w32 ⟨q33, rfl, ql36, HQ34, b35⟩
 have B37 := hide ((unhide B21).trans (b35.mono (unhide B21).size))
 clear B21
 have BX38 := hide ((unhide BX22).up b35)
 clear BX22
 have BX39 := hide ((unhide BX23).up b35)
 clear BX23
 have Z40 := hide (show w16.heap.size ≤ w32.heap.size from b35.size)
 clear b35
 by_cases hnegq33 : q33 < 0
 ·go_wp2_with fail
  go_ret
  exact ⟨rfl, unhide B37⟩
 have HS41 := hide (unhide HQ34 (by omega))
 obtain ⟨N_d, HN_d⟩ : ∃ N, Hid (nGatherP d = N) := ⟨_, rfl⟩
 have NL_d : N_d ≤ 100000000 := by rw [← unhide HN_d]; exact nGatherP_le (unhide HS25)
 obtain ⟨N_f, HN_f⟩ : ∃ N, Hid (nFeed f = N) := ⟨_, rfl⟩
 have NL_f : N_f ≤ 100000000 := by rw [← unhide HN_f]; exact nFeed_le (unhide HS41)
 have HRS0 := hide (show SmallGatherF (gpG d f) from small_gpG (unhide HS25) (unhide HS41))
 obtain ⟨M_0, HM_0⟩ : ∃ N, Hid (nGatherF (gpG d f) = N) := ⟨_, rfl⟩
 have ML_0 : M_0 ≤ 100000000 := by rw [← unhide HM_0]; exact nGatherF_le (unhide HRS0)
 have HRS1 := hide (show SmallShow (gpS d f) from small_gpS (unhide HS25) (unhide HS41))
 obtain ⟨M_1, HM_1⟩ : ∃ N, Hid (nShow (gpS d f) = N) := ⟨_, rfl⟩
 have ML_1 : M_1 ≤ 100000000 := by rw [← unhide HM_1]; exact nShow_le (unhide HRS1)
 obtain ⟨x42, x43, x44⟩ := (unhide BX38).three
 obtain ⟨x45, x46, x47⟩ := (unhide BX39).three
 go_wp2_with fail
 clear x42 x43 x44 x45 x46 x47
 have BD48 := hide ((Below.refl w32.heap.size w32).drew)
 have KS49 := hide (show ∀ X : World, Below w32.heap.size w32 X → (fun (X : World) => (X.cell? ⟨w.heap.size, 0, none⟩ = some (.slice p_d0 p_d1 p_d2) ∧ X.cell? ⟨w.heap.size, 1, none⟩ = some (.slice p_d3 p_d4 p_d5) ∧ X.cell? ⟨w.heap.size, 2, none⟩ = some (.slice p_d6 p_d7 p_d8)) ∧ (X.cell? ⟨w.heap.size + 1, 0, none⟩ = some (.int .i64 p_f0) ∧ X.cell? ⟨w.heap.size + 1, 1, none⟩ = some (.int .i64 p_f1) ∧ X.cell? ⟨w.heap.size + 1, 2, none⟩ = some (.slice p_f2 p_f3 p_f4))) X from fun X b => ⟨((unhide BX38).up b).three, ((unhide BX39).up b).three⟩)
 go_cut [6, 7, 8] (fun sa sb sc wx => ∃ ga_w gb_w q_w0_0 q_w0_1 q_w0_2 q_w0_3 q_w0_4 q_w0_5 q_w0_6 q_w0_7 q_w0_8 q_w1_0 q_w1_1 q_w1_2 q_w1_3 q_w1_4 q_w1_5, sa = .pointer (some ⟨ga_w, 0, none⟩) ∧ sb = .pointer (some ⟨gb_w, 0, none⟩) ∧ sc = .int .i64 (gpC d f) ∧ Hid (BoxIs wx ga_w [.slice q_w0_0 q_w0_1 q_w0_2, .slice q_w0_3 q_w0_4 q_w0_5, .slice q_w0_6 q_w0_7 q_w0_8]) ∧ Hid (BoxIs wx gb_w [.slice q_w1_0 q_w1_1 q_w1_2, .slice q_w1_3 q_w1_4 q_w1_5]) ∧ Hid (GatherRd wx (.agg #[.slice q_w0_0 q_w0_1 q_w0_2, .slice q_w0_3 q_w0_4 q_w0_5, .slice q_w0_6 q_w0_7 q_w0_8]) (gpG d f)) ∧ Hid (ShowRd wx (.agg #[.slice q_w1_0 q_w1_1 q_w1_2, .slice q_w1_3 q_w1_4 q_w1_5]) (gpS d f)) ∧ Hid (Below w32.heap.size w32 wx))
 case first =>
  have hS := unhide KS49 _ (unhide BD48)
  refine wp_region_held_drew (S := fun (X : World) => (X.cell? ⟨w.heap.size, 0, none⟩ = some (.slice p_d0 p_d1 p_d2) ∧ X.cell? ⟨w.heap.size, 1, none⟩ = some (.slice p_d3 p_d4 p_d5) ∧ X.cell? ⟨w.heap.size, 2, none⟩ = some (.slice p_d6 p_d7 p_d8)) ∧ (X.cell? ⟨w.heap.size + 1, 0, none⟩ = some (.int .i64 p_f0) ∧ X.cell? ⟨w.heap.size + 1, 1, none⟩ = some (.int .i64 p_f1) ∧ X.cell? ⟨w.heap.size + 1, 2, none⟩ = some (.slice p_f2 p_f3 p_f4))) (by kernel_rfl) hS ?_
  clear hS
  intro hS
  generalize w32.drew = WX at *
  refine wpAnyH_take (i := 0) (v := .agg #[.slice p_d0 p_d1 p_d2, .slice p_d3 p_d4 p_d5, .slice p_d6 p_d7 p_d8]) rfl (by kernel_rfl) (by kernel_rfl) (by kernel_rfl) (fun _ _ _ h => h) (Or.inl ⟨by rfl, ?_⟩) hS ?_
  ·intro X hX
   obtain ⟨⟨hxa0, hxa1, hxa2⟩, ⟨hxb0, hxb1, hxb2⟩⟩ := hX
   clear hS
   go_simp
   try with_reducible rfl
  try simp [Act.put]
  refine wpAnyH_take (i := 2) (v := .agg #[.int .i64 p_f0, .int .i64 p_f1, .slice p_f2 p_f3 p_f4]) rfl (by kernel_rfl) (by kernel_rfl) (by kernel_rfl) (fun _ _ _ h => h) (Or.inl ⟨by rfl, ?_⟩) hS ?_
  ·intro X hX
   obtain ⟨⟨hxa0, hxa1, hxa2⟩, ⟨hxb0, hxb1, hxb2⟩⟩ := hX
   clear hS
   go_simp
   try with_reducible rfl
  try simp [Act.put]
  have T50 := hide (TS.start (unhide BD48))
  refine wpAnyH_ready (rs := [1, 9, 10]) (by kernel_rfl) (by simp) ?_
  refine AllReadyH.cons rfl (fun K hK => ?_) (AllReadyH.cons rfl (fun K hK => ?_) (AllReadyH.cons rfl (fun K hK => ?_) (AllReadyH.nil)))
  ·skip
   go_simp
   refine (toGatherP_kit d _ _ (unhide HS25) ((unhide HR_d).up ((unhide B37).trans ((unhide T50).bel.mono (unhide B37).size)))).mono ?_
   rintro e X51 ⟨v53, S54, rfl, O55, L56, b57⟩
   have T52 := hide ((unhide T50).one b57 (unhide O55))
   clear L56 O55 b57
   refine hK.out _ _ (unhide KS49 _ (unhide T52).bel) ?_
   clear hK K hS T50
   intro hS
   try simp [Act.put]
   refine wpAnyH_ready (rs := [3, 9, 10]) (by kernel_rfl) (by simp) ?_
   refine AllReadyH.cons rfl (fun K hK => ?_) (AllReadyH.cons rfl (fun K hK => ?_) (AllReadyH.cons rfl (fun K hK => ?_) (AllReadyH.nil)))
   ·skip
    go_simp
    refine (toFeed_kit f _ _ (unhide HS41) ((unhide HR_f).up ((unhide B37).trans ((unhide T52).bel.mono (unhide B37).size)))).mono ?_
    rintro e X58 ⟨v60, S61, rfl, O62, L63, b64⟩
    have T59 := hide ((unhide T52).two b64 (unhide O62))
    clear L63 O62 b64
    refine hK.out _ _ (unhide KS49 _ (unhide T59).bel) ?_
    clear hK K hS T52
    intro hS
    try simp [Act.put]
    refine wpAnyH_ready (rs := [4, 9, 10]) (by kernel_rfl) (by simp) ?_
    refine AllReadyH.cons rfl (fun K hK => ?_) (AllReadyH.cons rfl (fun K hK => ?_) (AllReadyH.cons rfl (fun K hK => ?_) (AllReadyH.nil)))
    ·skip
     go_simp
     refine (spec_two d f _ _ _ (unhide HS25) (unhide HS41) (unhide T59).p.1 (unhide T59).p.2).mono ?_
     rintro e X65 ⟨q_w0_0, q_w0_1, q_w0_2, q_w0_3, q_w0_4, q_w0_5, q_w0_6, q_w0_7, q_w0_8, q_w1_0, q_w1_1, q_w1_2, q_w1_3, q_w1_4, q_w1_5, rfl, RR, b67⟩
     have T66 := hide ((unhide T59).three b67 (unhide RR))
     clear RR b67
     refine hK.out _ _ (unhide KS49 _ (unhide T66).bel) ?_
     clear hK K hS T59
     intro hS
     try simp [Act.put]
     refine wpAnyH_take (i := 5) (v := .tuple #[.agg #[.slice q_w0_0 q_w0_1 q_w0_2, .slice q_w0_3 q_w0_4 q_w0_5, .slice q_w0_6 q_w0_7 q_w0_8], .agg #[.slice q_w1_0 q_w1_1 q_w1_2, .slice q_w1_3 q_w1_4 q_w1_5], .int .i64 (gpC d f)]) rfl (by kernel_rfl) (by kernel_rfl) (by kernel_rfl) (fun _ _ _ h => h) (Or.inl ⟨by rfl, ?_⟩) hS ?_
     ·intro X _
      clear hS
      go_simp
      try with_reducible rfl
     try simp [Act.put]
     refine wpAnyH_take (i := 6) (v := .agg #[.slice q_w0_0 q_w0_1 q_w0_2, .slice q_w0_3 q_w0_4 q_w0_5, .slice q_w0_6 q_w0_7 q_w0_8]) rfl (by kernel_rfl) (by kernel_rfl) (by kernel_rfl) (fun _ _ _ h => h) (Or.inl ⟨by rfl, ?_⟩) hS ?_
     ·intro X _
      clear hS
      go_simp
      try with_reducible rfl
     try simp [Act.put]
     refine wpAnyH_take (i := 7) (v := .agg #[.slice q_w1_0 q_w1_1 q_w1_2, .slice q_w1_3 q_w1_4 q_w1_5]) rfl (by kernel_rfl) (by kernel_rfl) (by kernel_rfl) (fun _ _ _ h => h) (Or.inl ⟨by rfl, ?_⟩) hS ?_
     ·intro X _
      clear hS
      go_simp
      try with_reducible rfl
     try simp [Act.put]
     refine wpAnyH_take (i := 8) (v := .int .i64 (gpC d f)) rfl (by kernel_rfl) (by kernel_rfl) (by kernel_rfl) (fun _ _ _ h => h) (Or.inl ⟨by rfl, ?_⟩) hS ?_
     ·intro X _
      clear hS
      go_simp
      try with_reducible rfl
     try simp [Act.put]
     refine wpAnyH_ready (rs := [9, 10]) (by kernel_rfl) (by simp) ?_
     refine AllReadyH.cons rfl (fun K hK => ?_) (AllReadyH.cons rfl (fun K hK => ?_) (AllReadyH.nil))
     ·skip
      have T69 := hide (unhide T66).newA
      go_simp
      generalize X65.alloc (.cells #[.slice none 0 0, .slice none 0 0, .slice none 0 0] 36) = X68 at *
      generalize X65.heap.size = g70 at *
      refine hK.out _ _ (unhide KS49 _ (unhide T69).bel) ?_
      clear hK K hS T66
      intro hS
      try simp [Act.put]
      refine wpAnyH_ready (rs := [10]) (by kernel_rfl) (by simp) ?_
      refine AllReadyH.cons rfl (fun K hK => ?_) (AllReadyH.nil)
      have T72 := hide (unhide T69).newB
      go_simp
      generalize X68.alloc (.cells #[.slice none 0 0, .slice none 0 0] 39) = X71 at *
      generalize X68.heap.size = g73 at *
      refine hK.out _ _ (unhide KS49 _ (unhide T72).bel) ?_
      clear hK K hS T69
      intro hS
      try simp [Act.put]
      obtain ⟨fa, fb, na, nb, EA, EB, XA, XB, RA, RB⟩ := (unhide T72).done
      obtain ⟨⟨ca0, ca1, ca2⟩, fa0, fa1, fa2⟩ := fa.three
      obtain ⟨⟨cb0, cb1⟩, fb0, fb1⟩ := fb.twoF
      clear fa fb
      refine wpAnyH_ready (rs := [11]) (by kernel_rfl) (by simp) ?_
      refine AllReadyH.cons rfl (fun K hK => ?_) AllReadyH.nil
      go_simp
      refine hK.out _ _ (unhide KS49 _ (unhide EA)) ?_
      clear hK K hS
      intro hS
      try simp [Act.put]
      refine wpAnyH_ready (rs := [12]) (by kernel_rfl) (by simp) ?_
      refine AllReadyH.cons rfl (fun K hK => ?_) AllReadyH.nil
      go_simp
      refine hK.out _ _ (unhide KS49 _ (unhide EB)) ?_
      clear hK K hS
      intro hS
      try simp [Act.put]
      refine wpAnyH_take (i := 13) (v := .int .i64 (gpC d f)) rfl (by kernel_rfl) (by kernel_rfl) (by kernel_rfl) (fun _ _ _ h => h) (Or.inl ⟨by rfl, ?_⟩) hS ?_
      ·intro X _
       clear hS
       go_simp
       try with_reducible rfl
      try simp [Act.put]
      refine wpAnyH_done (by kernel_rfl) ?_ _
      clear hS ca0 ca1 ca2 cb0 cb1 fa0 fa1 fa2 fb0 fb1 na nb
      go_wp2_with fail
      go_meet
      exact ⟨_, _, _, _, _, _, _, _, _, _, _, _, _, _, _, _, _, rfl, rfl, rfl, XA, XB, RA, RB, EB⟩
     ·skip
      have T75 := hide (unhide T66).newB
      go_simp
      generalize X65.alloc (.cells #[.slice none 0 0, .slice none 0 0] 39) = X74 at *
      generalize X65.heap.size = g76 at *
      refine hK.out _ _ (unhide KS49 _ (unhide T75).bel) ?_
      clear hK K hS T66
      intro hS
      try simp [Act.put]
      refine wpAnyH_ready (rs := [9]) (by kernel_rfl) (by simp) ?_
      refine AllReadyH.cons rfl (fun K hK => ?_) (AllReadyH.nil)
      have T78 := hide (unhide T75).newA
      go_simp
      generalize X74.alloc (.cells #[.slice none 0 0, .slice none 0 0, .slice none 0 0] 36) = X77 at *
      generalize X74.heap.size = g79 at *
      refine hK.out _ _ (unhide KS49 _ (unhide T78).bel) ?_
      clear hK K hS T75
      intro hS
      try simp [Act.put]
      obtain ⟨fa, fb, na, nb, EA, EB, XA, XB, RA, RB⟩ := (unhide T78).done
      obtain ⟨⟨ca0, ca1, ca2⟩, fa0, fa1, fa2⟩ := fa.three
      obtain ⟨⟨cb0, cb1⟩, fb0, fb1⟩ := fb.twoF
      clear fa fb
      refine wpAnyH_ready (rs := [11]) (by kernel_rfl) (by simp) ?_
      refine AllReadyH.cons rfl (fun K hK => ?_) AllReadyH.nil
      go_simp
      refine hK.out _ _ (unhide KS49 _ (unhide EA)) ?_
      clear hK K hS
      intro hS
      try simp [Act.put]
      refine wpAnyH_ready (rs := [12]) (by kernel_rfl) (by simp) ?_
      refine AllReadyH.cons rfl (fun K hK => ?_) AllReadyH.nil
      go_simp
      refine hK.out _ _ (unhide KS49 _ (unhide EB)) ?_
      clear hK K hS
      intro hS
      try simp [Act.put]
      refine wpAnyH_take (i := 13) (v := .int .i64 (gpC d f)) rfl (by kernel_rfl) (by kernel_rfl) (by kernel_rfl) (fun _ _ _ h => h) (Or.inl ⟨by rfl, ?_⟩) hS ?_
      ·intro X _
       clear hS
       go_simp
       try with_reducible rfl
      try simp [Act.put]
      refine wpAnyH_done (by kernel_rfl) ?_ _
      clear hS ca0 ca1 ca2 cb0 cb1 fa0 fa1 fa2 fb0 fb1 na nb
      go_wp2_with fail
      go_meet
      exact ⟨_, _, _, _, _, _, _, _, _, _, _, _, _, _, _, _, _, rfl, rfl, rfl, XA, XB, RA, RB, EB⟩
    ·skip
     have T81 := hide (unhide T59).newA
     go_simp
     generalize X58.alloc (.cells #[.slice none 0 0, .slice none 0 0, .slice none 0 0] 36) = X80 at *
     generalize X58.heap.size = g82 at *
     refine hK.out _ _ (unhide KS49 _ (unhide T81).bel) ?_
     clear hK K hS T59
     intro hS
     try simp [Act.put]
     refine wpAnyH_ready (rs := [4, 10]) (by kernel_rfl) (by simp) ?_
     refine AllReadyH.cons rfl (fun K hK => ?_) (AllReadyH.cons rfl (fun K hK => ?_) (AllReadyH.nil))
     ·skip
      go_simp
      refine (spec_two d f _ _ _ (unhide HS25) (unhide HS41) (unhide T81).p.1 (unhide T81).p.2).mono ?_
      rintro e X83 ⟨q_w0_0, q_w0_1, q_w0_2, q_w0_3, q_w0_4, q_w0_5, q_w0_6, q_w0_7, q_w0_8, q_w1_0, q_w1_1, q_w1_2, q_w1_3, q_w1_4, q_w1_5, rfl, RR, b85⟩
      have T84 := hide ((unhide T81).three b85 (unhide RR))
      clear RR b85
      refine hK.out _ _ (unhide KS49 _ (unhide T84).bel) ?_
      clear hK K hS T81
      intro hS
      try simp [Act.put]
      refine wpAnyH_take (i := 5) (v := .tuple #[.agg #[.slice q_w0_0 q_w0_1 q_w0_2, .slice q_w0_3 q_w0_4 q_w0_5, .slice q_w0_6 q_w0_7 q_w0_8], .agg #[.slice q_w1_0 q_w1_1 q_w1_2, .slice q_w1_3 q_w1_4 q_w1_5], .int .i64 (gpC d f)]) rfl (by kernel_rfl) (by kernel_rfl) (by kernel_rfl) (fun _ _ _ h => h) (Or.inl ⟨by rfl, ?_⟩) hS ?_
      ·intro X _
       clear hS
       go_simp
       try with_reducible rfl
      try simp [Act.put]
      refine wpAnyH_take (i := 6) (v := .agg #[.slice q_w0_0 q_w0_1 q_w0_2, .slice q_w0_3 q_w0_4 q_w0_5, .slice q_w0_6 q_w0_7 q_w0_8]) rfl (by kernel_rfl) (by kernel_rfl) (by kernel_rfl) (fun _ _ _ h => h) (Or.inl ⟨by rfl, ?_⟩) hS ?_
      ·intro X _
       clear hS
       go_simp
       try with_reducible rfl
      try simp [Act.put]
      refine wpAnyH_take (i := 7) (v := .agg #[.slice q_w1_0 q_w1_1 q_w1_2, .slice q_w1_3 q_w1_4 q_w1_5]) rfl (by kernel_rfl) (by kernel_rfl) (by kernel_rfl) (fun _ _ _ h => h) (Or.inl ⟨by rfl, ?_⟩) hS ?_
      ·intro X _
       clear hS
       go_simp
       try with_reducible rfl
      try simp [Act.put]
      refine wpAnyH_take (i := 8) (v := .int .i64 (gpC d f)) rfl (by kernel_rfl) (by kernel_rfl) (by kernel_rfl) (fun _ _ _ h => h) (Or.inl ⟨by rfl, ?_⟩) hS ?_
      ·intro X _
       clear hS
       go_simp
       try with_reducible rfl
      try simp [Act.put]
      refine wpAnyH_ready (rs := [10]) (by kernel_rfl) (by simp) ?_
      refine AllReadyH.cons rfl (fun K hK => ?_) (AllReadyH.nil)
      have T87 := hide (unhide T84).newB
      go_simp
      generalize X83.alloc (.cells #[.slice none 0 0, .slice none 0 0] 39) = X86 at *
      generalize X83.heap.size = g88 at *
      refine hK.out _ _ (unhide KS49 _ (unhide T87).bel) ?_
      clear hK K hS T84
      intro hS
      try simp [Act.put]
      obtain ⟨fa, fb, na, nb, EA, EB, XA, XB, RA, RB⟩ := (unhide T87).done
      obtain ⟨⟨ca0, ca1, ca2⟩, fa0, fa1, fa2⟩ := fa.three
      obtain ⟨⟨cb0, cb1⟩, fb0, fb1⟩ := fb.twoF
      clear fa fb
      refine wpAnyH_ready (rs := [11]) (by kernel_rfl) (by simp) ?_
      refine AllReadyH.cons rfl (fun K hK => ?_) AllReadyH.nil
      go_simp
      refine hK.out _ _ (unhide KS49 _ (unhide EA)) ?_
      clear hK K hS
      intro hS
      try simp [Act.put]
      refine wpAnyH_ready (rs := [12]) (by kernel_rfl) (by simp) ?_
      refine AllReadyH.cons rfl (fun K hK => ?_) AllReadyH.nil
      go_simp
      refine hK.out _ _ (unhide KS49 _ (unhide EB)) ?_
      clear hK K hS
      intro hS
      try simp [Act.put]
      refine wpAnyH_take (i := 13) (v := .int .i64 (gpC d f)) rfl (by kernel_rfl) (by kernel_rfl) (by kernel_rfl) (fun _ _ _ h => h) (Or.inl ⟨by rfl, ?_⟩) hS ?_
      ·intro X _
       clear hS
       go_simp
       try with_reducible rfl
      try simp [Act.put]
      refine wpAnyH_done (by kernel_rfl) ?_ _
      clear hS ca0 ca1 ca2 cb0 cb1 fa0 fa1 fa2 fb0 fb1 na nb
      go_wp2_with fail
      go_meet
      exact ⟨_, _, _, _, _, _, _, _, _, _, _, _, _, _, _, _, _, rfl, rfl, rfl, XA, XB, RA, RB, EB⟩
     ·skip
      have T90 := hide (unhide T81).newB
      go_simp
      generalize X80.alloc (.cells #[.slice none 0 0, .slice none 0 0] 39) = X89 at *
      generalize X80.heap.size = g91 at *
      refine hK.out _ _ (unhide KS49 _ (unhide T90).bel) ?_
      clear hK K hS T81
      intro hS
      try simp [Act.put]
      refine wpAnyH_ready (rs := [4]) (by kernel_rfl) (by simp) ?_
      refine AllReadyH.cons rfl (fun K hK => ?_) (AllReadyH.nil)
      go_simp
      refine (spec_two d f _ _ _ (unhide HS25) (unhide HS41) (unhide T90).p.1 (unhide T90).p.2).mono ?_
      rintro e X92 ⟨q_w0_0, q_w0_1, q_w0_2, q_w0_3, q_w0_4, q_w0_5, q_w0_6, q_w0_7, q_w0_8, q_w1_0, q_w1_1, q_w1_2, q_w1_3, q_w1_4, q_w1_5, rfl, RR, b94⟩
      have T93 := hide ((unhide T90).three b94 (unhide RR))
      clear RR b94
      refine hK.out _ _ (unhide KS49 _ (unhide T93).bel) ?_
      clear hK K hS T90
      intro hS
      try simp [Act.put]
      refine wpAnyH_take (i := 5) (v := .tuple #[.agg #[.slice q_w0_0 q_w0_1 q_w0_2, .slice q_w0_3 q_w0_4 q_w0_5, .slice q_w0_6 q_w0_7 q_w0_8], .agg #[.slice q_w1_0 q_w1_1 q_w1_2, .slice q_w1_3 q_w1_4 q_w1_5], .int .i64 (gpC d f)]) rfl (by kernel_rfl) (by kernel_rfl) (by kernel_rfl) (fun _ _ _ h => h) (Or.inl ⟨by rfl, ?_⟩) hS ?_
      ·intro X _
       clear hS
       go_simp
       try with_reducible rfl
      try simp [Act.put]
      refine wpAnyH_take (i := 6) (v := .agg #[.slice q_w0_0 q_w0_1 q_w0_2, .slice q_w0_3 q_w0_4 q_w0_5, .slice q_w0_6 q_w0_7 q_w0_8]) rfl (by kernel_rfl) (by kernel_rfl) (by kernel_rfl) (fun _ _ _ h => h) (Or.inl ⟨by rfl, ?_⟩) hS ?_
      ·intro X _
       clear hS
       go_simp
       try with_reducible rfl
      try simp [Act.put]
      refine wpAnyH_take (i := 7) (v := .agg #[.slice q_w1_0 q_w1_1 q_w1_2, .slice q_w1_3 q_w1_4 q_w1_5]) rfl (by kernel_rfl) (by kernel_rfl) (by kernel_rfl) (fun _ _ _ h => h) (Or.inl ⟨by rfl, ?_⟩) hS ?_
      ·intro X _
       clear hS
       go_simp
       try with_reducible rfl
      try simp [Act.put]
      refine wpAnyH_take (i := 8) (v := .int .i64 (gpC d f)) rfl (by kernel_rfl) (by kernel_rfl) (by kernel_rfl) (fun _ _ _ h => h) (Or.inl ⟨by rfl, ?_⟩) hS ?_
      ·intro X _
       clear hS
       go_simp
       try with_reducible rfl
      try simp [Act.put]
      obtain ⟨fa, fb, na, nb, EA, EB, XA, XB, RA, RB⟩ := (unhide T93).done
      obtain ⟨⟨ca0, ca1, ca2⟩, fa0, fa1, fa2⟩ := fa.three
      obtain ⟨⟨cb0, cb1⟩, fb0, fb1⟩ := fb.twoF
      clear fa fb
      refine wpAnyH_ready (rs := [11]) (by kernel_rfl) (by simp) ?_
      refine AllReadyH.cons rfl (fun K hK => ?_) AllReadyH.nil
      go_simp
      refine hK.out _ _ (unhide KS49 _ (unhide EA)) ?_
      clear hK K hS
      intro hS
      try simp [Act.put]
      refine wpAnyH_ready (rs := [12]) (by kernel_rfl) (by simp) ?_
      refine AllReadyH.cons rfl (fun K hK => ?_) AllReadyH.nil
      go_simp
      refine hK.out _ _ (unhide KS49 _ (unhide EB)) ?_
      clear hK K hS
      intro hS
      try simp [Act.put]
      refine wpAnyH_take (i := 13) (v := .int .i64 (gpC d f)) rfl (by kernel_rfl) (by kernel_rfl) (by kernel_rfl) (fun _ _ _ h => h) (Or.inl ⟨by rfl, ?_⟩) hS ?_
      ·intro X _
       clear hS
       go_simp
       try with_reducible rfl
      try simp [Act.put]
      refine wpAnyH_done (by kernel_rfl) ?_ _
      clear hS ca0 ca1 ca2 cb0 cb1 fa0 fa1 fa2 fb0 fb1 na nb
      go_wp2_with fail
      go_meet
      exact ⟨_, _, _, _, _, _, _, _, _, _, _, _, _, _, _, _, _, rfl, rfl, rfl, XA, XB, RA, RB, EB⟩
    ·skip
     have T96 := hide (unhide T59).newB
     go_simp
     generalize X58.alloc (.cells #[.slice none 0 0, .slice none 0 0] 39) = X95 at *
     generalize X58.heap.size = g97 at *
     refine hK.out _ _ (unhide KS49 _ (unhide T96).bel) ?_
     clear hK K hS T59
     intro hS
     try simp [Act.put]
     refine wpAnyH_ready (rs := [4, 9]) (by kernel_rfl) (by simp) ?_
     refine AllReadyH.cons rfl (fun K hK => ?_) (AllReadyH.cons rfl (fun K hK => ?_) (AllReadyH.nil))
     ·skip
      go_simp
      refine (spec_two d f _ _ _ (unhide HS25) (unhide HS41) (unhide T96).p.1 (unhide T96).p.2).mono ?_
      rintro e X98 ⟨q_w0_0, q_w0_1, q_w0_2, q_w0_3, q_w0_4, q_w0_5, q_w0_6, q_w0_7, q_w0_8, q_w1_0, q_w1_1, q_w1_2, q_w1_3, q_w1_4, q_w1_5, rfl, RR, b100⟩
      have T99 := hide ((unhide T96).three b100 (unhide RR))
      clear RR b100
      refine hK.out _ _ (unhide KS49 _ (unhide T99).bel) ?_
      clear hK K hS T96
      intro hS
      try simp [Act.put]
      refine wpAnyH_take (i := 5) (v := .tuple #[.agg #[.slice q_w0_0 q_w0_1 q_w0_2, .slice q_w0_3 q_w0_4 q_w0_5, .slice q_w0_6 q_w0_7 q_w0_8], .agg #[.slice q_w1_0 q_w1_1 q_w1_2, .slice q_w1_3 q_w1_4 q_w1_5], .int .i64 (gpC d f)]) rfl (by kernel_rfl) (by kernel_rfl) (by kernel_rfl) (fun _ _ _ h => h) (Or.inl ⟨by rfl, ?_⟩) hS ?_
      ·intro X _
       clear hS
       go_simp
       try with_reducible rfl
      try simp [Act.put]
      refine wpAnyH_take (i := 6) (v := .agg #[.slice q_w0_0 q_w0_1 q_w0_2, .slice q_w0_3 q_w0_4 q_w0_5, .slice q_w0_6 q_w0_7 q_w0_8]) rfl (by kernel_rfl) (by kernel_rfl) (by kernel_rfl) (fun _ _ _ h => h) (Or.inl ⟨by rfl, ?_⟩) hS ?_
      ·intro X _
       clear hS
       go_simp
       try with_reducible rfl
      try simp [Act.put]
      refine wpAnyH_take (i := 7) (v := .agg #[.slice q_w1_0 q_w1_1 q_w1_2, .slice q_w1_3 q_w1_4 q_w1_5]) rfl (by kernel_rfl) (by kernel_rfl) (by kernel_rfl) (fun _ _ _ h => h) (Or.inl ⟨by rfl, ?_⟩) hS ?_
      ·intro X _
       clear hS
       go_simp
       try with_reducible rfl
      try simp [Act.put]
      refine wpAnyH_take (i := 8) (v := .int .i64 (gpC d f)) rfl (by kernel_rfl) (by kernel_rfl) (by kernel_rfl) (fun _ _ _ h => h) (Or.inl ⟨by rfl, ?_⟩) hS ?_
      ·intro X _
       clear hS
       go_simp
       try with_reducible rfl
      try simp [Act.put]
      refine wpAnyH_ready (rs := [9]) (by kernel_rfl) (by simp) ?_
      refine AllReadyH.cons rfl (fun K hK => ?_) (AllReadyH.nil)
      have T102 := hide (unhide T99).newA
      go_simp
      generalize X98.alloc (.cells #[.slice none 0 0, .slice none 0 0, .slice none 0 0] 36) = X101 at *
      generalize X98.heap.size = g103 at *
      refine hK.out _ _ (unhide KS49 _ (unhide T102).bel) ?_
      clear hK K hS T99
      intro hS
      try simp [Act.put]
      obtain ⟨fa, fb, na, nb, EA, EB, XA, XB, RA, RB⟩ := (unhide T102).done
      obtain ⟨⟨ca0, ca1, ca2⟩, fa0, fa1, fa2⟩ := fa.three
      obtain ⟨⟨cb0, cb1⟩, fb0, fb1⟩ := fb.twoF
      clear fa fb
      refine wpAnyH_ready (rs := [11]) (by kernel_rfl) (by simp) ?_
      refine AllReadyH.cons rfl (fun K hK => ?_) AllReadyH.nil
      go_simp
      refine hK.out _ _ (unhide KS49 _ (unhide EA)) ?_
      clear hK K hS
      intro hS
      try simp [Act.put]
      refine wpAnyH_ready (rs := [12]) (by kernel_rfl) (by simp) ?_
      refine AllReadyH.cons rfl (fun K hK => ?_) AllReadyH.nil
      go_simp
      refine hK.out _ _ (unhide KS49 _ (unhide EB)) ?_
      clear hK K hS
      intro hS
      try simp [Act.put]
      refine wpAnyH_take (i := 13) (v := .int .i64 (gpC d f)) rfl (by kernel_rfl) (by kernel_rfl) (by kernel_rfl) (fun _ _ _ h => h) (Or.inl ⟨by rfl, ?_⟩) hS ?_
      ·intro X _
       clear hS
       go_simp
       try with_reducible rfl
      try simp [Act.put]
      refine wpAnyH_done (by kernel_rfl) ?_ _
      clear hS ca0 ca1 ca2 cb0 cb1 fa0 fa1 fa2 fb0 fb1 na nb
      go_wp2_with fail
      go_meet
      exact ⟨_, _, _, _, _, _, _, _, _, _, _, _, _, _, _, _, _, rfl, rfl, rfl, XA, XB, RA, RB, EB⟩
     ·skip
      have T105 := hide (unhide T96).newA
      go_simp
      generalize X95.alloc (.cells #[.slice none 0 0, .slice none 0 0, .slice none 0 0] 36) = X104 at *
      generalize X95.heap.size = g106 at *
      refine hK.out _ _ (unhide KS49 _ (unhide T105).bel) ?_
      clear hK K hS T96
      intro hS
      try simp [Act.put]
      refine wpAnyH_ready (rs := [4]) (by kernel_rfl) (by simp) ?_
      refine AllReadyH.cons rfl (fun K hK => ?_) (AllReadyH.nil)
      go_simp
      refine (spec_two d f _ _ _ (unhide HS25) (unhide HS41) (unhide T105).p.1 (unhide T105).p.2).mono ?_
      rintro e X107 ⟨q_w0_0, q_w0_1, q_w0_2, q_w0_3, q_w0_4, q_w0_5, q_w0_6, q_w0_7, q_w0_8, q_w1_0, q_w1_1, q_w1_2, q_w1_3, q_w1_4, q_w1_5, rfl, RR, b109⟩
      have T108 := hide ((unhide T105).three b109 (unhide RR))
      clear RR b109
      refine hK.out _ _ (unhide KS49 _ (unhide T108).bel) ?_
      clear hK K hS T105
      intro hS
      try simp [Act.put]
      refine wpAnyH_take (i := 5) (v := .tuple #[.agg #[.slice q_w0_0 q_w0_1 q_w0_2, .slice q_w0_3 q_w0_4 q_w0_5, .slice q_w0_6 q_w0_7 q_w0_8], .agg #[.slice q_w1_0 q_w1_1 q_w1_2, .slice q_w1_3 q_w1_4 q_w1_5], .int .i64 (gpC d f)]) rfl (by kernel_rfl) (by kernel_rfl) (by kernel_rfl) (fun _ _ _ h => h) (Or.inl ⟨by rfl, ?_⟩) hS ?_
      ·intro X _
       clear hS
       go_simp
       try with_reducible rfl
      try simp [Act.put]
      refine wpAnyH_take (i := 6) (v := .agg #[.slice q_w0_0 q_w0_1 q_w0_2, .slice q_w0_3 q_w0_4 q_w0_5, .slice q_w0_6 q_w0_7 q_w0_8]) rfl (by kernel_rfl) (by kernel_rfl) (by kernel_rfl) (fun _ _ _ h => h) (Or.inl ⟨by rfl, ?_⟩) hS ?_
      ·intro X _
       clear hS
       go_simp
       try with_reducible rfl
      try simp [Act.put]
      refine wpAnyH_take (i := 7) (v := .agg #[.slice q_w1_0 q_w1_1 q_w1_2, .slice q_w1_3 q_w1_4 q_w1_5]) rfl (by kernel_rfl) (by kernel_rfl) (by kernel_rfl) (fun _ _ _ h => h) (Or.inl ⟨by rfl, ?_⟩) hS ?_
      ·intro X _
       clear hS
       go_simp
       try with_reducible rfl
      try simp [Act.put]
      refine wpAnyH_take (i := 8) (v := .int .i64 (gpC d f)) rfl (by kernel_rfl) (by kernel_rfl) (by kernel_rfl) (fun _ _ _ h => h) (Or.inl ⟨by rfl, ?_⟩) hS ?_
      ·intro X _
       clear hS
       go_simp
       try with_reducible rfl
      try simp [Act.put]
      obtain ⟨fa, fb, na, nb, EA, EB, XA, XB, RA, RB⟩ := (unhide T108).done
      obtain ⟨⟨ca0, ca1, ca2⟩, fa0, fa1, fa2⟩ := fa.three
      obtain ⟨⟨cb0, cb1⟩, fb0, fb1⟩ := fb.twoF
      clear fa fb
      refine wpAnyH_ready (rs := [11]) (by kernel_rfl) (by simp) ?_
      refine AllReadyH.cons rfl (fun K hK => ?_) AllReadyH.nil
      go_simp
      refine hK.out _ _ (unhide KS49 _ (unhide EA)) ?_
      clear hK K hS
      intro hS
      try simp [Act.put]
      refine wpAnyH_ready (rs := [12]) (by kernel_rfl) (by simp) ?_
      refine AllReadyH.cons rfl (fun K hK => ?_) AllReadyH.nil
      go_simp
      refine hK.out _ _ (unhide KS49 _ (unhide EB)) ?_
      clear hK K hS
      intro hS
      try simp [Act.put]
      refine wpAnyH_take (i := 13) (v := .int .i64 (gpC d f)) rfl (by kernel_rfl) (by kernel_rfl) (by kernel_rfl) (fun _ _ _ h => h) (Or.inl ⟨by rfl, ?_⟩) hS ?_
      ·intro X _
       clear hS
       go_simp
       try with_reducible rfl
      try simp [Act.put]
      refine wpAnyH_done (by kernel_rfl) ?_ _
      clear hS ca0 ca1 ca2 cb0 cb1 fa0 fa1 fa2 fb0 fb1 na nb
      go_wp2_with fail
      go_meet
      exact ⟨_, _, _, _, _, _, _, _, _, _, _, _, _, _, _, _, _, rfl, rfl, rfl, XA, XB, RA, RB, EB⟩
   ·skip
    have T111 := hide (unhide T52).newA
    go_simp
    generalize X51.alloc (.cells #[.slice none 0 0, .slice none 0 0, .slice none 0 0] 36) = X110 at *
    generalize X51.heap.size = g112 at *
    refine hK.out _ _ (unhide KS49 _ (unhide T111).bel) ?_
    clear hK K hS T52
    intro hS
    try simp [Act.put]
    refine wpAnyH_ready (rs := [3, 10]) (by kernel_rfl) (by simp) ?_
    refine AllReadyH.cons rfl (fun K hK => ?_) (AllReadyH.cons rfl (fun K hK => ?_) (AllReadyH.nil))
    ·skip
     go_simp
     refine (toFeed_kit f _ _ (unhide HS41) ((unhide HR_f).up ((unhide B37).trans ((unhide T111).bel.mono (unhide B37).size)))).mono ?_
     rintro e X113 ⟨v115, S116, rfl, O117, L118, b119⟩
     have T114 := hide ((unhide T111).two b119 (unhide O117))
     clear L118 O117 b119
     refine hK.out _ _ (unhide KS49 _ (unhide T114).bel) ?_
     clear hK K hS T111
     intro hS
     try simp [Act.put]
     refine wpAnyH_ready (rs := [4, 10]) (by kernel_rfl) (by simp) ?_
     refine AllReadyH.cons rfl (fun K hK => ?_) (AllReadyH.cons rfl (fun K hK => ?_) (AllReadyH.nil))
     ·skip
      go_simp
      refine (spec_two d f _ _ _ (unhide HS25) (unhide HS41) (unhide T114).p.1 (unhide T114).p.2).mono ?_
      rintro e X120 ⟨q_w0_0, q_w0_1, q_w0_2, q_w0_3, q_w0_4, q_w0_5, q_w0_6, q_w0_7, q_w0_8, q_w1_0, q_w1_1, q_w1_2, q_w1_3, q_w1_4, q_w1_5, rfl, RR, b122⟩
      have T121 := hide ((unhide T114).three b122 (unhide RR))
      clear RR b122
      refine hK.out _ _ (unhide KS49 _ (unhide T121).bel) ?_
      clear hK K hS T114
      intro hS
      try simp [Act.put]
      refine wpAnyH_take (i := 5) (v := .tuple #[.agg #[.slice q_w0_0 q_w0_1 q_w0_2, .slice q_w0_3 q_w0_4 q_w0_5, .slice q_w0_6 q_w0_7 q_w0_8], .agg #[.slice q_w1_0 q_w1_1 q_w1_2, .slice q_w1_3 q_w1_4 q_w1_5], .int .i64 (gpC d f)]) rfl (by kernel_rfl) (by kernel_rfl) (by kernel_rfl) (fun _ _ _ h => h) (Or.inl ⟨by rfl, ?_⟩) hS ?_
      ·intro X _
       clear hS
       go_simp
       try with_reducible rfl
      try simp [Act.put]
      refine wpAnyH_take (i := 6) (v := .agg #[.slice q_w0_0 q_w0_1 q_w0_2, .slice q_w0_3 q_w0_4 q_w0_5, .slice q_w0_6 q_w0_7 q_w0_8]) rfl (by kernel_rfl) (by kernel_rfl) (by kernel_rfl) (fun _ _ _ h => h) (Or.inl ⟨by rfl, ?_⟩) hS ?_
      ·intro X _
       clear hS
       go_simp
       try with_reducible rfl
      try simp [Act.put]
      refine wpAnyH_take (i := 7) (v := .agg #[.slice q_w1_0 q_w1_1 q_w1_2, .slice q_w1_3 q_w1_4 q_w1_5]) rfl (by kernel_rfl) (by kernel_rfl) (by kernel_rfl) (fun _ _ _ h => h) (Or.inl ⟨by rfl, ?_⟩) hS ?_
      ·intro X _
       clear hS
       go_simp
       try with_reducible rfl
      try simp [Act.put]
      refine wpAnyH_take (i := 8) (v := .int .i64 (gpC d f)) rfl (by kernel_rfl) (by kernel_rfl) (by kernel_rfl) (fun _ _ _ h => h) (Or.inl ⟨by rfl, ?_⟩) hS ?_
      ·intro X _
       clear hS
       go_simp
       try with_reducible rfl
      try simp [Act.put]
      refine wpAnyH_ready (rs := [10]) (by kernel_rfl) (by simp) ?_
      refine AllReadyH.cons rfl (fun K hK => ?_) (AllReadyH.nil)
      have T124 := hide (unhide T121).newB
      go_simp
      generalize X120.alloc (.cells #[.slice none 0 0, .slice none 0 0] 39) = X123 at *
      generalize X120.heap.size = g125 at *
      refine hK.out _ _ (unhide KS49 _ (unhide T124).bel) ?_
      clear hK K hS T121
      intro hS
      try simp [Act.put]
      obtain ⟨fa, fb, na, nb, EA, EB, XA, XB, RA, RB⟩ := (unhide T124).done
      obtain ⟨⟨ca0, ca1, ca2⟩, fa0, fa1, fa2⟩ := fa.three
      obtain ⟨⟨cb0, cb1⟩, fb0, fb1⟩ := fb.twoF
      clear fa fb
      refine wpAnyH_ready (rs := [11]) (by kernel_rfl) (by simp) ?_
      refine AllReadyH.cons rfl (fun K hK => ?_) AllReadyH.nil
      go_simp
      refine hK.out _ _ (unhide KS49 _ (unhide EA)) ?_
      clear hK K hS
      intro hS
      try simp [Act.put]
      refine wpAnyH_ready (rs := [12]) (by kernel_rfl) (by simp) ?_
      refine AllReadyH.cons rfl (fun K hK => ?_) AllReadyH.nil
      go_simp
      refine hK.out _ _ (unhide KS49 _ (unhide EB)) ?_
      clear hK K hS
      intro hS
      try simp [Act.put]
      refine wpAnyH_take (i := 13) (v := .int .i64 (gpC d f)) rfl (by kernel_rfl) (by kernel_rfl) (by kernel_rfl) (fun _ _ _ h => h) (Or.inl ⟨by rfl, ?_⟩) hS ?_
      ·intro X _
       clear hS
       go_simp
       try with_reducible rfl
      try simp [Act.put]
      refine wpAnyH_done (by kernel_rfl) ?_ _
      clear hS ca0 ca1 ca2 cb0 cb1 fa0 fa1 fa2 fb0 fb1 na nb
      go_wp2_with fail
      go_meet
      exact ⟨_, _, _, _, _, _, _, _, _, _, _, _, _, _, _, _, _, rfl, rfl, rfl, XA, XB, RA, RB, EB⟩
     ·skip
      have T127 := hide (unhide T114).newB
      go_simp
      generalize X113.alloc (.cells #[.slice none 0 0, .slice none 0 0] 39) = X126 at *
      generalize X113.heap.size = g128 at *
      refine hK.out _ _ (unhide KS49 _ (unhide T127).bel) ?_
      clear hK K hS T114
      intro hS
      try simp [Act.put]
      refine wpAnyH_ready (rs := [4]) (by kernel_rfl) (by simp) ?_
      refine AllReadyH.cons rfl (fun K hK => ?_) (AllReadyH.nil)
      go_simp
      refine (spec_two d f _ _ _ (unhide HS25) (unhide HS41) (unhide T127).p.1 (unhide T127).p.2).mono ?_
      rintro e X129 ⟨q_w0_0, q_w0_1, q_w0_2, q_w0_3, q_w0_4, q_w0_5, q_w0_6, q_w0_7, q_w0_8, q_w1_0, q_w1_1, q_w1_2, q_w1_3, q_w1_4, q_w1_5, rfl, RR, b131⟩
      have T130 := hide ((unhide T127).three b131 (unhide RR))
      clear RR b131
      refine hK.out _ _ (unhide KS49 _ (unhide T130).bel) ?_
      clear hK K hS T127
      intro hS
      try simp [Act.put]
      refine wpAnyH_take (i := 5) (v := .tuple #[.agg #[.slice q_w0_0 q_w0_1 q_w0_2, .slice q_w0_3 q_w0_4 q_w0_5, .slice q_w0_6 q_w0_7 q_w0_8], .agg #[.slice q_w1_0 q_w1_1 q_w1_2, .slice q_w1_3 q_w1_4 q_w1_5], .int .i64 (gpC d f)]) rfl (by kernel_rfl) (by kernel_rfl) (by kernel_rfl) (fun _ _ _ h => h) (Or.inl ⟨by rfl, ?_⟩) hS ?_
      ·intro X _
       clear hS
       go_simp
       try with_reducible rfl
      try simp [Act.put]
      refine wpAnyH_take (i := 6) (v := .agg #[.slice q_w0_0 q_w0_1 q_w0_2, .slice q_w0_3 q_w0_4 q_w0_5, .slice q_w0_6 q_w0_7 q_w0_8]) rfl (by kernel_rfl) (by kernel_rfl) (by kernel_rfl) (fun _ _ _ h => h) (Or.inl ⟨by rfl, ?_⟩) hS ?_
      ·intro X _
       clear hS
       go_simp
       try with_reducible rfl
      try simp [Act.put]
      refine wpAnyH_take (i := 7) (v := .agg #[.slice q_w1_0 q_w1_1 q_w1_2, .slice q_w1_3 q_w1_4 q_w1_5]) rfl (by kernel_rfl) (by kernel_rfl) (by kernel_rfl) (fun _ _ _ h => h) (Or.inl ⟨by rfl, ?_⟩) hS ?_
      ·intro X _
       clear hS
       go_simp
       try with_reducible rfl
      try simp [Act.put]
      refine wpAnyH_take (i := 8) (v := .int .i64 (gpC d f)) rfl (by kernel_rfl) (by kernel_rfl) (by kernel_rfl) (fun _ _ _ h => h) (Or.inl ⟨by rfl, ?_⟩) hS ?_
      ·intro X _
       clear hS
       go_simp
       try with_reducible rfl
      try simp [Act.put]
      obtain ⟨fa, fb, na, nb, EA, EB, XA, XB, RA, RB⟩ := (unhide T130).done
      obtain ⟨⟨ca0, ca1, ca2⟩, fa0, fa1, fa2⟩ := fa.three
      obtain ⟨⟨cb0, cb1⟩, fb0, fb1⟩ := fb.twoF
      clear fa fb
      refine wpAnyH_ready (rs := [11]) (by kernel_rfl) (by simp) ?_
      refine AllReadyH.cons rfl (fun K hK => ?_) AllReadyH.nil
      go_simp
      refine hK.out _ _ (unhide KS49 _ (unhide EA)) ?_
      clear hK K hS
      intro hS
      try simp [Act.put]
      refine wpAnyH_ready (rs := [12]) (by kernel_rfl) (by simp) ?_
      refine AllReadyH.cons rfl (fun K hK => ?_) AllReadyH.nil
      go_simp
      refine hK.out _ _ (unhide KS49 _ (unhide EB)) ?_
      clear hK K hS
      intro hS
      try simp [Act.put]
      refine wpAnyH_take (i := 13) (v := .int .i64 (gpC d f)) rfl (by kernel_rfl) (by kernel_rfl) (by kernel_rfl) (fun _ _ _ h => h) (Or.inl ⟨by rfl, ?_⟩) hS ?_
      ·intro X _
       clear hS
       go_simp
       try with_reducible rfl
      try simp [Act.put]
      refine wpAnyH_done (by kernel_rfl) ?_ _
      clear hS ca0 ca1 ca2 cb0 cb1 fa0 fa1 fa2 fb0 fb1 na nb
      go_wp2_with fail
      go_meet
      exact ⟨_, _, _, _, _, _, _, _, _, _, _, _, _, _, _, _, _, rfl, rfl, rfl, XA, XB, RA, RB, EB⟩
    ·skip
     have T133 := hide (unhide T111).newB
     go_simp
     generalize X110.alloc (.cells #[.slice none 0 0, .slice none 0 0] 39) = X132 at *
     generalize X110.heap.size = g134 at *
     refine hK.out _ _ (unhide KS49 _ (unhide T133).bel) ?_
     clear hK K hS T111
     intro hS
     try simp [Act.put]
     refine wpAnyH_ready (rs := [3]) (by kernel_rfl) (by simp) ?_
     refine AllReadyH.cons rfl (fun K hK => ?_) (AllReadyH.nil)
     go_simp
     refine (toFeed_kit f _ _ (unhide HS41) ((unhide HR_f).up ((unhide B37).trans ((unhide T133).bel.mono (unhide B37).size)))).mono ?_
     rintro e X135 ⟨v137, S138, rfl, O139, L140, b141⟩
     have T136 := hide ((unhide T133).two b141 (unhide O139))
     clear L140 O139 b141
     refine hK.out _ _ (unhide KS49 _ (unhide T136).bel) ?_
     clear hK K hS T133
     intro hS
     try simp [Act.put]
     refine wpAnyH_ready (rs := [4]) (by kernel_rfl) (by simp) ?_
     refine AllReadyH.cons rfl (fun K hK => ?_) (AllReadyH.nil)
     go_simp
     refine (spec_two d f _ _ _ (unhide HS25) (unhide HS41) (unhide T136).p.1 (unhide T136).p.2).mono ?_
     rintro e X142 ⟨q_w0_0, q_w0_1, q_w0_2, q_w0_3, q_w0_4, q_w0_5, q_w0_6, q_w0_7, q_w0_8, q_w1_0, q_w1_1, q_w1_2, q_w1_3, q_w1_4, q_w1_5, rfl, RR, b144⟩
     have T143 := hide ((unhide T136).three b144 (unhide RR))
     clear RR b144
     refine hK.out _ _ (unhide KS49 _ (unhide T143).bel) ?_
     clear hK K hS T136
     intro hS
     try simp [Act.put]
     refine wpAnyH_take (i := 5) (v := .tuple #[.agg #[.slice q_w0_0 q_w0_1 q_w0_2, .slice q_w0_3 q_w0_4 q_w0_5, .slice q_w0_6 q_w0_7 q_w0_8], .agg #[.slice q_w1_0 q_w1_1 q_w1_2, .slice q_w1_3 q_w1_4 q_w1_5], .int .i64 (gpC d f)]) rfl (by kernel_rfl) (by kernel_rfl) (by kernel_rfl) (fun _ _ _ h => h) (Or.inl ⟨by rfl, ?_⟩) hS ?_
     ·intro X _
      clear hS
      go_simp
      try with_reducible rfl
     try simp [Act.put]
     refine wpAnyH_take (i := 6) (v := .agg #[.slice q_w0_0 q_w0_1 q_w0_2, .slice q_w0_3 q_w0_4 q_w0_5, .slice q_w0_6 q_w0_7 q_w0_8]) rfl (by kernel_rfl) (by kernel_rfl) (by kernel_rfl) (fun _ _ _ h => h) (Or.inl ⟨by rfl, ?_⟩) hS ?_
     ·intro X _
      clear hS
      go_simp
      try with_reducible rfl
     try simp [Act.put]
     refine wpAnyH_take (i := 7) (v := .agg #[.slice q_w1_0 q_w1_1 q_w1_2, .slice q_w1_3 q_w1_4 q_w1_5]) rfl (by kernel_rfl) (by kernel_rfl) (by kernel_rfl) (fun _ _ _ h => h) (Or.inl ⟨by rfl, ?_⟩) hS ?_
     ·intro X _
      clear hS
      go_simp
      try with_reducible rfl
     try simp [Act.put]
     refine wpAnyH_take (i := 8) (v := .int .i64 (gpC d f)) rfl (by kernel_rfl) (by kernel_rfl) (by kernel_rfl) (fun _ _ _ h => h) (Or.inl ⟨by rfl, ?_⟩) hS ?_
     ·intro X _
      clear hS
      go_simp
      try with_reducible rfl
     try simp [Act.put]
     obtain ⟨fa, fb, na, nb, EA, EB, XA, XB, RA, RB⟩ := (unhide T143).done
     obtain ⟨⟨ca0, ca1, ca2⟩, fa0, fa1, fa2⟩ := fa.three
     obtain ⟨⟨cb0, cb1⟩, fb0, fb1⟩ := fb.twoF
     clear fa fb
     refine wpAnyH_ready (rs := [11]) (by kernel_rfl) (by simp) ?_
     refine AllReadyH.cons rfl (fun K hK => ?_) AllReadyH.nil
     go_simp
     refine hK.out _ _ (unhide KS49 _ (unhide EA)) ?_
     clear hK K hS
     intro hS
     try simp [Act.put]
     refine wpAnyH_ready (rs := [12]) (by kernel_rfl) (by simp) ?_
     refine AllReadyH.cons rfl (fun K hK => ?_) AllReadyH.nil
     go_simp
     refine hK.out _ _ (unhide KS49 _ (unhide EB)) ?_
     clear hK K hS
     intro hS
     try simp [Act.put]
     refine wpAnyH_take (i := 13) (v := .int .i64 (gpC d f)) rfl (by kernel_rfl) (by kernel_rfl) (by kernel_rfl) (fun _ _ _ h => h) (Or.inl ⟨by rfl, ?_⟩) hS ?_
     ·intro X _
      clear hS
      go_simp
      try with_reducible rfl
     try simp [Act.put]
     refine wpAnyH_done (by kernel_rfl) ?_ _
     clear hS ca0 ca1 ca2 cb0 cb1 fa0 fa1 fa2 fb0 fb1 na nb
     go_wp2_with fail
     go_meet
     exact ⟨_, _, _, _, _, _, _, _, _, _, _, _, _, _, _, _, _, rfl, rfl, rfl, XA, XB, RA, RB, EB⟩
   ·skip
    have T146 := hide (unhide T52).newB
    go_simp
    generalize X51.alloc (.cells #[.slice none 0 0, .slice none 0 0] 39) = X145 at *
    generalize X51.heap.size = g147 at *
    refine hK.out _ _ (unhide KS49 _ (unhide T146).bel) ?_
    clear hK K hS T52
    intro hS
    try simp [Act.put]
    refine wpAnyH_ready (rs := [3, 9]) (by kernel_rfl) (by simp) ?_
    refine AllReadyH.cons rfl (fun K hK => ?_) (AllReadyH.cons rfl (fun K hK => ?_) (AllReadyH.nil))
    ·skip
     go_simp
     refine (toFeed_kit f _ _ (unhide HS41) ((unhide HR_f).up ((unhide B37).trans ((unhide T146).bel.mono (unhide B37).size)))).mono ?_
     rintro e X148 ⟨v150, S151, rfl, O152, L153, b154⟩
     have T149 := hide ((unhide T146).two b154 (unhide O152))
     clear L153 O152 b154
     refine hK.out _ _ (unhide KS49 _ (unhide T149).bel) ?_
     clear hK K hS T146
     intro hS
     try simp [Act.put]
     refine wpAnyH_ready (rs := [4, 9]) (by kernel_rfl) (by simp) ?_
     refine AllReadyH.cons rfl (fun K hK => ?_) (AllReadyH.cons rfl (fun K hK => ?_) (AllReadyH.nil))
     ·skip
      go_simp
      refine (spec_two d f _ _ _ (unhide HS25) (unhide HS41) (unhide T149).p.1 (unhide T149).p.2).mono ?_
      rintro e X155 ⟨q_w0_0, q_w0_1, q_w0_2, q_w0_3, q_w0_4, q_w0_5, q_w0_6, q_w0_7, q_w0_8, q_w1_0, q_w1_1, q_w1_2, q_w1_3, q_w1_4, q_w1_5, rfl, RR, b157⟩
      have T156 := hide ((unhide T149).three b157 (unhide RR))
      clear RR b157
      refine hK.out _ _ (unhide KS49 _ (unhide T156).bel) ?_
      clear hK K hS T149
      intro hS
      try simp [Act.put]
      refine wpAnyH_take (i := 5) (v := .tuple #[.agg #[.slice q_w0_0 q_w0_1 q_w0_2, .slice q_w0_3 q_w0_4 q_w0_5, .slice q_w0_6 q_w0_7 q_w0_8], .agg #[.slice q_w1_0 q_w1_1 q_w1_2, .slice q_w1_3 q_w1_4 q_w1_5], .int .i64 (gpC d f)]) rfl (by kernel_rfl) (by kernel_rfl) (by kernel_rfl) (fun _ _ _ h => h) (Or.inl ⟨by rfl, ?_⟩) hS ?_
      ·intro X _
       clear hS
       go_simp
       try with_reducible rfl
      try simp [Act.put]
      refine wpAnyH_take (i := 6) (v := .agg #[.slice q_w0_0 q_w0_1 q_w0_2, .slice q_w0_3 q_w0_4 q_w0_5, .slice q_w0_6 q_w0_7 q_w0_8]) rfl (by kernel_rfl) (by kernel_rfl) (by kernel_rfl) (fun _ _ _ h => h) (Or.inl ⟨by rfl, ?_⟩) hS ?_
      ·intro X _
       clear hS
       go_simp
       try with_reducible rfl
      try simp [Act.put]
      refine wpAnyH_take (i := 7) (v := .agg #[.slice q_w1_0 q_w1_1 q_w1_2, .slice q_w1_3 q_w1_4 q_w1_5]) rfl (by kernel_rfl) (by kernel_rfl) (by kernel_rfl) (fun _ _ _ h => h) (Or.inl ⟨by rfl, ?_⟩) hS ?_
      ·intro X _
       clear hS
       go_simp
       try with_reducible rfl
      try simp [Act.put]
      refine wpAnyH_take (i := 8) (v := .int .i64 (gpC d f)) rfl (by kernel_rfl) (by kernel_rfl) (by kernel_rfl) (fun _ _ _ h => h) (Or.inl ⟨by rfl, ?_⟩) hS ?_
      ·intro X _
       clear hS
       go_simp
       try with_reducible rfl
      try simp [Act.put]
      refine wpAnyH_ready (rs := [9]) (by kernel_rfl) (by simp) ?_
      refine AllReadyH.cons rfl (fun K hK => ?_) (AllReadyH.nil)
      have T159 := hide (unhide T156).newA
      go_simp
      generalize X155.alloc (.cells #[.slice none 0 0, .slice none 0 0, .slice none 0 0] 36) = X158 at *
      generalize X155.heap.size = g160 at *
      refine hK.out _ _ (unhide KS49 _ (unhide T159).bel) ?_
      clear hK K hS T156
      intro hS
      try simp [Act.put]
      obtain ⟨fa, fb, na, nb, EA, EB, XA, XB, RA, RB⟩ := (unhide T159).done
      obtain ⟨⟨ca0, ca1, ca2⟩, fa0, fa1, fa2⟩ := fa.three
      obtain ⟨⟨cb0, cb1⟩, fb0, fb1⟩ := fb.twoF
      clear fa fb
      refine wpAnyH_ready (rs := [11]) (by kernel_rfl) (by simp) ?_
      refine AllReadyH.cons rfl (fun K hK => ?_) AllReadyH.nil
      go_simp
      refine hK.out _ _ (unhide KS49 _ (unhide EA)) ?_
      clear hK K hS
      intro hS
      try simp [Act.put]
      refine wpAnyH_ready (rs := [12]) (by kernel_rfl) (by simp) ?_
      refine AllReadyH.cons rfl (fun K hK => ?_) AllReadyH.nil
      go_simp
      refine hK.out _ _ (unhide KS49 _ (unhide EB)) ?_
      clear hK K hS
      intro hS
      try simp [Act.put]
      refine wpAnyH_take (i := 13) (v := .int .i64 (gpC d f)) rfl (by kernel_rfl) (by kernel_rfl) (by kernel_rfl) (fun _ _ _ h => h) (Or.inl ⟨by rfl, ?_⟩) hS ?_
      ·intro X _
       clear hS
       go_simp
       try with_reducible rfl
      try simp [Act.put]
      refine wpAnyH_done (by kernel_rfl) ?_ _
      clear hS ca0 ca1 ca2 cb0 cb1 fa0 fa1 fa2 fb0 fb1 na nb
      go_wp2_with fail
      go_meet
      exact ⟨_, _, _, _, _, _, _, _, _, _, _, _, _, _, _, _, _, rfl, rfl, rfl, XA, XB, RA, RB, EB⟩
     ·skip
      have T162 := hide (unhide T149).newA
      go_simp
      generalize X148.alloc (.cells #[.slice none 0 0, .slice none 0 0, .slice none 0 0] 36) = X161 at *
      generalize X148.heap.size = g163 at *
      refine hK.out _ _ (unhide KS49 _ (unhide T162).bel) ?_
      clear hK K hS T149
      intro hS
      try simp [Act.put]
      refine wpAnyH_ready (rs := [4]) (by kernel_rfl) (by simp) ?_
      refine AllReadyH.cons rfl (fun K hK => ?_) (AllReadyH.nil)
      go_simp
      refine (spec_two d f _ _ _ (unhide HS25) (unhide HS41) (unhide T162).p.1 (unhide T162).p.2).mono ?_
      rintro e X164 ⟨q_w0_0, q_w0_1, q_w0_2, q_w0_3, q_w0_4, q_w0_5, q_w0_6, q_w0_7, q_w0_8, q_w1_0, q_w1_1, q_w1_2, q_w1_3, q_w1_4, q_w1_5, rfl, RR, b166⟩
      have T165 := hide ((unhide T162).three b166 (unhide RR))
      clear RR b166
      refine hK.out _ _ (unhide KS49 _ (unhide T165).bel) ?_
      clear hK K hS T162
      intro hS
      try simp [Act.put]
      refine wpAnyH_take (i := 5) (v := .tuple #[.agg #[.slice q_w0_0 q_w0_1 q_w0_2, .slice q_w0_3 q_w0_4 q_w0_5, .slice q_w0_6 q_w0_7 q_w0_8], .agg #[.slice q_w1_0 q_w1_1 q_w1_2, .slice q_w1_3 q_w1_4 q_w1_5], .int .i64 (gpC d f)]) rfl (by kernel_rfl) (by kernel_rfl) (by kernel_rfl) (fun _ _ _ h => h) (Or.inl ⟨by rfl, ?_⟩) hS ?_
      ·intro X _
       clear hS
       go_simp
       try with_reducible rfl
      try simp [Act.put]
      refine wpAnyH_take (i := 6) (v := .agg #[.slice q_w0_0 q_w0_1 q_w0_2, .slice q_w0_3 q_w0_4 q_w0_5, .slice q_w0_6 q_w0_7 q_w0_8]) rfl (by kernel_rfl) (by kernel_rfl) (by kernel_rfl) (fun _ _ _ h => h) (Or.inl ⟨by rfl, ?_⟩) hS ?_
      ·intro X _
       clear hS
       go_simp
       try with_reducible rfl
      try simp [Act.put]
      refine wpAnyH_take (i := 7) (v := .agg #[.slice q_w1_0 q_w1_1 q_w1_2, .slice q_w1_3 q_w1_4 q_w1_5]) rfl (by kernel_rfl) (by kernel_rfl) (by kernel_rfl) (fun _ _ _ h => h) (Or.inl ⟨by rfl, ?_⟩) hS ?_
      ·intro X _
       clear hS
       go_simp
       try with_reducible rfl
      try simp [Act.put]
      refine wpAnyH_take (i := 8) (v := .int .i64 (gpC d f)) rfl (by kernel_rfl) (by kernel_rfl) (by kernel_rfl) (fun _ _ _ h => h) (Or.inl ⟨by rfl, ?_⟩) hS ?_
      ·intro X _
       clear hS
       go_simp
       try with_reducible rfl
      try simp [Act.put]
      obtain ⟨fa, fb, na, nb, EA, EB, XA, XB, RA, RB⟩ := (unhide T165).done
      obtain ⟨⟨ca0, ca1, ca2⟩, fa0, fa1, fa2⟩ := fa.three
      obtain ⟨⟨cb0, cb1⟩, fb0, fb1⟩ := fb.twoF
      clear fa fb
      refine wpAnyH_ready (rs := [11]) (by kernel_rfl) (by simp) ?_
      refine AllReadyH.cons rfl (fun K hK => ?_) AllReadyH.nil
      go_simp
      refine hK.out _ _ (unhide KS49 _ (unhide EA)) ?_
      clear hK K hS
      intro hS
      try simp [Act.put]
      refine wpAnyH_ready (rs := [12]) (by kernel_rfl) (by simp) ?_
      refine AllReadyH.cons rfl (fun K hK => ?_) AllReadyH.nil
      go_simp
      refine hK.out _ _ (unhide KS49 _ (unhide EB)) ?_
      clear hK K hS
      intro hS
      try simp [Act.put]
      refine wpAnyH_take (i := 13) (v := .int .i64 (gpC d f)) rfl (by kernel_rfl) (by kernel_rfl) (by kernel_rfl) (fun _ _ _ h => h) (Or.inl ⟨by rfl, ?_⟩) hS ?_
      ·intro X _
       clear hS
       go_simp
       try with_reducible rfl
      try simp [Act.put]
      refine wpAnyH_done (by kernel_rfl) ?_ _
      clear hS ca0 ca1 ca2 cb0 cb1 fa0 fa1 fa2 fb0 fb1 na nb
      go_wp2_with fail
      go_meet
      exact ⟨_, _, _, _, _, _, _, _, _, _, _, _, _, _, _, _, _, rfl, rfl, rfl, XA, XB, RA, RB, EB⟩
    ·skip
     have T168 := hide (unhide T146).newA
     go_simp
     generalize X145.alloc (.cells #[.slice none 0 0, .slice none 0 0, .slice none 0 0] 36) = X167 at *
     generalize X145.heap.size = g169 at *
     refine hK.out _ _ (unhide KS49 _ (unhide T168).bel) ?_
     clear hK K hS T146
     intro hS
     try simp [Act.put]
     refine wpAnyH_ready (rs := [3]) (by kernel_rfl) (by simp) ?_
     refine AllReadyH.cons rfl (fun K hK => ?_) (AllReadyH.nil)
     go_simp
     refine (toFeed_kit f _ _ (unhide HS41) ((unhide HR_f).up ((unhide B37).trans ((unhide T168).bel.mono (unhide B37).size)))).mono ?_
     rintro e X170 ⟨v172, S173, rfl, O174, L175, b176⟩
     have T171 := hide ((unhide T168).two b176 (unhide O174))
     clear L175 O174 b176
     refine hK.out _ _ (unhide KS49 _ (unhide T171).bel) ?_
     clear hK K hS T168
     intro hS
     try simp [Act.put]
     refine wpAnyH_ready (rs := [4]) (by kernel_rfl) (by simp) ?_
     refine AllReadyH.cons rfl (fun K hK => ?_) (AllReadyH.nil)
     go_simp
     refine (spec_two d f _ _ _ (unhide HS25) (unhide HS41) (unhide T171).p.1 (unhide T171).p.2).mono ?_
     rintro e X177 ⟨q_w0_0, q_w0_1, q_w0_2, q_w0_3, q_w0_4, q_w0_5, q_w0_6, q_w0_7, q_w0_8, q_w1_0, q_w1_1, q_w1_2, q_w1_3, q_w1_4, q_w1_5, rfl, RR, b179⟩
     have T178 := hide ((unhide T171).three b179 (unhide RR))
     clear RR b179
     refine hK.out _ _ (unhide KS49 _ (unhide T178).bel) ?_
     clear hK K hS T171
     intro hS
     try simp [Act.put]
     refine wpAnyH_take (i := 5) (v := .tuple #[.agg #[.slice q_w0_0 q_w0_1 q_w0_2, .slice q_w0_3 q_w0_4 q_w0_5, .slice q_w0_6 q_w0_7 q_w0_8], .agg #[.slice q_w1_0 q_w1_1 q_w1_2, .slice q_w1_3 q_w1_4 q_w1_5], .int .i64 (gpC d f)]) rfl (by kernel_rfl) (by kernel_rfl) (by kernel_rfl) (fun _ _ _ h => h) (Or.inl ⟨by rfl, ?_⟩) hS ?_
     ·intro X _
      clear hS
      go_simp
      try with_reducible rfl
     try simp [Act.put]
     refine wpAnyH_take (i := 6) (v := .agg #[.slice q_w0_0 q_w0_1 q_w0_2, .slice q_w0_3 q_w0_4 q_w0_5, .slice q_w0_6 q_w0_7 q_w0_8]) rfl (by kernel_rfl) (by kernel_rfl) (by kernel_rfl) (fun _ _ _ h => h) (Or.inl ⟨by rfl, ?_⟩) hS ?_
     ·intro X _
      clear hS
      go_simp
      try with_reducible rfl
     try simp [Act.put]
     refine wpAnyH_take (i := 7) (v := .agg #[.slice q_w1_0 q_w1_1 q_w1_2, .slice q_w1_3 q_w1_4 q_w1_5]) rfl (by kernel_rfl) (by kernel_rfl) (by kernel_rfl) (fun _ _ _ h => h) (Or.inl ⟨by rfl, ?_⟩) hS ?_
     ·intro X _
      clear hS
      go_simp
      try with_reducible rfl
     try simp [Act.put]
     refine wpAnyH_take (i := 8) (v := .int .i64 (gpC d f)) rfl (by kernel_rfl) (by kernel_rfl) (by kernel_rfl) (fun _ _ _ h => h) (Or.inl ⟨by rfl, ?_⟩) hS ?_
     ·intro X _
      clear hS
      go_simp
      try with_reducible rfl
     try simp [Act.put]
     obtain ⟨fa, fb, na, nb, EA, EB, XA, XB, RA, RB⟩ := (unhide T178).done
     obtain ⟨⟨ca0, ca1, ca2⟩, fa0, fa1, fa2⟩ := fa.three
     obtain ⟨⟨cb0, cb1⟩, fb0, fb1⟩ := fb.twoF
     clear fa fb
     refine wpAnyH_ready (rs := [11]) (by kernel_rfl) (by simp) ?_
     refine AllReadyH.cons rfl (fun K hK => ?_) AllReadyH.nil
     go_simp
     refine hK.out _ _ (unhide KS49 _ (unhide EA)) ?_
     clear hK K hS
     intro hS
     try simp [Act.put]
     refine wpAnyH_ready (rs := [12]) (by kernel_rfl) (by simp) ?_
     refine AllReadyH.cons rfl (fun K hK => ?_) AllReadyH.nil
     go_simp
     refine hK.out _ _ (unhide KS49 _ (unhide EB)) ?_
     clear hK K hS
     intro hS
     try simp [Act.put]
     refine wpAnyH_take (i := 13) (v := .int .i64 (gpC d f)) rfl (by kernel_rfl) (by kernel_rfl) (by kernel_rfl) (fun _ _ _ h => h) (Or.inl ⟨by rfl, ?_⟩) hS ?_
     ·intro X _
      clear hS
      go_simp
      try with_reducible rfl
     try simp [Act.put]
     refine wpAnyH_done (by kernel_rfl) ?_ _
     clear hS ca0 ca1 ca2 cb0 cb1 fa0 fa1 fa2 fb0 fb1 na nb
     go_wp2_with fail
     go_meet
     exact ⟨_, _, _, _, _, _, _, _, _, _, _, _, _, _, _, _, _, rfl, rfl, rfl, XA, XB, RA, RB, EB⟩
  ·skip
   have T181 := hide (unhide T50).newA
   go_simp
   generalize WX.alloc (.cells #[.slice none 0 0, .slice none 0 0, .slice none 0 0] 36) = X180 at *
   generalize WX.heap.size = g182 at *
   refine hK.out _ _ (unhide KS49 _ (unhide T181).bel) ?_
   clear hK K hS T50
   intro hS
   try simp [Act.put]
   refine wpAnyH_ready (rs := [1, 10]) (by kernel_rfl) (by simp) ?_
   refine AllReadyH.cons rfl (fun K hK => ?_) (AllReadyH.cons rfl (fun K hK => ?_) (AllReadyH.nil))
   ·skip
    go_simp
    refine (toGatherP_kit d _ _ (unhide HS25) ((unhide HR_d).up ((unhide B37).trans ((unhide T181).bel.mono (unhide B37).size)))).mono ?_
    rintro e X183 ⟨v185, S186, rfl, O187, L188, b189⟩
    have T184 := hide ((unhide T181).one b189 (unhide O187))
    clear L188 O187 b189
    refine hK.out _ _ (unhide KS49 _ (unhide T184).bel) ?_
    clear hK K hS T181
    intro hS
    try simp [Act.put]
    refine wpAnyH_ready (rs := [3, 10]) (by kernel_rfl) (by simp) ?_
    refine AllReadyH.cons rfl (fun K hK => ?_) (AllReadyH.cons rfl (fun K hK => ?_) (AllReadyH.nil))
    ·skip
     go_simp
     refine (toFeed_kit f _ _ (unhide HS41) ((unhide HR_f).up ((unhide B37).trans ((unhide T184).bel.mono (unhide B37).size)))).mono ?_
     rintro e X190 ⟨v192, S193, rfl, O194, L195, b196⟩
     have T191 := hide ((unhide T184).two b196 (unhide O194))
     clear L195 O194 b196
     refine hK.out _ _ (unhide KS49 _ (unhide T191).bel) ?_
     clear hK K hS T184
     intro hS
     try simp [Act.put]
     refine wpAnyH_ready (rs := [4, 10]) (by kernel_rfl) (by simp) ?_
     refine AllReadyH.cons rfl (fun K hK => ?_) (AllReadyH.cons rfl (fun K hK => ?_) (AllReadyH.nil))
     ·skip
      go_simp
      refine (spec_two d f _ _ _ (unhide HS25) (unhide HS41) (unhide T191).p.1 (unhide T191).p.2).mono ?_
      rintro e X197 ⟨q_w0_0, q_w0_1, q_w0_2, q_w0_3, q_w0_4, q_w0_5, q_w0_6, q_w0_7, q_w0_8, q_w1_0, q_w1_1, q_w1_2, q_w1_3, q_w1_4, q_w1_5, rfl, RR, b199⟩
      have T198 := hide ((unhide T191).three b199 (unhide RR))
      clear RR b199
      refine hK.out _ _ (unhide KS49 _ (unhide T198).bel) ?_
      clear hK K hS T191
      intro hS
      try simp [Act.put]
      refine wpAnyH_take (i := 5) (v := .tuple #[.agg #[.slice q_w0_0 q_w0_1 q_w0_2, .slice q_w0_3 q_w0_4 q_w0_5, .slice q_w0_6 q_w0_7 q_w0_8], .agg #[.slice q_w1_0 q_w1_1 q_w1_2, .slice q_w1_3 q_w1_4 q_w1_5], .int .i64 (gpC d f)]) rfl (by kernel_rfl) (by kernel_rfl) (by kernel_rfl) (fun _ _ _ h => h) (Or.inl ⟨by rfl, ?_⟩) hS ?_
      ·intro X _
       clear hS
       go_simp
       try with_reducible rfl
      try simp [Act.put]
      refine wpAnyH_take (i := 6) (v := .agg #[.slice q_w0_0 q_w0_1 q_w0_2, .slice q_w0_3 q_w0_4 q_w0_5, .slice q_w0_6 q_w0_7 q_w0_8]) rfl (by kernel_rfl) (by kernel_rfl) (by kernel_rfl) (fun _ _ _ h => h) (Or.inl ⟨by rfl, ?_⟩) hS ?_
      ·intro X _
       clear hS
       go_simp
       try with_reducible rfl
      try simp [Act.put]
      refine wpAnyH_take (i := 7) (v := .agg #[.slice q_w1_0 q_w1_1 q_w1_2, .slice q_w1_3 q_w1_4 q_w1_5]) rfl (by kernel_rfl) (by kernel_rfl) (by kernel_rfl) (fun _ _ _ h => h) (Or.inl ⟨by rfl, ?_⟩) hS ?_
      ·intro X _
       clear hS
       go_simp
       try with_reducible rfl
      try simp [Act.put]
      refine wpAnyH_take (i := 8) (v := .int .i64 (gpC d f)) rfl (by kernel_rfl) (by kernel_rfl) (by kernel_rfl) (fun _ _ _ h => h) (Or.inl ⟨by rfl, ?_⟩) hS ?_
      ·intro X _
       clear hS
       go_simp
       try with_reducible rfl
      try simp [Act.put]
      refine wpAnyH_ready (rs := [10]) (by kernel_rfl) (by simp) ?_
      refine AllReadyH.cons rfl (fun K hK => ?_) (AllReadyH.nil)
      have T201 := hide (unhide T198).newB
      go_simp
      generalize X197.alloc (.cells #[.slice none 0 0, .slice none 0 0] 39) = X200 at *
      generalize X197.heap.size = g202 at *
      refine hK.out _ _ (unhide KS49 _ (unhide T201).bel) ?_
      clear hK K hS T198
      intro hS
      try simp [Act.put]
      obtain ⟨fa, fb, na, nb, EA, EB, XA, XB, RA, RB⟩ := (unhide T201).done
      obtain ⟨⟨ca0, ca1, ca2⟩, fa0, fa1, fa2⟩ := fa.three
      obtain ⟨⟨cb0, cb1⟩, fb0, fb1⟩ := fb.twoF
      clear fa fb
      refine wpAnyH_ready (rs := [11]) (by kernel_rfl) (by simp) ?_
      refine AllReadyH.cons rfl (fun K hK => ?_) AllReadyH.nil
      go_simp
      refine hK.out _ _ (unhide KS49 _ (unhide EA)) ?_
      clear hK K hS
      intro hS
      try simp [Act.put]
      refine wpAnyH_ready (rs := [12]) (by kernel_rfl) (by simp) ?_
      refine AllReadyH.cons rfl (fun K hK => ?_) AllReadyH.nil
      go_simp
      refine hK.out _ _ (unhide KS49 _ (unhide EB)) ?_
      clear hK K hS
      intro hS
      try simp [Act.put]
      refine wpAnyH_take (i := 13) (v := .int .i64 (gpC d f)) rfl (by kernel_rfl) (by kernel_rfl) (by kernel_rfl) (fun _ _ _ h => h) (Or.inl ⟨by rfl, ?_⟩) hS ?_
      ·intro X _
       clear hS
       go_simp
       try with_reducible rfl
      try simp [Act.put]
      refine wpAnyH_done (by kernel_rfl) ?_ _
      clear hS ca0 ca1 ca2 cb0 cb1 fa0 fa1 fa2 fb0 fb1 na nb
      go_wp2_with fail
      go_meet
      exact ⟨_, _, _, _, _, _, _, _, _, _, _, _, _, _, _, _, _, rfl, rfl, rfl, XA, XB, RA, RB, EB⟩
     ·skip
      have T204 := hide (unhide T191).newB
      go_simp
      generalize X190.alloc (.cells #[.slice none 0 0, .slice none 0 0] 39) = X203 at *
      generalize X190.heap.size = g205 at *
      refine hK.out _ _ (unhide KS49 _ (unhide T204).bel) ?_
      clear hK K hS T191
      intro hS
      try simp [Act.put]
      refine wpAnyH_ready (rs := [4]) (by kernel_rfl) (by simp) ?_
      refine AllReadyH.cons rfl (fun K hK => ?_) (AllReadyH.nil)
      go_simp
      refine (spec_two d f _ _ _ (unhide HS25) (unhide HS41) (unhide T204).p.1 (unhide T204).p.2).mono ?_
      rintro e X206 ⟨q_w0_0, q_w0_1, q_w0_2, q_w0_3, q_w0_4, q_w0_5, q_w0_6, q_w0_7, q_w0_8, q_w1_0, q_w1_1, q_w1_2, q_w1_3, q_w1_4, q_w1_5, rfl, RR, b208⟩
      have T207 := hide ((unhide T204).three b208 (unhide RR))
      clear RR b208
      refine hK.out _ _ (unhide KS49 _ (unhide T207).bel) ?_
      clear hK K hS T204
      intro hS
      try simp [Act.put]
      refine wpAnyH_take (i := 5) (v := .tuple #[.agg #[.slice q_w0_0 q_w0_1 q_w0_2, .slice q_w0_3 q_w0_4 q_w0_5, .slice q_w0_6 q_w0_7 q_w0_8], .agg #[.slice q_w1_0 q_w1_1 q_w1_2, .slice q_w1_3 q_w1_4 q_w1_5], .int .i64 (gpC d f)]) rfl (by kernel_rfl) (by kernel_rfl) (by kernel_rfl) (fun _ _ _ h => h) (Or.inl ⟨by rfl, ?_⟩) hS ?_
      ·intro X _
       clear hS
       go_simp
       try with_reducible rfl
      try simp [Act.put]
      refine wpAnyH_take (i := 6) (v := .agg #[.slice q_w0_0 q_w0_1 q_w0_2, .slice q_w0_3 q_w0_4 q_w0_5, .slice q_w0_6 q_w0_7 q_w0_8]) rfl (by kernel_rfl) (by kernel_rfl) (by kernel_rfl) (fun _ _ _ h => h) (Or.inl ⟨by rfl, ?_⟩) hS ?_
      ·intro X _
       clear hS
       go_simp
       try with_reducible rfl
      try simp [Act.put]
      refine wpAnyH_take (i := 7) (v := .agg #[.slice q_w1_0 q_w1_1 q_w1_2, .slice q_w1_3 q_w1_4 q_w1_5]) rfl (by kernel_rfl) (by kernel_rfl) (by kernel_rfl) (fun _ _ _ h => h) (Or.inl ⟨by rfl, ?_⟩) hS ?_
      ·intro X _
       clear hS
       go_simp
       try with_reducible rfl
      try simp [Act.put]
      refine wpAnyH_take (i := 8) (v := .int .i64 (gpC d f)) rfl (by kernel_rfl) (by kernel_rfl) (by kernel_rfl) (fun _ _ _ h => h) (Or.inl ⟨by rfl, ?_⟩) hS ?_
      ·intro X _
       clear hS
       go_simp
       try with_reducible rfl
      try simp [Act.put]
      obtain ⟨fa, fb, na, nb, EA, EB, XA, XB, RA, RB⟩ := (unhide T207).done
      obtain ⟨⟨ca0, ca1, ca2⟩, fa0, fa1, fa2⟩ := fa.three
      obtain ⟨⟨cb0, cb1⟩, fb0, fb1⟩ := fb.twoF
      clear fa fb
      refine wpAnyH_ready (rs := [11]) (by kernel_rfl) (by simp) ?_
      refine AllReadyH.cons rfl (fun K hK => ?_) AllReadyH.nil
      go_simp
      refine hK.out _ _ (unhide KS49 _ (unhide EA)) ?_
      clear hK K hS
      intro hS
      try simp [Act.put]
      refine wpAnyH_ready (rs := [12]) (by kernel_rfl) (by simp) ?_
      refine AllReadyH.cons rfl (fun K hK => ?_) AllReadyH.nil
      go_simp
      refine hK.out _ _ (unhide KS49 _ (unhide EB)) ?_
      clear hK K hS
      intro hS
      try simp [Act.put]
      refine wpAnyH_take (i := 13) (v := .int .i64 (gpC d f)) rfl (by kernel_rfl) (by kernel_rfl) (by kernel_rfl) (fun _ _ _ h => h) (Or.inl ⟨by rfl, ?_⟩) hS ?_
      ·intro X _
       clear hS
       go_simp
       try with_reducible rfl
      try simp [Act.put]
      refine wpAnyH_done (by kernel_rfl) ?_ _
      clear hS ca0 ca1 ca2 cb0 cb1 fa0 fa1 fa2 fb0 fb1 na nb
      go_wp2_with fail
      go_meet
      exact ⟨_, _, _, _, _, _, _, _, _, _, _, _, _, _, _, _, _, rfl, rfl, rfl, XA, XB, RA, RB, EB⟩
    ·skip
     have T210 := hide (unhide T184).newB
     go_simp
     generalize X183.alloc (.cells #[.slice none 0 0, .slice none 0 0] 39) = X209 at *
     generalize X183.heap.size = g211 at *
     refine hK.out _ _ (unhide KS49 _ (unhide T210).bel) ?_
     clear hK K hS T184
     intro hS
     try simp [Act.put]
     refine wpAnyH_ready (rs := [3]) (by kernel_rfl) (by simp) ?_
     refine AllReadyH.cons rfl (fun K hK => ?_) (AllReadyH.nil)
     go_simp
     refine (toFeed_kit f _ _ (unhide HS41) ((unhide HR_f).up ((unhide B37).trans ((unhide T210).bel.mono (unhide B37).size)))).mono ?_
     rintro e X212 ⟨v214, S215, rfl, O216, L217, b218⟩
     have T213 := hide ((unhide T210).two b218 (unhide O216))
     clear L217 O216 b218
     refine hK.out _ _ (unhide KS49 _ (unhide T213).bel) ?_
     clear hK K hS T210
     intro hS
     try simp [Act.put]
     refine wpAnyH_ready (rs := [4]) (by kernel_rfl) (by simp) ?_
     refine AllReadyH.cons rfl (fun K hK => ?_) (AllReadyH.nil)
     go_simp
     refine (spec_two d f _ _ _ (unhide HS25) (unhide HS41) (unhide T213).p.1 (unhide T213).p.2).mono ?_
     rintro e X219 ⟨q_w0_0, q_w0_1, q_w0_2, q_w0_3, q_w0_4, q_w0_5, q_w0_6, q_w0_7, q_w0_8, q_w1_0, q_w1_1, q_w1_2, q_w1_3, q_w1_4, q_w1_5, rfl, RR, b221⟩
     have T220 := hide ((unhide T213).three b221 (unhide RR))
     clear RR b221
     refine hK.out _ _ (unhide KS49 _ (unhide T220).bel) ?_
     clear hK K hS T213
     intro hS
     try simp [Act.put]
     refine wpAnyH_take (i := 5) (v := .tuple #[.agg #[.slice q_w0_0 q_w0_1 q_w0_2, .slice q_w0_3 q_w0_4 q_w0_5, .slice q_w0_6 q_w0_7 q_w0_8], .agg #[.slice q_w1_0 q_w1_1 q_w1_2, .slice q_w1_3 q_w1_4 q_w1_5], .int .i64 (gpC d f)]) rfl (by kernel_rfl) (by kernel_rfl) (by kernel_rfl) (fun _ _ _ h => h) (Or.inl ⟨by rfl, ?_⟩) hS ?_
     ·intro X _
      clear hS
      go_simp
      try with_reducible rfl
     try simp [Act.put]
     refine wpAnyH_take (i := 6) (v := .agg #[.slice q_w0_0 q_w0_1 q_w0_2, .slice q_w0_3 q_w0_4 q_w0_5, .slice q_w0_6 q_w0_7 q_w0_8]) rfl (by kernel_rfl) (by kernel_rfl) (by kernel_rfl) (fun _ _ _ h => h) (Or.inl ⟨by rfl, ?_⟩) hS ?_
     ·intro X _
      clear hS
      go_simp
      try with_reducible rfl
     try simp [Act.put]
     refine wpAnyH_take (i := 7) (v := .agg #[.slice q_w1_0 q_w1_1 q_w1_2, .slice q_w1_3 q_w1_4 q_w1_5]) rfl (by kernel_rfl) (by kernel_rfl) (by kernel_rfl) (fun _ _ _ h => h) (Or.inl ⟨by rfl, ?_⟩) hS ?_
     ·intro X _
      clear hS
      go_simp
      try with_reducible rfl
     try simp [Act.put]
     refine wpAnyH_take (i := 8) (v := .int .i64 (gpC d f)) rfl (by kernel_rfl) (by kernel_rfl) (by kernel_rfl) (fun _ _ _ h => h) (Or.inl ⟨by rfl, ?_⟩) hS ?_
     ·intro X _
      clear hS
      go_simp
      try with_reducible rfl
     try simp [Act.put]
     obtain ⟨fa, fb, na, nb, EA, EB, XA, XB, RA, RB⟩ := (unhide T220).done
     obtain ⟨⟨ca0, ca1, ca2⟩, fa0, fa1, fa2⟩ := fa.three
     obtain ⟨⟨cb0, cb1⟩, fb0, fb1⟩ := fb.twoF
     clear fa fb
     refine wpAnyH_ready (rs := [11]) (by kernel_rfl) (by simp) ?_
     refine AllReadyH.cons rfl (fun K hK => ?_) AllReadyH.nil
     go_simp
     refine hK.out _ _ (unhide KS49 _ (unhide EA)) ?_
     clear hK K hS
     intro hS
     try simp [Act.put]
     refine wpAnyH_ready (rs := [12]) (by kernel_rfl) (by simp) ?_
     refine AllReadyH.cons rfl (fun K hK => ?_) AllReadyH.nil
     go_simp
     refine hK.out _ _ (unhide KS49 _ (unhide EB)) ?_
     clear hK K hS
     intro hS
     try simp [Act.put]
     refine wpAnyH_take (i := 13) (v := .int .i64 (gpC d f)) rfl (by kernel_rfl) (by kernel_rfl) (by kernel_rfl) (fun _ _ _ h => h) (Or.inl ⟨by rfl, ?_⟩) hS ?_
     ·intro X _
      clear hS
      go_simp
      try with_reducible rfl
     try simp [Act.put]
     refine wpAnyH_done (by kernel_rfl) ?_ _
     clear hS ca0 ca1 ca2 cb0 cb1 fa0 fa1 fa2 fb0 fb1 na nb
     go_wp2_with fail
     go_meet
     exact ⟨_, _, _, _, _, _, _, _, _, _, _, _, _, _, _, _, _, rfl, rfl, rfl, XA, XB, RA, RB, EB⟩
   ·skip
    have T223 := hide (unhide T181).newB
    go_simp
    generalize X180.alloc (.cells #[.slice none 0 0, .slice none 0 0] 39) = X222 at *
    generalize X180.heap.size = g224 at *
    refine hK.out _ _ (unhide KS49 _ (unhide T223).bel) ?_
    clear hK K hS T181
    intro hS
    try simp [Act.put]
    refine wpAnyH_ready (rs := [1]) (by kernel_rfl) (by simp) ?_
    refine AllReadyH.cons rfl (fun K hK => ?_) (AllReadyH.nil)
    go_simp
    refine (toGatherP_kit d _ _ (unhide HS25) ((unhide HR_d).up ((unhide B37).trans ((unhide T223).bel.mono (unhide B37).size)))).mono ?_
    rintro e X225 ⟨v227, S228, rfl, O229, L230, b231⟩
    have T226 := hide ((unhide T223).one b231 (unhide O229))
    clear L230 O229 b231
    refine hK.out _ _ (unhide KS49 _ (unhide T226).bel) ?_
    clear hK K hS T223
    intro hS
    try simp [Act.put]
    refine wpAnyH_ready (rs := [3]) (by kernel_rfl) (by simp) ?_
    refine AllReadyH.cons rfl (fun K hK => ?_) (AllReadyH.nil)
    go_simp
    refine (toFeed_kit f _ _ (unhide HS41) ((unhide HR_f).up ((unhide B37).trans ((unhide T226).bel.mono (unhide B37).size)))).mono ?_
    rintro e X232 ⟨v234, S235, rfl, O236, L237, b238⟩
    have T233 := hide ((unhide T226).two b238 (unhide O236))
    clear L237 O236 b238
    refine hK.out _ _ (unhide KS49 _ (unhide T233).bel) ?_
    clear hK K hS T226
    intro hS
    try simp [Act.put]
    refine wpAnyH_ready (rs := [4]) (by kernel_rfl) (by simp) ?_
    refine AllReadyH.cons rfl (fun K hK => ?_) (AllReadyH.nil)
    go_simp
    refine (spec_two d f _ _ _ (unhide HS25) (unhide HS41) (unhide T233).p.1 (unhide T233).p.2).mono ?_
    rintro e X239 ⟨q_w0_0, q_w0_1, q_w0_2, q_w0_3, q_w0_4, q_w0_5, q_w0_6, q_w0_7, q_w0_8, q_w1_0, q_w1_1, q_w1_2, q_w1_3, q_w1_4, q_w1_5, rfl, RR, b241⟩
    have T240 := hide ((unhide T233).three b241 (unhide RR))
    clear RR b241
    refine hK.out _ _ (unhide KS49 _ (unhide T240).bel) ?_
    clear hK K hS T233
    intro hS
    try simp [Act.put]
    refine wpAnyH_take (i := 5) (v := .tuple #[.agg #[.slice q_w0_0 q_w0_1 q_w0_2, .slice q_w0_3 q_w0_4 q_w0_5, .slice q_w0_6 q_w0_7 q_w0_8], .agg #[.slice q_w1_0 q_w1_1 q_w1_2, .slice q_w1_3 q_w1_4 q_w1_5], .int .i64 (gpC d f)]) rfl (by kernel_rfl) (by kernel_rfl) (by kernel_rfl) (fun _ _ _ h => h) (Or.inl ⟨by rfl, ?_⟩) hS ?_
    ·intro X _
     clear hS
     go_simp
     try with_reducible rfl
    try simp [Act.put]
    refine wpAnyH_take (i := 6) (v := .agg #[.slice q_w0_0 q_w0_1 q_w0_2, .slice q_w0_3 q_w0_4 q_w0_5, .slice q_w0_6 q_w0_7 q_w0_8]) rfl (by kernel_rfl) (by kernel_rfl) (by kernel_rfl) (fun _ _ _ h => h) (Or.inl ⟨by rfl, ?_⟩) hS ?_
    ·intro X _
     clear hS
     go_simp
     try with_reducible rfl
    try simp [Act.put]
    refine wpAnyH_take (i := 7) (v := .agg #[.slice q_w1_0 q_w1_1 q_w1_2, .slice q_w1_3 q_w1_4 q_w1_5]) rfl (by kernel_rfl) (by kernel_rfl) (by kernel_rfl) (fun _ _ _ h => h) (Or.inl ⟨by rfl, ?_⟩) hS ?_
    ·intro X _
     clear hS
     go_simp
     try with_reducible rfl
    try simp [Act.put]
    refine wpAnyH_take (i := 8) (v := .int .i64 (gpC d f)) rfl (by kernel_rfl) (by kernel_rfl) (by kernel_rfl) (fun _ _ _ h => h) (Or.inl ⟨by rfl, ?_⟩) hS ?_
    ·intro X _
     clear hS
     go_simp
     try with_reducible rfl
    try simp [Act.put]
    obtain ⟨fa, fb, na, nb, EA, EB, XA, XB, RA, RB⟩ := (unhide T240).done
    obtain ⟨⟨ca0, ca1, ca2⟩, fa0, fa1, fa2⟩ := fa.three
    obtain ⟨⟨cb0, cb1⟩, fb0, fb1⟩ := fb.twoF
    clear fa fb
    refine wpAnyH_ready (rs := [11]) (by kernel_rfl) (by simp) ?_
    refine AllReadyH.cons rfl (fun K hK => ?_) AllReadyH.nil
    go_simp
    refine hK.out _ _ (unhide KS49 _ (unhide EA)) ?_
    clear hK K hS
    intro hS
    try simp [Act.put]
    refine wpAnyH_ready (rs := [12]) (by kernel_rfl) (by simp) ?_
    refine AllReadyH.cons rfl (fun K hK => ?_) AllReadyH.nil
    go_simp
    refine hK.out _ _ (unhide KS49 _ (unhide EB)) ?_
    clear hK K hS
    intro hS
    try simp [Act.put]
    refine wpAnyH_take (i := 13) (v := .int .i64 (gpC d f)) rfl (by kernel_rfl) (by kernel_rfl) (by kernel_rfl) (fun _ _ _ h => h) (Or.inl ⟨by rfl, ?_⟩) hS ?_
    ·intro X _
     clear hS
     go_simp
     try with_reducible rfl
    try simp [Act.put]
    refine wpAnyH_done (by kernel_rfl) ?_ _
    clear hS ca0 ca1 ca2 cb0 cb1 fa0 fa1 fa2 fb0 fb1 na nb
    go_wp2_with fail
    go_meet
    exact ⟨_, _, _, _, _, _, _, _, _, _, _, _, _, _, _, _, _, rfl, rfl, rfl, XA, XB, RA, RB, EB⟩
  ·skip
   have T243 := hide (unhide T50).newB
   go_simp
   generalize WX.alloc (.cells #[.slice none 0 0, .slice none 0 0] 39) = X242 at *
   generalize WX.heap.size = g244 at *
   refine hK.out _ _ (unhide KS49 _ (unhide T243).bel) ?_
   clear hK K hS T50
   intro hS
   try simp [Act.put]
   refine wpAnyH_ready (rs := [1, 9]) (by kernel_rfl) (by simp) ?_
   refine AllReadyH.cons rfl (fun K hK => ?_) (AllReadyH.cons rfl (fun K hK => ?_) (AllReadyH.nil))
   ·skip
    go_simp
    refine (toGatherP_kit d _ _ (unhide HS25) ((unhide HR_d).up ((unhide B37).trans ((unhide T243).bel.mono (unhide B37).size)))).mono ?_
    rintro e X245 ⟨v247, S248, rfl, O249, L250, b251⟩
    have T246 := hide ((unhide T243).one b251 (unhide O249))
    clear L250 O249 b251
    refine hK.out _ _ (unhide KS49 _ (unhide T246).bel) ?_
    clear hK K hS T243
    intro hS
    try simp [Act.put]
    refine wpAnyH_ready (rs := [3, 9]) (by kernel_rfl) (by simp) ?_
    refine AllReadyH.cons rfl (fun K hK => ?_) (AllReadyH.cons rfl (fun K hK => ?_) (AllReadyH.nil))
    ·skip
     go_simp
     refine (toFeed_kit f _ _ (unhide HS41) ((unhide HR_f).up ((unhide B37).trans ((unhide T246).bel.mono (unhide B37).size)))).mono ?_
     rintro e X252 ⟨v254, S255, rfl, O256, L257, b258⟩
     have T253 := hide ((unhide T246).two b258 (unhide O256))
     clear L257 O256 b258
     refine hK.out _ _ (unhide KS49 _ (unhide T253).bel) ?_
     clear hK K hS T246
     intro hS
     try simp [Act.put]
     refine wpAnyH_ready (rs := [4, 9]) (by kernel_rfl) (by simp) ?_
     refine AllReadyH.cons rfl (fun K hK => ?_) (AllReadyH.cons rfl (fun K hK => ?_) (AllReadyH.nil))
     ·skip
      go_simp
      refine (spec_two d f _ _ _ (unhide HS25) (unhide HS41) (unhide T253).p.1 (unhide T253).p.2).mono ?_
      rintro e X259 ⟨q_w0_0, q_w0_1, q_w0_2, q_w0_3, q_w0_4, q_w0_5, q_w0_6, q_w0_7, q_w0_8, q_w1_0, q_w1_1, q_w1_2, q_w1_3, q_w1_4, q_w1_5, rfl, RR, b261⟩
      have T260 := hide ((unhide T253).three b261 (unhide RR))
      clear RR b261
      refine hK.out _ _ (unhide KS49 _ (unhide T260).bel) ?_
      clear hK K hS T253
      intro hS
      try simp [Act.put]
      refine wpAnyH_take (i := 5) (v := .tuple #[.agg #[.slice q_w0_0 q_w0_1 q_w0_2, .slice q_w0_3 q_w0_4 q_w0_5, .slice q_w0_6 q_w0_7 q_w0_8], .agg #[.slice q_w1_0 q_w1_1 q_w1_2, .slice q_w1_3 q_w1_4 q_w1_5], .int .i64 (gpC d f)]) rfl (by kernel_rfl) (by kernel_rfl) (by kernel_rfl) (fun _ _ _ h => h) (Or.inl ⟨by rfl, ?_⟩) hS ?_
      ·intro X _
       clear hS
       go_simp
       try with_reducible rfl
      try simp [Act.put]
      refine wpAnyH_take (i := 6) (v := .agg #[.slice q_w0_0 q_w0_1 q_w0_2, .slice q_w0_3 q_w0_4 q_w0_5, .slice q_w0_6 q_w0_7 q_w0_8]) rfl (by kernel_rfl) (by kernel_rfl) (by kernel_rfl) (fun _ _ _ h => h) (Or.inl ⟨by rfl, ?_⟩) hS ?_
      ·intro X _
       clear hS
       go_simp
       try with_reducible rfl
      try simp [Act.put]
      refine wpAnyH_take (i := 7) (v := .agg #[.slice q_w1_0 q_w1_1 q_w1_2, .slice q_w1_3 q_w1_4 q_w1_5]) rfl (by kernel_rfl) (by kernel_rfl) (by kernel_rfl) (fun _ _ _ h => h) (Or.inl ⟨by rfl, ?_⟩) hS ?_
      ·intro X _
       clear hS
       go_simp
       try with_reducible rfl
      try simp [Act.put]
      refine wpAnyH_take (i := 8) (v := .int .i64 (gpC d f)) rfl (by kernel_rfl) (by kernel_rfl) (by kernel_rfl) (fun _ _ _ h => h) (Or.inl ⟨by rfl, ?_⟩) hS ?_
      ·intro X _
       clear hS
       go_simp
       try with_reducible rfl
      try simp [Act.put]
      refine wpAnyH_ready (rs := [9]) (by kernel_rfl) (by simp) ?_
      refine AllReadyH.cons rfl (fun K hK => ?_) (AllReadyH.nil)
      have T263 := hide (unhide T260).newA
      go_simp
      generalize X259.alloc (.cells #[.slice none 0 0, .slice none 0 0, .slice none 0 0] 36) = X262 at *
      generalize X259.heap.size = g264 at *
      refine hK.out _ _ (unhide KS49 _ (unhide T263).bel) ?_
      clear hK K hS T260
      intro hS
      try simp [Act.put]
      obtain ⟨fa, fb, na, nb, EA, EB, XA, XB, RA, RB⟩ := (unhide T263).done
      obtain ⟨⟨ca0, ca1, ca2⟩, fa0, fa1, fa2⟩ := fa.three
      obtain ⟨⟨cb0, cb1⟩, fb0, fb1⟩ := fb.twoF
      clear fa fb
      refine wpAnyH_ready (rs := [11]) (by kernel_rfl) (by simp) ?_
      refine AllReadyH.cons rfl (fun K hK => ?_) AllReadyH.nil
      go_simp
      refine hK.out _ _ (unhide KS49 _ (unhide EA)) ?_
      clear hK K hS
      intro hS
      try simp [Act.put]
      refine wpAnyH_ready (rs := [12]) (by kernel_rfl) (by simp) ?_
      refine AllReadyH.cons rfl (fun K hK => ?_) AllReadyH.nil
      go_simp
      refine hK.out _ _ (unhide KS49 _ (unhide EB)) ?_
      clear hK K hS
      intro hS
      try simp [Act.put]
      refine wpAnyH_take (i := 13) (v := .int .i64 (gpC d f)) rfl (by kernel_rfl) (by kernel_rfl) (by kernel_rfl) (fun _ _ _ h => h) (Or.inl ⟨by rfl, ?_⟩) hS ?_
      ·intro X _
       clear hS
       go_simp
       try with_reducible rfl
      try simp [Act.put]
      refine wpAnyH_done (by kernel_rfl) ?_ _
      clear hS ca0 ca1 ca2 cb0 cb1 fa0 fa1 fa2 fb0 fb1 na nb
      go_wp2_with fail
      go_meet
      exact ⟨_, _, _, _, _, _, _, _, _, _, _, _, _, _, _, _, _, rfl, rfl, rfl, XA, XB, RA, RB, EB⟩
     ·skip
      have T266 := hide (unhide T253).newA
      go_simp
      generalize X252.alloc (.cells #[.slice none 0 0, .slice none 0 0, .slice none 0 0] 36) = X265 at *
      generalize X252.heap.size = g267 at *
      refine hK.out _ _ (unhide KS49 _ (unhide T266).bel) ?_
      clear hK K hS T253
      intro hS
      try simp [Act.put]
      refine wpAnyH_ready (rs := [4]) (by kernel_rfl) (by simp) ?_
      refine AllReadyH.cons rfl (fun K hK => ?_) (AllReadyH.nil)
      go_simp
      refine (spec_two d f _ _ _ (unhide HS25) (unhide HS41) (unhide T266).p.1 (unhide T266).p.2).mono ?_
      rintro e X268 ⟨q_w0_0, q_w0_1, q_w0_2, q_w0_3, q_w0_4, q_w0_5, q_w0_6, q_w0_7, q_w0_8, q_w1_0, q_w1_1, q_w1_2, q_w1_3, q_w1_4, q_w1_5, rfl, RR, b270⟩
      have T269 := hide ((unhide T266).three b270 (unhide RR))
      clear RR b270
      refine hK.out _ _ (unhide KS49 _ (unhide T269).bel) ?_
      clear hK K hS T266
      intro hS
      try simp [Act.put]
      refine wpAnyH_take (i := 5) (v := .tuple #[.agg #[.slice q_w0_0 q_w0_1 q_w0_2, .slice q_w0_3 q_w0_4 q_w0_5, .slice q_w0_6 q_w0_7 q_w0_8], .agg #[.slice q_w1_0 q_w1_1 q_w1_2, .slice q_w1_3 q_w1_4 q_w1_5], .int .i64 (gpC d f)]) rfl (by kernel_rfl) (by kernel_rfl) (by kernel_rfl) (fun _ _ _ h => h) (Or.inl ⟨by rfl, ?_⟩) hS ?_
      ·intro X _
       clear hS
       go_simp
       try with_reducible rfl
      try simp [Act.put]
      refine wpAnyH_take (i := 6) (v := .agg #[.slice q_w0_0 q_w0_1 q_w0_2, .slice q_w0_3 q_w0_4 q_w0_5, .slice q_w0_6 q_w0_7 q_w0_8]) rfl (by kernel_rfl) (by kernel_rfl) (by kernel_rfl) (fun _ _ _ h => h) (Or.inl ⟨by rfl, ?_⟩) hS ?_
      ·intro X _
       clear hS
       go_simp
       try with_reducible rfl
      try simp [Act.put]
      refine wpAnyH_take (i := 7) (v := .agg #[.slice q_w1_0 q_w1_1 q_w1_2, .slice q_w1_3 q_w1_4 q_w1_5]) rfl (by kernel_rfl) (by kernel_rfl) (by kernel_rfl) (fun _ _ _ h => h) (Or.inl ⟨by rfl, ?_⟩) hS ?_
      ·intro X _
       clear hS
       go_simp
       try with_reducible rfl
      try simp [Act.put]
      refine wpAnyH_take (i := 8) (v := .int .i64 (gpC d f)) rfl (by kernel_rfl) (by kernel_rfl) (by kernel_rfl) (fun _ _ _ h => h) (Or.inl ⟨by rfl, ?_⟩) hS ?_
      ·intro X _
       clear hS
       go_simp
       try with_reducible rfl
      try simp [Act.put]
      obtain ⟨fa, fb, na, nb, EA, EB, XA, XB, RA, RB⟩ := (unhide T269).done
      obtain ⟨⟨ca0, ca1, ca2⟩, fa0, fa1, fa2⟩ := fa.three
      obtain ⟨⟨cb0, cb1⟩, fb0, fb1⟩ := fb.twoF
      clear fa fb
      refine wpAnyH_ready (rs := [11]) (by kernel_rfl) (by simp) ?_
      refine AllReadyH.cons rfl (fun K hK => ?_) AllReadyH.nil
      go_simp
      refine hK.out _ _ (unhide KS49 _ (unhide EA)) ?_
      clear hK K hS
      intro hS
      try simp [Act.put]
      refine wpAnyH_ready (rs := [12]) (by kernel_rfl) (by simp) ?_
      refine AllReadyH.cons rfl (fun K hK => ?_) AllReadyH.nil
      go_simp
      refine hK.out _ _ (unhide KS49 _ (unhide EB)) ?_
      clear hK K hS
      intro hS
      try simp [Act.put]
      refine wpAnyH_take (i := 13) (v := .int .i64 (gpC d f)) rfl (by kernel_rfl) (by kernel_rfl) (by kernel_rfl) (fun _ _ _ h => h) (Or.inl ⟨by rfl, ?_⟩) hS ?_
      ·intro X _
       clear hS
       go_simp
       try with_reducible rfl
      try simp [Act.put]
      refine wpAnyH_done (by kernel_rfl) ?_ _
      clear hS ca0 ca1 ca2 cb0 cb1 fa0 fa1 fa2 fb0 fb1 na nb
      go_wp2_with fail
      go_meet
      exact ⟨_, _, _, _, _, _, _, _, _, _, _, _, _, _, _, _, _, rfl, rfl, rfl, XA, XB, RA, RB, EB⟩
    ·skip
     have T272 := hide (unhide T246).newA
     go_simp
     generalize X245.alloc (.cells #[.slice none 0 0, .slice none 0 0, .slice none 0 0] 36) = X271 at *
     generalize X245.heap.size = g273 at *
     refine hK.out _ _ (unhide KS49 _ (unhide T272).bel) ?_
     clear hK K hS T246
     intro hS
     try simp [Act.put]
     refine wpAnyH_ready (rs := [3]) (by kernel_rfl) (by simp) ?_
     refine AllReadyH.cons rfl (fun K hK => ?_) (AllReadyH.nil)
     go_simp
     refine (toFeed_kit f _ _ (unhide HS41) ((unhide HR_f).up ((unhide B37).trans ((unhide T272).bel.mono (unhide B37).size)))).mono ?_
     rintro e X274 ⟨v276, S277, rfl, O278, L279, b280⟩
     have T275 := hide ((unhide T272).two b280 (unhide O278))
     clear L279 O278 b280
     refine hK.out _ _ (unhide KS49 _ (unhide T275).bel) ?_
     clear hK K hS T272
     intro hS
     try simp [Act.put]
     refine wpAnyH_ready (rs := [4]) (by kernel_rfl) (by simp) ?_
     refine AllReadyH.cons rfl (fun K hK => ?_) (AllReadyH.nil)
     go_simp
     refine (spec_two d f _ _ _ (unhide HS25) (unhide HS41) (unhide T275).p.1 (unhide T275).p.2).mono ?_
     rintro e X281 ⟨q_w0_0, q_w0_1, q_w0_2, q_w0_3, q_w0_4, q_w0_5, q_w0_6, q_w0_7, q_w0_8, q_w1_0, q_w1_1, q_w1_2, q_w1_3, q_w1_4, q_w1_5, rfl, RR, b283⟩
     have T282 := hide ((unhide T275).three b283 (unhide RR))
     clear RR b283
     refine hK.out _ _ (unhide KS49 _ (unhide T282).bel) ?_
     clear hK K hS T275
     intro hS
     try simp [Act.put]
     refine wpAnyH_take (i := 5) (v := .tuple #[.agg #[.slice q_w0_0 q_w0_1 q_w0_2, .slice q_w0_3 q_w0_4 q_w0_5, .slice q_w0_6 q_w0_7 q_w0_8], .agg #[.slice q_w1_0 q_w1_1 q_w1_2, .slice q_w1_3 q_w1_4 q_w1_5], .int .i64 (gpC d f)]) rfl (by kernel_rfl) (by kernel_rfl) (by kernel_rfl) (fun _ _ _ h => h) (Or.inl ⟨by rfl, ?_⟩) hS ?_
     ·intro X _
      clear hS
      go_simp
      try with_reducible rfl
     try simp [Act.put]
     refine wpAnyH_take (i := 6) (v := .agg #[.slice q_w0_0 q_w0_1 q_w0_2, .slice q_w0_3 q_w0_4 q_w0_5, .slice q_w0_6 q_w0_7 q_w0_8]) rfl (by kernel_rfl) (by kernel_rfl) (by kernel_rfl) (fun _ _ _ h => h) (Or.inl ⟨by rfl, ?_⟩) hS ?_
     ·intro X _
      clear hS
      go_simp
      try with_reducible rfl
     try simp [Act.put]
     refine wpAnyH_take (i := 7) (v := .agg #[.slice q_w1_0 q_w1_1 q_w1_2, .slice q_w1_3 q_w1_4 q_w1_5]) rfl (by kernel_rfl) (by kernel_rfl) (by kernel_rfl) (fun _ _ _ h => h) (Or.inl ⟨by rfl, ?_⟩) hS ?_
     ·intro X _
      clear hS
      go_simp
      try with_reducible rfl
     try simp [Act.put]
     refine wpAnyH_take (i := 8) (v := .int .i64 (gpC d f)) rfl (by kernel_rfl) (by kernel_rfl) (by kernel_rfl) (fun _ _ _ h => h) (Or.inl ⟨by rfl, ?_⟩) hS ?_
     ·intro X _
      clear hS
      go_simp
      try with_reducible rfl
     try simp [Act.put]
     obtain ⟨fa, fb, na, nb, EA, EB, XA, XB, RA, RB⟩ := (unhide T282).done
     obtain ⟨⟨ca0, ca1, ca2⟩, fa0, fa1, fa2⟩ := fa.three
     obtain ⟨⟨cb0, cb1⟩, fb0, fb1⟩ := fb.twoF
     clear fa fb
     refine wpAnyH_ready (rs := [11]) (by kernel_rfl) (by simp) ?_
     refine AllReadyH.cons rfl (fun K hK => ?_) AllReadyH.nil
     go_simp
     refine hK.out _ _ (unhide KS49 _ (unhide EA)) ?_
     clear hK K hS
     intro hS
     try simp [Act.put]
     refine wpAnyH_ready (rs := [12]) (by kernel_rfl) (by simp) ?_
     refine AllReadyH.cons rfl (fun K hK => ?_) AllReadyH.nil
     go_simp
     refine hK.out _ _ (unhide KS49 _ (unhide EB)) ?_
     clear hK K hS
     intro hS
     try simp [Act.put]
     refine wpAnyH_take (i := 13) (v := .int .i64 (gpC d f)) rfl (by kernel_rfl) (by kernel_rfl) (by kernel_rfl) (fun _ _ _ h => h) (Or.inl ⟨by rfl, ?_⟩) hS ?_
     ·intro X _
      clear hS
      go_simp
      try with_reducible rfl
     try simp [Act.put]
     refine wpAnyH_done (by kernel_rfl) ?_ _
     clear hS ca0 ca1 ca2 cb0 cb1 fa0 fa1 fa2 fb0 fb1 na nb
     go_wp2_with fail
     go_meet
     exact ⟨_, _, _, _, _, _, _, _, _, _, _, _, _, _, _, _, _, rfl, rfl, rfl, XA, XB, RA, RB, EB⟩
   ·skip
    have T285 := hide (unhide T243).newA
    go_simp
    generalize X242.alloc (.cells #[.slice none 0 0, .slice none 0 0, .slice none 0 0] 36) = X284 at *
    generalize X242.heap.size = g286 at *
    refine hK.out _ _ (unhide KS49 _ (unhide T285).bel) ?_
    clear hK K hS T243
    intro hS
    try simp [Act.put]
    refine wpAnyH_ready (rs := [1]) (by kernel_rfl) (by simp) ?_
    refine AllReadyH.cons rfl (fun K hK => ?_) (AllReadyH.nil)
    go_simp
    refine (toGatherP_kit d _ _ (unhide HS25) ((unhide HR_d).up ((unhide B37).trans ((unhide T285).bel.mono (unhide B37).size)))).mono ?_
    rintro e X287 ⟨v289, S290, rfl, O291, L292, b293⟩
    have T288 := hide ((unhide T285).one b293 (unhide O291))
    clear L292 O291 b293
    refine hK.out _ _ (unhide KS49 _ (unhide T288).bel) ?_
    clear hK K hS T285
    intro hS
    try simp [Act.put]
    refine wpAnyH_ready (rs := [3]) (by kernel_rfl) (by simp) ?_
    refine AllReadyH.cons rfl (fun K hK => ?_) (AllReadyH.nil)
    go_simp
    refine (toFeed_kit f _ _ (unhide HS41) ((unhide HR_f).up ((unhide B37).trans ((unhide T288).bel.mono (unhide B37).size)))).mono ?_
    rintro e X294 ⟨v296, S297, rfl, O298, L299, b300⟩
    have T295 := hide ((unhide T288).two b300 (unhide O298))
    clear L299 O298 b300
    refine hK.out _ _ (unhide KS49 _ (unhide T295).bel) ?_
    clear hK K hS T288
    intro hS
    try simp [Act.put]
    refine wpAnyH_ready (rs := [4]) (by kernel_rfl) (by simp) ?_
    refine AllReadyH.cons rfl (fun K hK => ?_) (AllReadyH.nil)
    go_simp
    refine (spec_two d f _ _ _ (unhide HS25) (unhide HS41) (unhide T295).p.1 (unhide T295).p.2).mono ?_
    rintro e X301 ⟨q_w0_0, q_w0_1, q_w0_2, q_w0_3, q_w0_4, q_w0_5, q_w0_6, q_w0_7, q_w0_8, q_w1_0, q_w1_1, q_w1_2, q_w1_3, q_w1_4, q_w1_5, rfl, RR, b303⟩
    have T302 := hide ((unhide T295).three b303 (unhide RR))
    clear RR b303
    refine hK.out _ _ (unhide KS49 _ (unhide T302).bel) ?_
    clear hK K hS T295
    intro hS
    try simp [Act.put]
    refine wpAnyH_take (i := 5) (v := .tuple #[.agg #[.slice q_w0_0 q_w0_1 q_w0_2, .slice q_w0_3 q_w0_4 q_w0_5, .slice q_w0_6 q_w0_7 q_w0_8], .agg #[.slice q_w1_0 q_w1_1 q_w1_2, .slice q_w1_3 q_w1_4 q_w1_5], .int .i64 (gpC d f)]) rfl (by kernel_rfl) (by kernel_rfl) (by kernel_rfl) (fun _ _ _ h => h) (Or.inl ⟨by rfl, ?_⟩) hS ?_
    ·intro X _
     clear hS
     go_simp
     try with_reducible rfl
    try simp [Act.put]
    refine wpAnyH_take (i := 6) (v := .agg #[.slice q_w0_0 q_w0_1 q_w0_2, .slice q_w0_3 q_w0_4 q_w0_5, .slice q_w0_6 q_w0_7 q_w0_8]) rfl (by kernel_rfl) (by kernel_rfl) (by kernel_rfl) (fun _ _ _ h => h) (Or.inl ⟨by rfl, ?_⟩) hS ?_
    ·intro X _
     clear hS
     go_simp
     try with_reducible rfl
    try simp [Act.put]
    refine wpAnyH_take (i := 7) (v := .agg #[.slice q_w1_0 q_w1_1 q_w1_2, .slice q_w1_3 q_w1_4 q_w1_5]) rfl (by kernel_rfl) (by kernel_rfl) (by kernel_rfl) (fun _ _ _ h => h) (Or.inl ⟨by rfl, ?_⟩) hS ?_
    ·intro X _
     clear hS
     go_simp
     try with_reducible rfl
    try simp [Act.put]
    refine wpAnyH_take (i := 8) (v := .int .i64 (gpC d f)) rfl (by kernel_rfl) (by kernel_rfl) (by kernel_rfl) (fun _ _ _ h => h) (Or.inl ⟨by rfl, ?_⟩) hS ?_
    ·intro X _
     clear hS
     go_simp
     try with_reducible rfl
    try simp [Act.put]
    obtain ⟨fa, fb, na, nb, EA, EB, XA, XB, RA, RB⟩ := (unhide T302).done
    obtain ⟨⟨ca0, ca1, ca2⟩, fa0, fa1, fa2⟩ := fa.three
    obtain ⟨⟨cb0, cb1⟩, fb0, fb1⟩ := fb.twoF
    clear fa fb
    refine wpAnyH_ready (rs := [11]) (by kernel_rfl) (by simp) ?_
    refine AllReadyH.cons rfl (fun K hK => ?_) AllReadyH.nil
    go_simp
    refine hK.out _ _ (unhide KS49 _ (unhide EA)) ?_
    clear hK K hS
    intro hS
    try simp [Act.put]
    refine wpAnyH_ready (rs := [12]) (by kernel_rfl) (by simp) ?_
    refine AllReadyH.cons rfl (fun K hK => ?_) AllReadyH.nil
    go_simp
    refine hK.out _ _ (unhide KS49 _ (unhide EB)) ?_
    clear hK K hS
    intro hS
    try simp [Act.put]
    refine wpAnyH_take (i := 13) (v := .int .i64 (gpC d f)) rfl (by kernel_rfl) (by kernel_rfl) (by kernel_rfl) (fun _ _ _ h => h) (Or.inl ⟨by rfl, ?_⟩) hS ?_
    ·intro X _
     clear hS
     go_simp
     try with_reducible rfl
    try simp [Act.put]
    refine wpAnyH_done (by kernel_rfl) ?_ _
    clear hS ca0 ca1 ca2 cb0 cb1 fa0 fa1 fa2 fb0 fb1 na nb
    go_wp2_with fail
    go_meet
    exact ⟨_, _, _, _, _, _, _, _, _, _, _, _, _, _, _, _, _, rfl, rfl, rfl, XA, XB, RA, RB, EB⟩
 case rest =>
  obtain ⟨ga_w, gb_w, q_w0_0, q_w0_1, q_w0_2, q_w0_3, q_w0_4, q_w0_5, q_w0_6, q_w0_7, q_w0_8, q_w1_0, q_w1_1, q_w1_2, q_w1_3, q_w1_4, q_w1_5, rfl, rfl, rfl, BX304, BX305, U306, U307, Bc308⟩ := hcut
  obtain ⟨wc309, rfl⟩ : ∃ X : World, X = wc := ⟨_, rfl⟩
  have B310 := hide ((unhide B37).trans ((unhide Bc308).mono (unhide B37).size))
  clear B37
  have BX311 := hide ((unhide BX38).up (unhide Bc308))
  clear BX38
  have BX312 := hide ((unhide BX39).up (unhide Bc308))
  clear BX39
  have Z313 := hide (show w32.heap.size ≤ wc309.heap.size from (unhide Bc308).size)
  clear Bc308 BD48 KS49
  have Z314 := hide (unhide BX304).1
  have Z315 := hide (unhide BX305).1
  have BU316 := hide (Below.refl wc309.heap.size wc309)
  obtain ⟨x317, x318, x319⟩ := (unhide BX311).three
  obtain ⟨x320, x321, x322⟩ := (unhide BX312).three
  obtain ⟨x323, x324, x325⟩ := (unhide BX304).three
  obtain ⟨x326, x327⟩ := (unhide BX305).two
  go_wp2_with fail
  clear x317 x318 x319 x320 x321 x322 x323 x324 x325 x326 x327
  refine (toGatherP_kit d _ wc309 (unhide HS25) ((unhide HR_d).up (unhide B310))).mono ?_
  rintro e w328 ⟨v329, S330, rfl, O331, L332, b333⟩
  have B334 := hide ((unhide B310).trans (b333.mono (unhide B310).size))
  clear B310
  have BU335 := hide ((unhide BU316).trans (b333.mono (unhide BU316).size))
  clear BU316
  have BX336 := hide ((unhide BX311).up b333)
  clear BX311
  have BX337 := hide ((unhide BX312).up b333)
  clear BX312
  have BX338 := hide ((unhide BX304).up b333)
  clear BX304
  have BX339 := hide ((unhide BX305).up b333)
  clear BX305
  have Z340 := hide (show wc309.heap.size ≤ w328.heap.size from b333.size)
  clear b333
  have H341 := hide (unhide O331).lt
  obtain ⟨r_d0, r_d1, r_d2, r_d3, r_d4, r_d5, r_d6, r_d7, r_d8, rfl⟩ := (unhide O331).rd.form
  obtain ⟨x342, x343, x344⟩ := (unhide BX336).three
  obtain ⟨x345, x346, x347⟩ := (unhide BX337).three
  obtain ⟨x348, x349, x350⟩ := (unhide BX338).three
  obtain ⟨x351, x352⟩ := (unhide BX339).two
  have lt353 : w.heap.size < w328.heap.size := (unhide BX336).1
  have lt354 : w.heap.size + 1 < w328.heap.size := (unhide BX337).1
  have lt355 : ga_w < w328.heap.size := (unhide BX338).1
  have lt356 : gb_w < w328.heap.size := (unhide BX339).1
  obtain ⟨bx357, b358, zz359⟩ := boxNew3 w328 (.slice r_d0 r_d1 r_d2) (.slice r_d3 r_d4 r_d5) (.slice r_d6 r_d7 r_d8) 36
  go_wp2_with fail
  generalize w328.alloc (.cells #[.slice r_d0 r_d1 r_d2, .slice r_d3 r_d4 r_d5, .slice r_d6 r_d7 r_d8] 36) = W360 at *
  have B362 := hide ((unhide B334).trans (b358.mono (unhide B334).size))
  clear B334
  have BU363 := hide ((unhide BU335).trans (b358.mono (unhide BU335).size))
  clear BU335
  have BX364 := hide ((unhide BX336).up b358)
  clear BX336
  have BX365 := hide ((unhide BX337).up b358)
  clear BX337
  have BX366 := hide ((unhide BX338).up b358)
  clear BX338
  have BX367 := hide ((unhide BX339).up b358)
  clear BX339
  have O368 := hide ((unhide O331).up b358)
  clear O331
  have Z369 := hide (show w328.heap.size < W360.heap.size from zz359)
  have BX361 := hide bx357
  clear bx357 b358 zz359
  clear x342 x343 x344 x345 x346 x347 x348 x349 x350 x351 x352 lt353 lt354 lt355 lt356
  refine (toFeed_kit f _ W360 (unhide HS41) ((unhide HR_f).up (unhide B362))).mono ?_
  rintro e w370 ⟨v371, S372, rfl, O373, L374, b375⟩
  have B376 := hide ((unhide B362).trans (b375.mono (unhide B362).size))
  clear B362
  have BU377 := hide ((unhide BU363).trans (b375.mono (unhide BU363).size))
  clear BU363
  have BX378 := hide ((unhide BX364).up b375)
  clear BX364
  have BX379 := hide ((unhide BX365).up b375)
  clear BX365
  have BX380 := hide ((unhide BX366).up b375)
  clear BX366
  have BX381 := hide ((unhide BX367).up b375)
  clear BX367
  have BX382 := hide ((unhide BX361).up b375)
  clear BX361
  have O383 := hide ((unhide O368).up b375)
  clear O368
  have Z384 := hide (show W360.heap.size ≤ w370.heap.size from b375.size)
  clear b375
  have H385 := hide (unhide O373).lt
  obtain ⟨r_f0, r_f1, r_f2, r_f3, r_f4, rfl⟩ := (unhide O373).rd.form
  obtain ⟨x386, x387, x388⟩ := (unhide BX378).three
  obtain ⟨x389, x390, x391⟩ := (unhide BX379).three
  obtain ⟨x392, x393, x394⟩ := (unhide BX380).three
  obtain ⟨x395, x396⟩ := (unhide BX381).two
  obtain ⟨x397, x398, x399⟩ := (unhide BX382).three
  have lt400 : w.heap.size < w370.heap.size := (unhide BX378).1
  have lt401 : w.heap.size + 1 < w370.heap.size := (unhide BX379).1
  have lt402 : ga_w < w370.heap.size := (unhide BX380).1
  have lt403 : gb_w < w370.heap.size := (unhide BX381).1
  have lt404 : w328.heap.size < w370.heap.size := (unhide BX382).1
  obtain ⟨bx405, b406, zz407⟩ := boxNew3 w370 (.int .i64 r_f0) (.int .i64 r_f1) (.slice r_f2 r_f3 r_f4) 46
  go_wp2_with fail
  generalize w370.alloc (.cells #[.int .i64 r_f0, .int .i64 r_f1, .slice r_f2 r_f3 r_f4] 46) = W408 at *
  have B410 := hide ((unhide B376).trans (b406.mono (unhide B376).size))
  clear B376
  have BU411 := hide ((unhide BU377).trans (b406.mono (unhide BU377).size))
  clear BU377
  have BX412 := hide ((unhide BX378).up b406)
  clear BX378
  have BX413 := hide ((unhide BX379).up b406)
  clear BX379
  have BX414 := hide ((unhide BX380).up b406)
  clear BX380
  have BX415 := hide ((unhide BX381).up b406)
  clear BX381
  have BX416 := hide ((unhide BX382).up b406)
  clear BX382
  have O417 := hide ((unhide O383).up b406)
  clear O383
  have O418 := hide ((unhide O373).up b406)
  clear O373
  have Z419 := hide (show w370.heap.size < W408.heap.size from zz407)
  have BX409 := hide bx405
  clear bx405 b406 zz407
  clear x386 x387 x388 x389 x390 x391 x392 x393 x394 x395 x396 x397 x398 x399 lt400 lt401 lt402 lt403 lt404
  refine (impl_kit d _ f _ W408 (unhide HS25) (unhide HS41) (unhide O417) (unhide O418).rd ((unhide HE).up (unhide B410))).mono ?_
  rintro e w420 ⟨v422, S423, v426, S427, rfl, O424, L425, O428, L429, AP430, b421⟩
  have B431 := hide ((unhide B410).trans (b421.mono (unhide B410).size))
  clear B410
  have BU432 := hide ((unhide BU411).trans (b421.mono (unhide BU411).size))
  clear BU411
  have BX433 := hide ((unhide BX412).up b421)
  clear BX412
  have BX434 := hide ((unhide BX413).up b421)
  clear BX413
  have BX435 := hide ((unhide BX414).up b421)
  clear BX414
  have BX436 := hide ((unhide BX415).up b421)
  clear BX415
  have BX437 := hide ((unhide BX416).up b421)
  clear BX416
  have BX438 := hide ((unhide BX409).up b421)
  clear BX409
  have O439 := hide ((unhide O417).up b421)
  clear O417
  have O440 := hide ((unhide O418).up b421)
  clear O418
  have Z441 := hide (show W408.heap.size ≤ w420.heap.size from b421.size)
  clear b421
  obtain ⟨q_g0_0, q_g0_1, q_g0_2, q_g0_3, q_g0_4, q_g0_5, q_g0_6, q_g0_7, q_g0_8, rfl⟩ := (unhide O424).rd.form
  have H442 := hide (unhide O424).lt
  obtain ⟨q_g1_0, q_g1_1, q_g1_2, q_g1_3, q_g1_4, q_g1_5, rfl⟩ := (unhide O428).rd.form
  have H443 := hide (unhide O428).lt
  obtain ⟨x444, x445, x446⟩ := (unhide BX433).three
  obtain ⟨x447, x448, x449⟩ := (unhide BX434).three
  obtain ⟨x450, x451, x452⟩ := (unhide BX435).three
  obtain ⟨x453, x454⟩ := (unhide BX436).two
  obtain ⟨x455, x456, x457⟩ := (unhide BX437).three
  obtain ⟨x458, x459, x460⟩ := (unhide BX438).three
  have lt461 : w.heap.size < w420.heap.size := (unhide BX433).1
  have lt462 : w.heap.size + 1 < w420.heap.size := (unhide BX434).1
  have lt463 : ga_w < w420.heap.size := (unhide BX435).1
  have lt464 : gb_w < w420.heap.size := (unhide BX436).1
  have lt465 : w328.heap.size < w420.heap.size := (unhide BX437).1
  have lt466 : w370.heap.size < w420.heap.size := (unhide BX438).1
  obtain ⟨bx467, b468, zz469⟩ := boxNew3 w420 (.slice q_g0_0 q_g0_1 q_g0_2) (.slice q_g0_3 q_g0_4 q_g0_5) (.slice q_g0_6 q_g0_7 q_g0_8) 36
  obtain ⟨bx471, b472, zz473⟩ := boxNew2 (w420.alloc (.cells #[.slice q_g0_0 q_g0_1 q_g0_2, .slice q_g0_3 q_g0_4 q_g0_5, .slice q_g0_6 q_g0_7 q_g0_8] 36)) (.slice q_g1_0 q_g1_1 q_g1_2) (.slice q_g1_3 q_g1_4 q_g1_5) 39
  rw [World.size_alloc] at bx471
  go_wp2_with fail
  generalize w420.alloc (.cells #[.slice q_g0_0 q_g0_1 q_g0_2, .slice q_g0_3 q_g0_4 q_g0_5, .slice q_g0_6 q_g0_7 q_g0_8] 36) = W470 at *
  have B476 := hide ((unhide B431).trans (b468.mono (unhide B431).size))
  clear B431
  have BU477 := hide ((unhide BU432).trans (b468.mono (unhide BU432).size))
  clear BU432
  have BX478 := hide ((unhide BX433).up b468)
  clear BX433
  have BX479 := hide ((unhide BX434).up b468)
  clear BX434
  have BX480 := hide ((unhide BX435).up b468)
  clear BX435
  have BX481 := hide ((unhide BX436).up b468)
  clear BX436
  have BX482 := hide ((unhide BX437).up b468)
  clear BX437
  have BX483 := hide ((unhide BX438).up b468)
  clear BX438
  have O484 := hide ((unhide O439).up b468)
  clear O439
  have O485 := hide ((unhide O440).up b468)
  clear O440
  have O486 := hide ((unhide O424).up b468)
  clear O424
  have O487 := hide ((unhide O428).up b468)
  clear O428
  have Z488 := hide (show w420.heap.size < W470.heap.size from zz469)
  have BX475 := hide bx467
  clear bx467 b468 zz469
  generalize W470.alloc (.cells #[.slice q_g1_0 q_g1_1 q_g1_2, .slice q_g1_3 q_g1_4 q_g1_5] 39) = W474 at *
  have B490 := hide ((unhide B476).trans (b472.mono (unhide B476).size))
  clear B476
  have BU491 := hide ((unhide BU477).trans (b472.mono (unhide BU477).size))
  clear BU477
  have BX492 := hide ((unhide BX478).up b472)
  clear BX478
  have BX493 := hide ((unhide BX479).up b472)
  clear BX479
  have BX494 := hide ((unhide BX480).up b472)
  clear BX480
  have BX495 := hide ((unhide BX481).up b472)
  clear BX481
  have BX496 := hide ((unhide BX482).up b472)
  clear BX482
  have BX497 := hide ((unhide BX483).up b472)
  clear BX483
  have BX498 := hide ((unhide BX475).up b472)
  clear BX475
  have O499 := hide ((unhide O484).up b472)
  clear O484
  have O500 := hide ((unhide O485).up b472)
  clear O485
  have O501 := hide ((unhide O486).up b472)
  clear O486
  have O502 := hide ((unhide O487).up b472)
  clear O487
  have Z503 := hide (show W470.heap.size < W474.heap.size from zz473)
  have BX489 := hide bx471
  clear bx471 b472 zz473
  clear x444 x445 x446 x447 x448 x449 x450 x451 x452 x453 x454 x455 x456 x457 x458 x459 x460 lt461 lt462 lt463 lt464 lt465 lt466
  refine (eqGatherF_kit (gpG d f) _ _ W474 (unhide HRS0) (unhide O501).rd ((unhide U306).up (unhide BU491))).mono ?_
  rintro e w504 ⟨rfl, b505⟩
  have B506 := hide ((unhide B490).trans (b505.mono (unhide B490).size))
  clear B490
  have BU507 := hide ((unhide BU491).trans (b505.mono (unhide BU491).size))
  clear BU491
  have BX508 := hide ((unhide BX492).up b505)
  clear BX492
  have BX509 := hide ((unhide BX493).up b505)
  clear BX493
  have BX510 := hide ((unhide BX494).up b505)
  clear BX494
  have BX511 := hide ((unhide BX495).up b505)
  clear BX495
  have BX512 := hide ((unhide BX496).up b505)
  clear BX496
  have BX513 := hide ((unhide BX497).up b505)
  clear BX497
  have BX514 := hide ((unhide BX498).up b505)
  clear BX498
  have BX515 := hide ((unhide BX489).up b505)
  clear BX489
  have O516 := hide ((unhide O499).up b505)
  clear O499
  have O517 := hide ((unhide O500).up b505)
  clear O500
  have O518 := hide ((unhide O501).up b505)
  clear O501
  have O519 := hide ((unhide O502).up b505)
  clear O502
  have Z520 := hide (show W474.heap.size ≤ w504.heap.size from b505.size)
  clear b505
  obtain ⟨x521, x522, x523⟩ := (unhide BX508).three
  obtain ⟨x524, x525, x526⟩ := (unhide BX509).three
  obtain ⟨x527, x528, x529⟩ := (unhide BX510).three
  obtain ⟨x530, x531⟩ := (unhide BX511).two
  obtain ⟨x532, x533, x534⟩ := (unhide BX512).three
  obtain ⟨x535, x536, x537⟩ := (unhide BX513).three
  obtain ⟨x538, x539, x540⟩ := (unhide BX514).three
  obtain ⟨x541, x542⟩ := (unhide BX515).two
  go_wp2_with fail
  clear x521 x522 x523 x524 x525 x526 x527 x528 x529 x530 x531 x532 x533 x534 x535 x536 x537 x538 x539 x540 x541 x542
  refine (eqShow_kit (gpS d f) _ _ w504 (unhide HRS1) (unhide O519).rd ((unhide U307).up (unhide BU507))).mono ?_
  rintro e w543 ⟨rfl, b544⟩
  have B545 := hide ((unhide B506).trans (b544.mono (unhide B506).size))
  clear B506
  have BU546 := hide ((unhide BU507).trans (b544.mono (unhide BU507).size))
  clear BU507
  have BX547 := hide ((unhide BX508).up b544)
  clear BX508
  have BX548 := hide ((unhide BX509).up b544)
  clear BX509
  have BX549 := hide ((unhide BX510).up b544)
  clear BX510
  have BX550 := hide ((unhide BX511).up b544)
  clear BX511
  have BX551 := hide ((unhide BX512).up b544)
  clear BX512
  have BX552 := hide ((unhide BX513).up b544)
  clear BX513
  have BX553 := hide ((unhide BX514).up b544)
  clear BX514
  have BX554 := hide ((unhide BX515).up b544)
  clear BX515
  have O555 := hide ((unhide O516).up b544)
  clear O516
  have O556 := hide ((unhide O517).up b544)
  clear O517
  have O557 := hide ((unhide O518).up b544)
  clear O518
  have O558 := hide ((unhide O519).up b544)
  clear O519
  have Z559 := hide (show w504.heap.size ≤ w543.heap.size from b544.size)
  clear b544
  obtain ⟨x560, x561, x562⟩ := (unhide BX547).three
  obtain ⟨x563, x564, x565⟩ := (unhide BX548).three
  obtain ⟨x566, x567, x568⟩ := (unhide BX549).three
  obtain ⟨x569, x570⟩ := (unhide BX550).two
  obtain ⟨x571, x572, x573⟩ := (unhide BX551).three
  obtain ⟨x574, x575, x576⟩ := (unhide BX552).three
  obtain ⟨x577, x578, x579⟩ := (unhide BX553).three
  obtain ⟨x580, x581⟩ := (unhide BX554).two
  go_wp2_with fail
  have KP582 := hide (show ∀ X : World, Below w543.heap.size w543 X → (fun (X : World) => (X.cell? ⟨w.heap.size, 0, none⟩ = some (.slice p_d0 p_d1 p_d2) ∧ X.cell? ⟨w.heap.size, 1, none⟩ = some (.slice p_d3 p_d4 p_d5) ∧ X.cell? ⟨w.heap.size, 2, none⟩ = some (.slice p_d6 p_d7 p_d8)) ∧ (X.cell? ⟨w328.heap.size, 0, none⟩ = some (.slice r_d0 r_d1 r_d2) ∧ X.cell? ⟨w328.heap.size, 1, none⟩ = some (.slice r_d3 r_d4 r_d5) ∧ X.cell? ⟨w328.heap.size, 2, none⟩ = some (.slice r_d6 r_d7 r_d8)) ∧ Hid (Below w543.heap.size w543 X)) X from fun X b => ⟨((unhide BX547).up b).three, ((unhide BX551).up b).three, hide b⟩)
  have BD583 := hide ((Below.refl w543.heap.size w543).drew)
  go_region_held3 (fun (X : World) => (X.cell? ⟨w.heap.size, 0, none⟩ = some (.slice p_d0 p_d1 p_d2) ∧ X.cell? ⟨w.heap.size, 1, none⟩ = some (.slice p_d3 p_d4 p_d5) ∧ X.cell? ⟨w.heap.size, 2, none⟩ = some (.slice p_d6 p_d7 p_d8)) ∧ (X.cell? ⟨w328.heap.size, 0, none⟩ = some (.slice r_d0 r_d1 r_d2) ∧ X.cell? ⟨w328.heap.size, 1, none⟩ = some (.slice r_d3 r_d4 r_d5) ∧ X.cell? ⟨w328.heap.size, 2, none⟩ = some (.slice r_d6 r_d7 r_d8)) ∧ Hid (Below w543.heap.size w543 X)) ((refine unhide KP582 _ ?_; exact unhide (by assumption)))
   (first
    | (go_at_call 10; have _t := BB590; refine (eqGatherP_kit d _ _ _ (unhide HS25) ((unhide O555).up (unhide BB590)).rd (unhide O587).rd).mono ?_; rintro e w591 ⟨rfl, b592⟩; have BB593 := hide ((unhide BB590).trans (b592.mono (unhide BB590).size)); clear b592)
    | (go_at_call 7; refine (toGatherP_kit d _ _ (unhide HS25) ((unhide HR_d).up ((unhide B545).trans ((unhide BD583).mono (unhide B545).size)))).mono ?_; rintro e w584 ⟨v585, S586, rfl, O587, L588, b589⟩; have BB590 := hide ((unhide BD583).trans (b589.mono (unhide BD583).size)); clear b589)
    | fail)
  clear x560 x561 x562 x563 x564 x565 x566 x567 x568 x569 x570 x571 x572 x573 x574 x575 x576 x577 x578 x579 x580 x581
  all_goals
   try clear _t
   have B594 := hide ((unhide B545).trans ((unhide BB593).mono (unhide B545).size))
   clear B545
   have BU595 := hide ((unhide BU546).trans ((unhide BB593).mono (unhide BU546).size))
   clear BU546
   have BX596 := hide ((unhide BX547).up (unhide BB593))
   clear BX547
   have BX597 := hide ((unhide BX548).up (unhide BB593))
   clear BX548
   have BX598 := hide ((unhide BX549).up (unhide BB593))
   clear BX549
   have BX599 := hide ((unhide BX550).up (unhide BB593))
   clear BX550
   have BX600 := hide ((unhide BX551).up (unhide BB593))
   clear BX551
   have BX601 := hide ((unhide BX552).up (unhide BB593))
   clear BX552
   have BX602 := hide ((unhide BX553).up (unhide BB593))
   clear BX553
   have BX603 := hide ((unhide BX554).up (unhide BB593))
   clear BX554
   have O604 := hide ((unhide O555).up (unhide BB593))
   clear O555
   have O605 := hide ((unhide O556).up (unhide BB593))
   clear O556
   have O606 := hide ((unhide O557).up (unhide BB593))
   clear O557
   have O607 := hide ((unhide O558).up (unhide BB593))
   clear O558
   have Z608 := hide (show w543.heap.size ≤ w591.heap.size from (unhide BB593).size)
   clear BB593 BB590 KP582 BD583 O587 L588
   obtain ⟨x609, x610, x611⟩ := (unhide BX596).three
   obtain ⟨x612, x613, x614⟩ := (unhide BX597).three
   obtain ⟨x615, x616, x617⟩ := (unhide BX598).three
   obtain ⟨x618, x619⟩ := (unhide BX599).two
   obtain ⟨x620, x621, x622⟩ := (unhide BX600).three
   obtain ⟨x623, x624, x625⟩ := (unhide BX601).three
   obtain ⟨x626, x627, x628⟩ := (unhide BX602).three
   obtain ⟨x629, x630⟩ := (unhide BX603).two
   go_wp2_with fail
   have KP631 := hide (show ∀ X : World, Below w591.heap.size w591 X → (fun (X : World) => (X.cell? ⟨w.heap.size + 1, 0, none⟩ = some (.int .i64 p_f0) ∧ X.cell? ⟨w.heap.size + 1, 1, none⟩ = some (.int .i64 p_f1) ∧ X.cell? ⟨w.heap.size + 1, 2, none⟩ = some (.slice p_f2 p_f3 p_f4)) ∧ (X.cell? ⟨w370.heap.size, 0, none⟩ = some (.int .i64 r_f0) ∧ X.cell? ⟨w370.heap.size, 1, none⟩ = some (.int .i64 r_f1) ∧ X.cell? ⟨w370.heap.size, 2, none⟩ = some (.slice r_f2 r_f3 r_f4)) ∧ Hid (Below w591.heap.size w591 X)) X from fun X b => ⟨((unhide BX597).up b).three, ((unhide BX601).up b).three, hide b⟩)
   have BD632 := hide ((Below.refl w591.heap.size w591).drew)
   go_region_held3 (fun (X : World) => (X.cell? ⟨w.heap.size + 1, 0, none⟩ = some (.int .i64 p_f0) ∧ X.cell? ⟨w.heap.size + 1, 1, none⟩ = some (.int .i64 p_f1) ∧ X.cell? ⟨w.heap.size + 1, 2, none⟩ = some (.slice p_f2 p_f3 p_f4)) ∧ (X.cell? ⟨w370.heap.size, 0, none⟩ = some (.int .i64 r_f0) ∧ X.cell? ⟨w370.heap.size, 1, none⟩ = some (.int .i64 r_f1) ∧ X.cell? ⟨w370.heap.size, 2, none⟩ = some (.slice r_f2 r_f3 r_f4)) ∧ Hid (Below w591.heap.size w591 X)) ((refine unhide KP631 _ ?_; exact unhide (by assumption)))
    (first
     | (go_at_call 12; have _t := BB639; refine (eqFeed_kit f _ _ _ (unhide HS41) ((unhide O605).up (unhide BB639)).rd (unhide O636).rd).mono ?_; rintro e w640 ⟨rfl, b641⟩; have BB642 := hide ((unhide BB639).trans (b641.mono (unhide BB639).size)); clear b641)
     | (go_at_call 8; refine (toFeed_kit f _ _ (unhide HS41) ((unhide HR_f).up ((unhide B594).trans ((unhide BD632).mono (unhide B594).size)))).mono ?_; rintro e w633 ⟨v634, S635, rfl, O636, L637, b638⟩; have BB639 := hide ((unhide BD632).trans (b638.mono (unhide BD632).size)); clear b638)
     | fail)
   clear x609 x610 x611 x612 x613 x614 x615 x616 x617 x618 x619 x620 x621 x622 x623 x624 x625 x626 x627 x628 x629 x630
   all_goals
    try clear _t
    have B643 := hide ((unhide B594).trans ((unhide BB642).mono (unhide B594).size))
    clear B594
    have BU644 := hide ((unhide BU595).trans ((unhide BB642).mono (unhide BU595).size))
    clear BU595
    have BX645 := hide ((unhide BX596).up (unhide BB642))
    clear BX596
    have BX646 := hide ((unhide BX597).up (unhide BB642))
    clear BX597
    have BX647 := hide ((unhide BX598).up (unhide BB642))
    clear BX598
    have BX648 := hide ((unhide BX599).up (unhide BB642))
    clear BX599
    have BX649 := hide ((unhide BX600).up (unhide BB642))
    clear BX600
    have BX650 := hide ((unhide BX601).up (unhide BB642))
    clear BX601
    have BX651 := hide ((unhide BX602).up (unhide BB642))
    clear BX602
    have BX652 := hide ((unhide BX603).up (unhide BB642))
    clear BX603
    have O653 := hide ((unhide O604).up (unhide BB642))
    clear O604
    have O654 := hide ((unhide O605).up (unhide BB642))
    clear O605
    have O655 := hide ((unhide O606).up (unhide BB642))
    clear O606
    have O656 := hide ((unhide O607).up (unhide BB642))
    clear O607
    have Z657 := hide (show w591.heap.size ≤ w640.heap.size from (unhide BB642).size)
    clear BB642 BB639 KP631 BD632 O636 L637
    obtain ⟨x658, x659, x660⟩ := (unhide BX645).three
    obtain ⟨x661, x662, x663⟩ := (unhide BX646).three
    obtain ⟨x664, x665, x666⟩ := (unhide BX647).three
    obtain ⟨x667, x668⟩ := (unhide BX648).two
    obtain ⟨x669, x670, x671⟩ := (unhide BX649).three
    obtain ⟨x672, x673, x674⟩ := (unhide BX650).three
    obtain ⟨x675, x676, x677⟩ := (unhide BX651).three
    obtain ⟨x678, x679⟩ := (unhide BX652).two
    go_wp2_with fail
    clear x658 x659 x660 x661 x662 x663 x664 x665 x666 x667 x668 x669 x670 x671 x672 x673 x674 x675 x676 x677 x678 x679
    refine (markGatherP_kit S330 (d) _ w640 (1) N_d (1) (by omega) (unhide HN_d) (by omega) (unhide HS25) (unhide O653)).mono ?_
    rintro e w680 ⟨rfl, P681⟩
    have t682 := (unhide P681).2
    have B683 := hide ((unhide B643).trans (t682.below (unhide B643).size (fun k hk => by have z := unhide L332 k hk; have y := unhide H341 k hk; have z0 := unhide Z10; have z1 := unhide Z15; have z2 := unhide Z24; have z3 := unhide Z40; have z4 := unhide Z313; have z5 := unhide Z314; have z6 := unhide Z315; have z7 := unhide Z340; have z8 := unhide Z369; have z9 := unhide Z384; have z10 := unhide Z419; have z11 := unhide Z441; have z12 := unhide Z488; have z13 := unhide Z503; have z14 := unhide Z520; have z15 := unhide Z559; have z16 := unhide Z608; have z17 := unhide Z657; omega)))
    clear B643
    have BU684 := hide ((unhide BU644).trans (t682.below (unhide BU644).size (fun k hk => by have z := unhide L332 k hk; have y := unhide H341 k hk; have z0 := unhide Z10; have z1 := unhide Z15; have z2 := unhide Z24; have z3 := unhide Z40; have z4 := unhide Z313; have z5 := unhide Z314; have z6 := unhide Z315; have z7 := unhide Z340; have z8 := unhide Z369; have z9 := unhide Z384; have z10 := unhide Z419; have z11 := unhide Z441; have z12 := unhide Z488; have z13 := unhide Z503; have z14 := unhide Z520; have z15 := unhide Z559; have z16 := unhide Z608; have z17 := unhide Z657; omega)))
    clear BU644
    have BX685 := hide ((unhide BX645).turn t682 (fun hk => by have z := unhide L332 _ hk; have y := unhide H341 _ hk; have z0 := unhide Z10; have z1 := unhide Z15; have z2 := unhide Z24; have z3 := unhide Z40; have z4 := unhide Z313; have z5 := unhide Z314; have z6 := unhide Z315; have z7 := unhide Z340; have z8 := unhide Z369; have z9 := unhide Z384; have z10 := unhide Z419; have z11 := unhide Z441; have z12 := unhide Z488; have z13 := unhide Z503; have z14 := unhide Z520; have z15 := unhide Z559; have z16 := unhide Z608; have z17 := unhide Z657; omega))
    clear BX645
    have BX686 := hide ((unhide BX646).turn t682 (fun hk => by have z := unhide L332 _ hk; have y := unhide H341 _ hk; have z0 := unhide Z10; have z1 := unhide Z15; have z2 := unhide Z24; have z3 := unhide Z40; have z4 := unhide Z313; have z5 := unhide Z314; have z6 := unhide Z315; have z7 := unhide Z340; have z8 := unhide Z369; have z9 := unhide Z384; have z10 := unhide Z419; have z11 := unhide Z441; have z12 := unhide Z488; have z13 := unhide Z503; have z14 := unhide Z520; have z15 := unhide Z559; have z16 := unhide Z608; have z17 := unhide Z657; omega))
    clear BX646
    have BX687 := hide ((unhide BX647).turn t682 (fun hk => by have z := unhide L332 _ hk; have y := unhide H341 _ hk; have z0 := unhide Z10; have z1 := unhide Z15; have z2 := unhide Z24; have z3 := unhide Z40; have z4 := unhide Z313; have z5 := unhide Z314; have z6 := unhide Z315; have z7 := unhide Z340; have z8 := unhide Z369; have z9 := unhide Z384; have z10 := unhide Z419; have z11 := unhide Z441; have z12 := unhide Z488; have z13 := unhide Z503; have z14 := unhide Z520; have z15 := unhide Z559; have z16 := unhide Z608; have z17 := unhide Z657; omega))
    clear BX647
    have BX688 := hide ((unhide BX648).turn t682 (fun hk => by have z := unhide L332 _ hk; have y := unhide H341 _ hk; have z0 := unhide Z10; have z1 := unhide Z15; have z2 := unhide Z24; have z3 := unhide Z40; have z4 := unhide Z313; have z5 := unhide Z314; have z6 := unhide Z315; have z7 := unhide Z340; have z8 := unhide Z369; have z9 := unhide Z384; have z10 := unhide Z419; have z11 := unhide Z441; have z12 := unhide Z488; have z13 := unhide Z503; have z14 := unhide Z520; have z15 := unhide Z559; have z16 := unhide Z608; have z17 := unhide Z657; omega))
    clear BX648
    have BX689 := hide ((unhide BX649).turn t682 (fun hk => by have z := unhide L332 _ hk; have y := unhide H341 _ hk; have z0 := unhide Z10; have z1 := unhide Z15; have z2 := unhide Z24; have z3 := unhide Z40; have z4 := unhide Z313; have z5 := unhide Z314; have z6 := unhide Z315; have z7 := unhide Z340; have z8 := unhide Z369; have z9 := unhide Z384; have z10 := unhide Z419; have z11 := unhide Z441; have z12 := unhide Z488; have z13 := unhide Z503; have z14 := unhide Z520; have z15 := unhide Z559; have z16 := unhide Z608; have z17 := unhide Z657; omega))
    clear BX649
    have BX690 := hide ((unhide BX650).turn t682 (fun hk => by have z := unhide L332 _ hk; have y := unhide H341 _ hk; have z0 := unhide Z10; have z1 := unhide Z15; have z2 := unhide Z24; have z3 := unhide Z40; have z4 := unhide Z313; have z5 := unhide Z314; have z6 := unhide Z315; have z7 := unhide Z340; have z8 := unhide Z369; have z9 := unhide Z384; have z10 := unhide Z419; have z11 := unhide Z441; have z12 := unhide Z488; have z13 := unhide Z503; have z14 := unhide Z520; have z15 := unhide Z559; have z16 := unhide Z608; have z17 := unhide Z657; omega))
    clear BX650
    have BX691 := hide ((unhide BX651).turn t682 (fun hk => by have z := unhide L332 _ hk; have y := unhide H341 _ hk; have z0 := unhide Z10; have z1 := unhide Z15; have z2 := unhide Z24; have z3 := unhide Z40; have z4 := unhide Z313; have z5 := unhide Z314; have z6 := unhide Z315; have z7 := unhide Z340; have z8 := unhide Z369; have z9 := unhide Z384; have z10 := unhide Z419; have z11 := unhide Z441; have z12 := unhide Z488; have z13 := unhide Z503; have z14 := unhide Z520; have z15 := unhide Z559; have z16 := unhide Z608; have z17 := unhide Z657; omega))
    clear BX651
    have BX692 := hide ((unhide BX652).turn t682 (fun hk => by have z := unhide L332 _ hk; have y := unhide H341 _ hk; have z0 := unhide Z10; have z1 := unhide Z15; have z2 := unhide Z24; have z3 := unhide Z40; have z4 := unhide Z313; have z5 := unhide Z314; have z6 := unhide Z315; have z7 := unhide Z340; have z8 := unhide Z369; have z9 := unhide Z384; have z10 := unhide Z419; have z11 := unhide Z441; have z12 := unhide Z488; have z13 := unhide Z503; have z14 := unhide Z520; have z15 := unhide Z559; have z16 := unhide Z608; have z17 := unhide Z657; omega))
    clear BX652
    have O693 := hide ((unhide O654).turn t682 (fun k hk hm => by have z := unhide L332 k hm; have y := unhide H341 k hm; have u := unhide L374 k hk; have v := unhide H385 k hk; have z0 := unhide Z10; have z1 := unhide Z15; have z2 := unhide Z24; have z3 := unhide Z40; have z4 := unhide Z313; have z5 := unhide Z314; have z6 := unhide Z315; have z7 := unhide Z340; have z8 := unhide Z369; have z9 := unhide Z384; have z10 := unhide Z419; have z11 := unhide Z441; have z12 := unhide Z488; have z13 := unhide Z503; have z14 := unhide Z520; have z15 := unhide Z559; have z16 := unhide Z608; have z17 := unhide Z657; omega))
    clear O654
    have O694 := hide ((unhide O655).turn t682 (fun k hk hm => by have z := unhide L332 k hm; have y := unhide H341 k hm; have u := unhide L425 k hk; have v := unhide H442 k hk; have z0 := unhide Z10; have z1 := unhide Z15; have z2 := unhide Z24; have z3 := unhide Z40; have z4 := unhide Z313; have z5 := unhide Z314; have z6 := unhide Z315; have z7 := unhide Z340; have z8 := unhide Z369; have z9 := unhide Z384; have z10 := unhide Z419; have z11 := unhide Z441; have z12 := unhide Z488; have z13 := unhide Z503; have z14 := unhide Z520; have z15 := unhide Z559; have z16 := unhide Z608; have z17 := unhide Z657; omega))
    clear O655
    have O695 := hide ((unhide O656).turn t682 (fun k hk hm => by have z := unhide L332 k hm; have y := unhide H341 k hm; have u := unhide L429 k hk; have v := unhide H443 k hk; have z0 := unhide Z10; have z1 := unhide Z15; have z2 := unhide Z24; have z3 := unhide Z40; have z4 := unhide Z313; have z5 := unhide Z314; have z6 := unhide Z315; have z7 := unhide Z340; have z8 := unhide Z369; have z9 := unhide Z384; have z10 := unhide Z419; have z11 := unhide Z441; have z12 := unhide Z488; have z13 := unhide Z503; have z14 := unhide Z520; have z15 := unhide Z559; have z16 := unhide Z608; have z17 := unhide Z657; omega))
    clear O656
    have Z696 := hide (show w640.heap.size ≤ w680.heap.size from t682.size)
    have O697 := hide (unhide P681).1
    clear P681 t682
    have nf697 : ¬ (1 + (N_d : Int)) < 0 := by omega
    obtain ⟨x698, x699, x700⟩ := (unhide BX685).three
    obtain ⟨x701, x702, x703⟩ := (unhide BX686).three
    obtain ⟨x704, x705, x706⟩ := (unhide BX687).three
    obtain ⟨x707, x708⟩ := (unhide BX688).two
    obtain ⟨x709, x710, x711⟩ := (unhide BX689).three
    obtain ⟨x712, x713, x714⟩ := (unhide BX690).three
    obtain ⟨x715, x716, x717⟩ := (unhide BX691).three
    obtain ⟨x718, x719⟩ := (unhide BX692).two
    go_wp2_with fail
    clear x698 x699 x700 x701 x702 x703 x704 x705 x706 x707 x708 x709 x710 x711 x712 x713 x714 x715 x716 x717 x718 x719
    refine (markFeed_kit S372 (f) _ w680 (1 + N_d) N_f (1 + (N_d : Int)) (by omega) (unhide HN_f) (by omega) (unhide HS41) (unhide O693)).mono ?_
    rintro e w720 ⟨rfl, P721⟩
    have t722 := (unhide P721).2
    have B723 := hide ((unhide B683).trans (t722.below (unhide B683).size (fun k hk => by have z := unhide L374 k hk; have y := unhide H385 k hk; have z0 := unhide Z10; have z1 := unhide Z15; have z2 := unhide Z24; have z3 := unhide Z40; have z4 := unhide Z313; have z5 := unhide Z314; have z6 := unhide Z315; have z7 := unhide Z340; have z8 := unhide Z369; have z9 := unhide Z384; have z10 := unhide Z419; have z11 := unhide Z441; have z12 := unhide Z488; have z13 := unhide Z503; have z14 := unhide Z520; have z15 := unhide Z559; have z16 := unhide Z608; have z17 := unhide Z657; have z18 := unhide Z696; omega)))
    clear B683
    have BU724 := hide ((unhide BU684).trans (t722.below (unhide BU684).size (fun k hk => by have z := unhide L374 k hk; have y := unhide H385 k hk; have z0 := unhide Z10; have z1 := unhide Z15; have z2 := unhide Z24; have z3 := unhide Z40; have z4 := unhide Z313; have z5 := unhide Z314; have z6 := unhide Z315; have z7 := unhide Z340; have z8 := unhide Z369; have z9 := unhide Z384; have z10 := unhide Z419; have z11 := unhide Z441; have z12 := unhide Z488; have z13 := unhide Z503; have z14 := unhide Z520; have z15 := unhide Z559; have z16 := unhide Z608; have z17 := unhide Z657; have z18 := unhide Z696; omega)))
    clear BU684
    have BX725 := hide ((unhide BX685).turn t722 (fun hk => by have z := unhide L374 _ hk; have y := unhide H385 _ hk; have z0 := unhide Z10; have z1 := unhide Z15; have z2 := unhide Z24; have z3 := unhide Z40; have z4 := unhide Z313; have z5 := unhide Z314; have z6 := unhide Z315; have z7 := unhide Z340; have z8 := unhide Z369; have z9 := unhide Z384; have z10 := unhide Z419; have z11 := unhide Z441; have z12 := unhide Z488; have z13 := unhide Z503; have z14 := unhide Z520; have z15 := unhide Z559; have z16 := unhide Z608; have z17 := unhide Z657; have z18 := unhide Z696; omega))
    clear BX685
    have BX726 := hide ((unhide BX686).turn t722 (fun hk => by have z := unhide L374 _ hk; have y := unhide H385 _ hk; have z0 := unhide Z10; have z1 := unhide Z15; have z2 := unhide Z24; have z3 := unhide Z40; have z4 := unhide Z313; have z5 := unhide Z314; have z6 := unhide Z315; have z7 := unhide Z340; have z8 := unhide Z369; have z9 := unhide Z384; have z10 := unhide Z419; have z11 := unhide Z441; have z12 := unhide Z488; have z13 := unhide Z503; have z14 := unhide Z520; have z15 := unhide Z559; have z16 := unhide Z608; have z17 := unhide Z657; have z18 := unhide Z696; omega))
    clear BX686
    have BX727 := hide ((unhide BX687).turn t722 (fun hk => by have z := unhide L374 _ hk; have y := unhide H385 _ hk; have z0 := unhide Z10; have z1 := unhide Z15; have z2 := unhide Z24; have z3 := unhide Z40; have z4 := unhide Z313; have z5 := unhide Z314; have z6 := unhide Z315; have z7 := unhide Z340; have z8 := unhide Z369; have z9 := unhide Z384; have z10 := unhide Z419; have z11 := unhide Z441; have z12 := unhide Z488; have z13 := unhide Z503; have z14 := unhide Z520; have z15 := unhide Z559; have z16 := unhide Z608; have z17 := unhide Z657; have z18 := unhide Z696; omega))
    clear BX687
    have BX728 := hide ((unhide BX688).turn t722 (fun hk => by have z := unhide L374 _ hk; have y := unhide H385 _ hk; have z0 := unhide Z10; have z1 := unhide Z15; have z2 := unhide Z24; have z3 := unhide Z40; have z4 := unhide Z313; have z5 := unhide Z314; have z6 := unhide Z315; have z7 := unhide Z340; have z8 := unhide Z369; have z9 := unhide Z384; have z10 := unhide Z419; have z11 := unhide Z441; have z12 := unhide Z488; have z13 := unhide Z503; have z14 := unhide Z520; have z15 := unhide Z559; have z16 := unhide Z608; have z17 := unhide Z657; have z18 := unhide Z696; omega))
    clear BX688
    have BX729 := hide ((unhide BX689).turn t722 (fun hk => by have z := unhide L374 _ hk; have y := unhide H385 _ hk; have z0 := unhide Z10; have z1 := unhide Z15; have z2 := unhide Z24; have z3 := unhide Z40; have z4 := unhide Z313; have z5 := unhide Z314; have z6 := unhide Z315; have z7 := unhide Z340; have z8 := unhide Z369; have z9 := unhide Z384; have z10 := unhide Z419; have z11 := unhide Z441; have z12 := unhide Z488; have z13 := unhide Z503; have z14 := unhide Z520; have z15 := unhide Z559; have z16 := unhide Z608; have z17 := unhide Z657; have z18 := unhide Z696; omega))
    clear BX689
    have BX730 := hide ((unhide BX690).turn t722 (fun hk => by have z := unhide L374 _ hk; have y := unhide H385 _ hk; have z0 := unhide Z10; have z1 := unhide Z15; have z2 := unhide Z24; have z3 := unhide Z40; have z4 := unhide Z313; have z5 := unhide Z314; have z6 := unhide Z315; have z7 := unhide Z340; have z8 := unhide Z369; have z9 := unhide Z384; have z10 := unhide Z419; have z11 := unhide Z441; have z12 := unhide Z488; have z13 := unhide Z503; have z14 := unhide Z520; have z15 := unhide Z559; have z16 := unhide Z608; have z17 := unhide Z657; have z18 := unhide Z696; omega))
    clear BX690
    have BX731 := hide ((unhide BX691).turn t722 (fun hk => by have z := unhide L374 _ hk; have y := unhide H385 _ hk; have z0 := unhide Z10; have z1 := unhide Z15; have z2 := unhide Z24; have z3 := unhide Z40; have z4 := unhide Z313; have z5 := unhide Z314; have z6 := unhide Z315; have z7 := unhide Z340; have z8 := unhide Z369; have z9 := unhide Z384; have z10 := unhide Z419; have z11 := unhide Z441; have z12 := unhide Z488; have z13 := unhide Z503; have z14 := unhide Z520; have z15 := unhide Z559; have z16 := unhide Z608; have z17 := unhide Z657; have z18 := unhide Z696; omega))
    clear BX691
    have BX732 := hide ((unhide BX692).turn t722 (fun hk => by have z := unhide L374 _ hk; have y := unhide H385 _ hk; have z0 := unhide Z10; have z1 := unhide Z15; have z2 := unhide Z24; have z3 := unhide Z40; have z4 := unhide Z313; have z5 := unhide Z314; have z6 := unhide Z315; have z7 := unhide Z340; have z8 := unhide Z369; have z9 := unhide Z384; have z10 := unhide Z419; have z11 := unhide Z441; have z12 := unhide Z488; have z13 := unhide Z503; have z14 := unhide Z520; have z15 := unhide Z559; have z16 := unhide Z608; have z17 := unhide Z657; have z18 := unhide Z696; omega))
    clear BX692
    have O733 := hide ((unhide O697).turn t722 (fun k hk hm => by have z := unhide L374 k hm; have y := unhide H385 k hm; have u := unhide L332 k hk; have v := unhide H341 k hk; have z0 := unhide Z10; have z1 := unhide Z15; have z2 := unhide Z24; have z3 := unhide Z40; have z4 := unhide Z313; have z5 := unhide Z314; have z6 := unhide Z315; have z7 := unhide Z340; have z8 := unhide Z369; have z9 := unhide Z384; have z10 := unhide Z419; have z11 := unhide Z441; have z12 := unhide Z488; have z13 := unhide Z503; have z14 := unhide Z520; have z15 := unhide Z559; have z16 := unhide Z608; have z17 := unhide Z657; have z18 := unhide Z696; omega))
    clear O697
    have O734 := hide ((unhide O694).turn t722 (fun k hk hm => by have z := unhide L374 k hm; have y := unhide H385 k hm; have u := unhide L425 k hk; have v := unhide H442 k hk; have z0 := unhide Z10; have z1 := unhide Z15; have z2 := unhide Z24; have z3 := unhide Z40; have z4 := unhide Z313; have z5 := unhide Z314; have z6 := unhide Z315; have z7 := unhide Z340; have z8 := unhide Z369; have z9 := unhide Z384; have z10 := unhide Z419; have z11 := unhide Z441; have z12 := unhide Z488; have z13 := unhide Z503; have z14 := unhide Z520; have z15 := unhide Z559; have z16 := unhide Z608; have z17 := unhide Z657; have z18 := unhide Z696; omega))
    clear O694
    have O735 := hide ((unhide O695).turn t722 (fun k hk hm => by have z := unhide L374 k hm; have y := unhide H385 k hm; have u := unhide L429 k hk; have v := unhide H443 k hk; have z0 := unhide Z10; have z1 := unhide Z15; have z2 := unhide Z24; have z3 := unhide Z40; have z4 := unhide Z313; have z5 := unhide Z314; have z6 := unhide Z315; have z7 := unhide Z340; have z8 := unhide Z369; have z9 := unhide Z384; have z10 := unhide Z419; have z11 := unhide Z441; have z12 := unhide Z488; have z13 := unhide Z503; have z14 := unhide Z520; have z15 := unhide Z559; have z16 := unhide Z608; have z17 := unhide Z657; have z18 := unhide Z696; omega))
    clear O695
    have Z736 := hide (show w680.heap.size ≤ w720.heap.size from t722.size)
    have O737 := hide (unhide P721).1
    clear P721 t722
    have nf737 : ¬ (1 + (N_d : Int) + (N_f : Int)) < 0 := by omega
    obtain ⟨x738, x739, x740⟩ := (unhide BX725).three
    obtain ⟨x741, x742, x743⟩ := (unhide BX726).three
    obtain ⟨x744, x745, x746⟩ := (unhide BX727).three
    obtain ⟨x747, x748⟩ := (unhide BX728).two
    obtain ⟨x749, x750, x751⟩ := (unhide BX729).three
    obtain ⟨x752, x753, x754⟩ := (unhide BX730).three
    obtain ⟨x755, x756, x757⟩ := (unhide BX731).three
    obtain ⟨x758, x759⟩ := (unhide BX732).two
    go_wp2_with fail
    clear x738 x739 x740 x741 x742 x743 x744 x745 x746 x747 x748 x749 x750 x751 x752 x753 x754 x755 x756 x757 x758 x759
    refine (eqGatherF_kit (gpG d f) _ _ w720 (unhide HRS0) (unhide O734).rd ((unhide U306).up (unhide BU724))).mono ?_
    rintro e w760 ⟨rfl, b761⟩
    have B762 := hide ((unhide B723).trans (b761.mono (unhide B723).size))
    clear B723
    have BU763 := hide ((unhide BU724).trans (b761.mono (unhide BU724).size))
    clear BU724
    have BX764 := hide ((unhide BX725).up b761)
    clear BX725
    have BX765 := hide ((unhide BX726).up b761)
    clear BX726
    have BX766 := hide ((unhide BX727).up b761)
    clear BX727
    have BX767 := hide ((unhide BX728).up b761)
    clear BX728
    have BX768 := hide ((unhide BX729).up b761)
    clear BX729
    have BX769 := hide ((unhide BX730).up b761)
    clear BX730
    have BX770 := hide ((unhide BX731).up b761)
    clear BX731
    have BX771 := hide ((unhide BX732).up b761)
    clear BX732
    have O772 := hide ((unhide O733).up b761)
    clear O733
    have O773 := hide ((unhide O737).up b761)
    clear O737
    have O774 := hide ((unhide O734).up b761)
    clear O734
    have O775 := hide ((unhide O735).up b761)
    clear O735
    have Z776 := hide (show w720.heap.size ≤ w760.heap.size from b761.size)
    clear b761
    obtain ⟨x777, x778, x779⟩ := (unhide BX764).three
    obtain ⟨x780, x781, x782⟩ := (unhide BX765).three
    obtain ⟨x783, x784, x785⟩ := (unhide BX766).three
    obtain ⟨x786, x787⟩ := (unhide BX767).two
    obtain ⟨x788, x789, x790⟩ := (unhide BX768).three
    obtain ⟨x791, x792, x793⟩ := (unhide BX769).three
    obtain ⟨x794, x795, x796⟩ := (unhide BX770).three
    obtain ⟨x797, x798⟩ := (unhide BX771).two
    go_wp2_with fail
    clear x777 x778 x779 x780 x781 x782 x783 x784 x785 x786 x787 x788 x789 x790 x791 x792 x793 x794 x795 x796 x797 x798
    refine (eqShow_kit (gpS d f) _ _ w760 (unhide HRS1) (unhide O775).rd ((unhide U307).up (unhide BU763))).mono ?_
    rintro e w799 ⟨rfl, b800⟩
    have B801 := hide ((unhide B762).trans (b800.mono (unhide B762).size))
    clear B762
    have BU802 := hide ((unhide BU763).trans (b800.mono (unhide BU763).size))
    clear BU763
    have BX803 := hide ((unhide BX764).up b800)
    clear BX764
    have BX804 := hide ((unhide BX765).up b800)
    clear BX765
    have BX805 := hide ((unhide BX766).up b800)
    clear BX766
    have BX806 := hide ((unhide BX767).up b800)
    clear BX767
    have BX807 := hide ((unhide BX768).up b800)
    clear BX768
    have BX808 := hide ((unhide BX769).up b800)
    clear BX769
    have BX809 := hide ((unhide BX770).up b800)
    clear BX770
    have BX810 := hide ((unhide BX771).up b800)
    clear BX771
    have O811 := hide ((unhide O772).up b800)
    clear O772
    have O812 := hide ((unhide O773).up b800)
    clear O773
    have O813 := hide ((unhide O774).up b800)
    clear O774
    have O814 := hide ((unhide O775).up b800)
    clear O775
    have Z815 := hide (show w760.heap.size ≤ w799.heap.size from b800.size)
    clear b800
    obtain ⟨x816, x817, x818⟩ := (unhide BX803).three
    obtain ⟨x819, x820, x821⟩ := (unhide BX804).three
    obtain ⟨x822, x823, x824⟩ := (unhide BX805).three
    obtain ⟨x825, x826⟩ := (unhide BX806).two
    obtain ⟨x827, x828, x829⟩ := (unhide BX807).three
    obtain ⟨x830, x831, x832⟩ := (unhide BX808).three
    obtain ⟨x833, x834, x835⟩ := (unhide BX809).three
    obtain ⟨x836, x837⟩ := (unhide BX810).two
    go_wp2_with fail
    clear x816 x817 x818 x819 x820 x821 x822 x823 x824 x825 x826 x827 x828 x829 x830 x831 x832 x833 x834 x835 x836 x837
    refine (markGatherF_kit S423 (gpG d f) _ w799 (1) M_0 (1) (by omega) (unhide HM_0) (by omega) (unhide HRS0) (unhide O813)).mono ?_
    rintro e w838 ⟨rfl, P839⟩
    have t840 := (unhide P839).2
    have B841 := hide ((unhide B801).trans (t840.below (unhide B801).size (fun k hk => by have z := unhide L425 k hk; have y := unhide H442 k hk; have z0 := unhide Z10; have z1 := unhide Z15; have z2 := unhide Z24; have z3 := unhide Z40; have z4 := unhide Z313; have z5 := unhide Z314; have z6 := unhide Z315; have z7 := unhide Z340; have z8 := unhide Z369; have z9 := unhide Z384; have z10 := unhide Z419; have z11 := unhide Z441; have z12 := unhide Z488; have z13 := unhide Z503; have z14 := unhide Z520; have z15 := unhide Z559; have z16 := unhide Z608; have z17 := unhide Z657; have z18 := unhide Z696; have z19 := unhide Z736; have z20 := unhide Z776; have z21 := unhide Z815; omega)))
    clear B801
    have BU842 := hide ((unhide BU802).trans (t840.below (unhide BU802).size (fun k hk => by have z := unhide L425 k hk; have y := unhide H442 k hk; have z0 := unhide Z10; have z1 := unhide Z15; have z2 := unhide Z24; have z3 := unhide Z40; have z4 := unhide Z313; have z5 := unhide Z314; have z6 := unhide Z315; have z7 := unhide Z340; have z8 := unhide Z369; have z9 := unhide Z384; have z10 := unhide Z419; have z11 := unhide Z441; have z12 := unhide Z488; have z13 := unhide Z503; have z14 := unhide Z520; have z15 := unhide Z559; have z16 := unhide Z608; have z17 := unhide Z657; have z18 := unhide Z696; have z19 := unhide Z736; have z20 := unhide Z776; have z21 := unhide Z815; omega)))
    clear BU802
    have BX843 := hide ((unhide BX803).turn t840 (fun hk => by have z := unhide L425 _ hk; have y := unhide H442 _ hk; have z0 := unhide Z10; have z1 := unhide Z15; have z2 := unhide Z24; have z3 := unhide Z40; have z4 := unhide Z313; have z5 := unhide Z314; have z6 := unhide Z315; have z7 := unhide Z340; have z8 := unhide Z369; have z9 := unhide Z384; have z10 := unhide Z419; have z11 := unhide Z441; have z12 := unhide Z488; have z13 := unhide Z503; have z14 := unhide Z520; have z15 := unhide Z559; have z16 := unhide Z608; have z17 := unhide Z657; have z18 := unhide Z696; have z19 := unhide Z736; have z20 := unhide Z776; have z21 := unhide Z815; omega))
    clear BX803
    have BX844 := hide ((unhide BX804).turn t840 (fun hk => by have z := unhide L425 _ hk; have y := unhide H442 _ hk; have z0 := unhide Z10; have z1 := unhide Z15; have z2 := unhide Z24; have z3 := unhide Z40; have z4 := unhide Z313; have z5 := unhide Z314; have z6 := unhide Z315; have z7 := unhide Z340; have z8 := unhide Z369; have z9 := unhide Z384; have z10 := unhide Z419; have z11 := unhide Z441; have z12 := unhide Z488; have z13 := unhide Z503; have z14 := unhide Z520; have z15 := unhide Z559; have z16 := unhide Z608; have z17 := unhide Z657; have z18 := unhide Z696; have z19 := unhide Z736; have z20 := unhide Z776; have z21 := unhide Z815; omega))
    clear BX804
    have BX845 := hide ((unhide BX805).turn t840 (fun hk => by have z := unhide L425 _ hk; have y := unhide H442 _ hk; have z0 := unhide Z10; have z1 := unhide Z15; have z2 := unhide Z24; have z3 := unhide Z40; have z4 := unhide Z313; have z5 := unhide Z314; have z6 := unhide Z315; have z7 := unhide Z340; have z8 := unhide Z369; have z9 := unhide Z384; have z10 := unhide Z419; have z11 := unhide Z441; have z12 := unhide Z488; have z13 := unhide Z503; have z14 := unhide Z520; have z15 := unhide Z559; have z16 := unhide Z608; have z17 := unhide Z657; have z18 := unhide Z696; have z19 := unhide Z736; have z20 := unhide Z776; have z21 := unhide Z815; omega))
    clear BX805
    have BX846 := hide ((unhide BX806).turn t840 (fun hk => by have z := unhide L425 _ hk; have y := unhide H442 _ hk; have z0 := unhide Z10; have z1 := unhide Z15; have z2 := unhide Z24; have z3 := unhide Z40; have z4 := unhide Z313; have z5 := unhide Z314; have z6 := unhide Z315; have z7 := unhide Z340; have z8 := unhide Z369; have z9 := unhide Z384; have z10 := unhide Z419; have z11 := unhide Z441; have z12 := unhide Z488; have z13 := unhide Z503; have z14 := unhide Z520; have z15 := unhide Z559; have z16 := unhide Z608; have z17 := unhide Z657; have z18 := unhide Z696; have z19 := unhide Z736; have z20 := unhide Z776; have z21 := unhide Z815; omega))
    clear BX806
    have BX847 := hide ((unhide BX807).turn t840 (fun hk => by have z := unhide L425 _ hk; have y := unhide H442 _ hk; have z0 := unhide Z10; have z1 := unhide Z15; have z2 := unhide Z24; have z3 := unhide Z40; have z4 := unhide Z313; have z5 := unhide Z314; have z6 := unhide Z315; have z7 := unhide Z340; have z8 := unhide Z369; have z9 := unhide Z384; have z10 := unhide Z419; have z11 := unhide Z441; have z12 := unhide Z488; have z13 := unhide Z503; have z14 := unhide Z520; have z15 := unhide Z559; have z16 := unhide Z608; have z17 := unhide Z657; have z18 := unhide Z696; have z19 := unhide Z736; have z20 := unhide Z776; have z21 := unhide Z815; omega))
    clear BX807
    have BX848 := hide ((unhide BX808).turn t840 (fun hk => by have z := unhide L425 _ hk; have y := unhide H442 _ hk; have z0 := unhide Z10; have z1 := unhide Z15; have z2 := unhide Z24; have z3 := unhide Z40; have z4 := unhide Z313; have z5 := unhide Z314; have z6 := unhide Z315; have z7 := unhide Z340; have z8 := unhide Z369; have z9 := unhide Z384; have z10 := unhide Z419; have z11 := unhide Z441; have z12 := unhide Z488; have z13 := unhide Z503; have z14 := unhide Z520; have z15 := unhide Z559; have z16 := unhide Z608; have z17 := unhide Z657; have z18 := unhide Z696; have z19 := unhide Z736; have z20 := unhide Z776; have z21 := unhide Z815; omega))
    clear BX808
    have BX849 := hide ((unhide BX809).turn t840 (fun hk => by have z := unhide L425 _ hk; have y := unhide H442 _ hk; have z0 := unhide Z10; have z1 := unhide Z15; have z2 := unhide Z24; have z3 := unhide Z40; have z4 := unhide Z313; have z5 := unhide Z314; have z6 := unhide Z315; have z7 := unhide Z340; have z8 := unhide Z369; have z9 := unhide Z384; have z10 := unhide Z419; have z11 := unhide Z441; have z12 := unhide Z488; have z13 := unhide Z503; have z14 := unhide Z520; have z15 := unhide Z559; have z16 := unhide Z608; have z17 := unhide Z657; have z18 := unhide Z696; have z19 := unhide Z736; have z20 := unhide Z776; have z21 := unhide Z815; omega))
    clear BX809
    have BX850 := hide ((unhide BX810).turn t840 (fun hk => by have z := unhide L425 _ hk; have y := unhide H442 _ hk; have z0 := unhide Z10; have z1 := unhide Z15; have z2 := unhide Z24; have z3 := unhide Z40; have z4 := unhide Z313; have z5 := unhide Z314; have z6 := unhide Z315; have z7 := unhide Z340; have z8 := unhide Z369; have z9 := unhide Z384; have z10 := unhide Z419; have z11 := unhide Z441; have z12 := unhide Z488; have z13 := unhide Z503; have z14 := unhide Z520; have z15 := unhide Z559; have z16 := unhide Z608; have z17 := unhide Z657; have z18 := unhide Z696; have z19 := unhide Z736; have z20 := unhide Z776; have z21 := unhide Z815; omega))
    clear BX810
    have O851 := hide ((unhide O811).turn t840 (fun k hk hm => by have z := unhide L425 k hm; have y := unhide H442 k hm; have u := unhide L332 k hk; have v := unhide H341 k hk; have z0 := unhide Z10; have z1 := unhide Z15; have z2 := unhide Z24; have z3 := unhide Z40; have z4 := unhide Z313; have z5 := unhide Z314; have z6 := unhide Z315; have z7 := unhide Z340; have z8 := unhide Z369; have z9 := unhide Z384; have z10 := unhide Z419; have z11 := unhide Z441; have z12 := unhide Z488; have z13 := unhide Z503; have z14 := unhide Z520; have z15 := unhide Z559; have z16 := unhide Z608; have z17 := unhide Z657; have z18 := unhide Z696; have z19 := unhide Z736; have z20 := unhide Z776; have z21 := unhide Z815; omega))
    clear O811
    have O852 := hide ((unhide O812).turn t840 (fun k hk hm => by have z := unhide L425 k hm; have y := unhide H442 k hm; have u := unhide L374 k hk; have v := unhide H385 k hk; have z0 := unhide Z10; have z1 := unhide Z15; have z2 := unhide Z24; have z3 := unhide Z40; have z4 := unhide Z313; have z5 := unhide Z314; have z6 := unhide Z315; have z7 := unhide Z340; have z8 := unhide Z369; have z9 := unhide Z384; have z10 := unhide Z419; have z11 := unhide Z441; have z12 := unhide Z488; have z13 := unhide Z503; have z14 := unhide Z520; have z15 := unhide Z559; have z16 := unhide Z608; have z17 := unhide Z657; have z18 := unhide Z696; have z19 := unhide Z736; have z20 := unhide Z776; have z21 := unhide Z815; omega))
    clear O812
    have O853 := hide ((unhide O814).turn t840 (fun k hk hm => unhide AP430 k hm hk))
    clear O814
    have Z854 := hide (show w799.heap.size ≤ w838.heap.size from t840.size)
    have O855 := hide (unhide P839).1
    clear P839 t840
    have nf855 : ¬ (1 + (M_0 : Int)) < 0 := by omega
    obtain ⟨x856, x857, x858⟩ := (unhide BX843).three
    obtain ⟨x859, x860, x861⟩ := (unhide BX844).three
    obtain ⟨x862, x863, x864⟩ := (unhide BX845).three
    obtain ⟨x865, x866⟩ := (unhide BX846).two
    obtain ⟨x867, x868, x869⟩ := (unhide BX847).three
    obtain ⟨x870, x871, x872⟩ := (unhide BX848).three
    obtain ⟨x873, x874, x875⟩ := (unhide BX849).three
    obtain ⟨x876, x877⟩ := (unhide BX850).two
    go_wp2_with fail
    clear x856 x857 x858 x859 x860 x861 x862 x863 x864 x865 x866 x867 x868 x869 x870 x871 x872 x873 x874 x875 x876 x877
    refine (markShow_kit S427 (gpS d f) _ w838 (1 + M_0) M_1 (1 + (M_0 : Int)) (by omega) (unhide HM_1) (by omega) (unhide HRS1) (unhide O853)).mono ?_
    rintro e w878 ⟨rfl, P879⟩
    have t880 := (unhide P879).2
    have B881 := hide ((unhide B841).trans (t880.below (unhide B841).size (fun k hk => by have z := unhide L429 k hk; have y := unhide H443 k hk; have z0 := unhide Z10; have z1 := unhide Z15; have z2 := unhide Z24; have z3 := unhide Z40; have z4 := unhide Z313; have z5 := unhide Z314; have z6 := unhide Z315; have z7 := unhide Z340; have z8 := unhide Z369; have z9 := unhide Z384; have z10 := unhide Z419; have z11 := unhide Z441; have z12 := unhide Z488; have z13 := unhide Z503; have z14 := unhide Z520; have z15 := unhide Z559; have z16 := unhide Z608; have z17 := unhide Z657; have z18 := unhide Z696; have z19 := unhide Z736; have z20 := unhide Z776; have z21 := unhide Z815; have z22 := unhide Z854; omega)))
    clear B841
    have BU882 := hide ((unhide BU842).trans (t880.below (unhide BU842).size (fun k hk => by have z := unhide L429 k hk; have y := unhide H443 k hk; have z0 := unhide Z10; have z1 := unhide Z15; have z2 := unhide Z24; have z3 := unhide Z40; have z4 := unhide Z313; have z5 := unhide Z314; have z6 := unhide Z315; have z7 := unhide Z340; have z8 := unhide Z369; have z9 := unhide Z384; have z10 := unhide Z419; have z11 := unhide Z441; have z12 := unhide Z488; have z13 := unhide Z503; have z14 := unhide Z520; have z15 := unhide Z559; have z16 := unhide Z608; have z17 := unhide Z657; have z18 := unhide Z696; have z19 := unhide Z736; have z20 := unhide Z776; have z21 := unhide Z815; have z22 := unhide Z854; omega)))
    clear BU842
    have BX883 := hide ((unhide BX843).turn t880 (fun hk => by have z := unhide L429 _ hk; have y := unhide H443 _ hk; have z0 := unhide Z10; have z1 := unhide Z15; have z2 := unhide Z24; have z3 := unhide Z40; have z4 := unhide Z313; have z5 := unhide Z314; have z6 := unhide Z315; have z7 := unhide Z340; have z8 := unhide Z369; have z9 := unhide Z384; have z10 := unhide Z419; have z11 := unhide Z441; have z12 := unhide Z488; have z13 := unhide Z503; have z14 := unhide Z520; have z15 := unhide Z559; have z16 := unhide Z608; have z17 := unhide Z657; have z18 := unhide Z696; have z19 := unhide Z736; have z20 := unhide Z776; have z21 := unhide Z815; have z22 := unhide Z854; omega))
    clear BX843
    have BX884 := hide ((unhide BX844).turn t880 (fun hk => by have z := unhide L429 _ hk; have y := unhide H443 _ hk; have z0 := unhide Z10; have z1 := unhide Z15; have z2 := unhide Z24; have z3 := unhide Z40; have z4 := unhide Z313; have z5 := unhide Z314; have z6 := unhide Z315; have z7 := unhide Z340; have z8 := unhide Z369; have z9 := unhide Z384; have z10 := unhide Z419; have z11 := unhide Z441; have z12 := unhide Z488; have z13 := unhide Z503; have z14 := unhide Z520; have z15 := unhide Z559; have z16 := unhide Z608; have z17 := unhide Z657; have z18 := unhide Z696; have z19 := unhide Z736; have z20 := unhide Z776; have z21 := unhide Z815; have z22 := unhide Z854; omega))
    clear BX844
    have BX885 := hide ((unhide BX845).turn t880 (fun hk => by have z := unhide L429 _ hk; have y := unhide H443 _ hk; have z0 := unhide Z10; have z1 := unhide Z15; have z2 := unhide Z24; have z3 := unhide Z40; have z4 := unhide Z313; have z5 := unhide Z314; have z6 := unhide Z315; have z7 := unhide Z340; have z8 := unhide Z369; have z9 := unhide Z384; have z10 := unhide Z419; have z11 := unhide Z441; have z12 := unhide Z488; have z13 := unhide Z503; have z14 := unhide Z520; have z15 := unhide Z559; have z16 := unhide Z608; have z17 := unhide Z657; have z18 := unhide Z696; have z19 := unhide Z736; have z20 := unhide Z776; have z21 := unhide Z815; have z22 := unhide Z854; omega))
    clear BX845
    have BX886 := hide ((unhide BX846).turn t880 (fun hk => by have z := unhide L429 _ hk; have y := unhide H443 _ hk; have z0 := unhide Z10; have z1 := unhide Z15; have z2 := unhide Z24; have z3 := unhide Z40; have z4 := unhide Z313; have z5 := unhide Z314; have z6 := unhide Z315; have z7 := unhide Z340; have z8 := unhide Z369; have z9 := unhide Z384; have z10 := unhide Z419; have z11 := unhide Z441; have z12 := unhide Z488; have z13 := unhide Z503; have z14 := unhide Z520; have z15 := unhide Z559; have z16 := unhide Z608; have z17 := unhide Z657; have z18 := unhide Z696; have z19 := unhide Z736; have z20 := unhide Z776; have z21 := unhide Z815; have z22 := unhide Z854; omega))
    clear BX846
    have BX887 := hide ((unhide BX847).turn t880 (fun hk => by have z := unhide L429 _ hk; have y := unhide H443 _ hk; have z0 := unhide Z10; have z1 := unhide Z15; have z2 := unhide Z24; have z3 := unhide Z40; have z4 := unhide Z313; have z5 := unhide Z314; have z6 := unhide Z315; have z7 := unhide Z340; have z8 := unhide Z369; have z9 := unhide Z384; have z10 := unhide Z419; have z11 := unhide Z441; have z12 := unhide Z488; have z13 := unhide Z503; have z14 := unhide Z520; have z15 := unhide Z559; have z16 := unhide Z608; have z17 := unhide Z657; have z18 := unhide Z696; have z19 := unhide Z736; have z20 := unhide Z776; have z21 := unhide Z815; have z22 := unhide Z854; omega))
    clear BX847
    have BX888 := hide ((unhide BX848).turn t880 (fun hk => by have z := unhide L429 _ hk; have y := unhide H443 _ hk; have z0 := unhide Z10; have z1 := unhide Z15; have z2 := unhide Z24; have z3 := unhide Z40; have z4 := unhide Z313; have z5 := unhide Z314; have z6 := unhide Z315; have z7 := unhide Z340; have z8 := unhide Z369; have z9 := unhide Z384; have z10 := unhide Z419; have z11 := unhide Z441; have z12 := unhide Z488; have z13 := unhide Z503; have z14 := unhide Z520; have z15 := unhide Z559; have z16 := unhide Z608; have z17 := unhide Z657; have z18 := unhide Z696; have z19 := unhide Z736; have z20 := unhide Z776; have z21 := unhide Z815; have z22 := unhide Z854; omega))
    clear BX848
    have BX889 := hide ((unhide BX849).turn t880 (fun hk => by have z := unhide L429 _ hk; have y := unhide H443 _ hk; have z0 := unhide Z10; have z1 := unhide Z15; have z2 := unhide Z24; have z3 := unhide Z40; have z4 := unhide Z313; have z5 := unhide Z314; have z6 := unhide Z315; have z7 := unhide Z340; have z8 := unhide Z369; have z9 := unhide Z384; have z10 := unhide Z419; have z11 := unhide Z441; have z12 := unhide Z488; have z13 := unhide Z503; have z14 := unhide Z520; have z15 := unhide Z559; have z16 := unhide Z608; have z17 := unhide Z657; have z18 := unhide Z696; have z19 := unhide Z736; have z20 := unhide Z776; have z21 := unhide Z815; have z22 := unhide Z854; omega))
    clear BX849
    have BX890 := hide ((unhide BX850).turn t880 (fun hk => by have z := unhide L429 _ hk; have y := unhide H443 _ hk; have z0 := unhide Z10; have z1 := unhide Z15; have z2 := unhide Z24; have z3 := unhide Z40; have z4 := unhide Z313; have z5 := unhide Z314; have z6 := unhide Z315; have z7 := unhide Z340; have z8 := unhide Z369; have z9 := unhide Z384; have z10 := unhide Z419; have z11 := unhide Z441; have z12 := unhide Z488; have z13 := unhide Z503; have z14 := unhide Z520; have z15 := unhide Z559; have z16 := unhide Z608; have z17 := unhide Z657; have z18 := unhide Z696; have z19 := unhide Z736; have z20 := unhide Z776; have z21 := unhide Z815; have z22 := unhide Z854; omega))
    clear BX850
    have O891 := hide ((unhide O851).turn t880 (fun k hk hm => by have z := unhide L429 k hm; have y := unhide H443 k hm; have u := unhide L332 k hk; have v := unhide H341 k hk; have z0 := unhide Z10; have z1 := unhide Z15; have z2 := unhide Z24; have z3 := unhide Z40; have z4 := unhide Z313; have z5 := unhide Z314; have z6 := unhide Z315; have z7 := unhide Z340; have z8 := unhide Z369; have z9 := unhide Z384; have z10 := unhide Z419; have z11 := unhide Z441; have z12 := unhide Z488; have z13 := unhide Z503; have z14 := unhide Z520; have z15 := unhide Z559; have z16 := unhide Z608; have z17 := unhide Z657; have z18 := unhide Z696; have z19 := unhide Z736; have z20 := unhide Z776; have z21 := unhide Z815; have z22 := unhide Z854; omega))
    clear O851
    have O892 := hide ((unhide O852).turn t880 (fun k hk hm => by have z := unhide L429 k hm; have y := unhide H443 k hm; have u := unhide L374 k hk; have v := unhide H385 k hk; have z0 := unhide Z10; have z1 := unhide Z15; have z2 := unhide Z24; have z3 := unhide Z40; have z4 := unhide Z313; have z5 := unhide Z314; have z6 := unhide Z315; have z7 := unhide Z340; have z8 := unhide Z369; have z9 := unhide Z384; have z10 := unhide Z419; have z11 := unhide Z441; have z12 := unhide Z488; have z13 := unhide Z503; have z14 := unhide Z520; have z15 := unhide Z559; have z16 := unhide Z608; have z17 := unhide Z657; have z18 := unhide Z696; have z19 := unhide Z736; have z20 := unhide Z776; have z21 := unhide Z815; have z22 := unhide Z854; omega))
    clear O852
    have O893 := hide ((unhide O855).turn t880 (fun k hk hm => unhide AP430 k hk hm))
    clear O855
    have Z894 := hide (show w838.heap.size ≤ w878.heap.size from t880.size)
    have O895 := hide (unhide P879).1
    clear P879 t880
    have nf895 : ¬ (1 + (M_0 : Int) + (M_1 : Int)) < 0 := by omega
    obtain ⟨x896, x897, x898⟩ := (unhide BX883).three
    obtain ⟨x899, x900, x901⟩ := (unhide BX884).three
    obtain ⟨x902, x903, x904⟩ := (unhide BX885).three
    obtain ⟨x905, x906⟩ := (unhide BX886).two
    obtain ⟨x907, x908, x909⟩ := (unhide BX887).three
    obtain ⟨x910, x911, x912⟩ := (unhide BX888).three
    obtain ⟨x913, x914, x915⟩ := (unhide BX889).three
    obtain ⟨x916, x917⟩ := (unhide BX890).two
    go_wp2_with fail
    clear x896 x897 x898 x899 x900 x901 x902 x903 x904 x905 x906 x907 x908 x909 x910 x911 x912 x913 x914 x915 x916 x917
    refine (heldGatherF_kit (gpG d f) _ w878 (1) M_0 (1) (by omega) (unhide HM_0) (by omega) (unhide HRS0) (unhide O893).rd).mono ?_
    rintro e w918 ⟨rfl, b919⟩
    have B920 := hide ((unhide B881).trans (b919.mono (unhide B881).size))
    clear B881
    have BU921 := hide ((unhide BU882).trans (b919.mono (unhide BU882).size))
    clear BU882
    have BX922 := hide ((unhide BX883).up b919)
    clear BX883
    have BX923 := hide ((unhide BX884).up b919)
    clear BX884
    have BX924 := hide ((unhide BX885).up b919)
    clear BX885
    have BX925 := hide ((unhide BX886).up b919)
    clear BX886
    have BX926 := hide ((unhide BX887).up b919)
    clear BX887
    have BX927 := hide ((unhide BX888).up b919)
    clear BX888
    have BX928 := hide ((unhide BX889).up b919)
    clear BX889
    have BX929 := hide ((unhide BX890).up b919)
    clear BX890
    have O930 := hide ((unhide O891).up b919)
    clear O891
    have O931 := hide ((unhide O892).up b919)
    clear O892
    have O932 := hide ((unhide O893).up b919)
    clear O893
    have O933 := hide ((unhide O895).up b919)
    clear O895
    have Z934 := hide (show w878.heap.size ≤ w918.heap.size from b919.size)
    clear b919
    obtain ⟨x935, x936, x937⟩ := (unhide BX922).three
    obtain ⟨x938, x939, x940⟩ := (unhide BX923).three
    obtain ⟨x941, x942, x943⟩ := (unhide BX924).three
    obtain ⟨x944, x945⟩ := (unhide BX925).two
    obtain ⟨x946, x947, x948⟩ := (unhide BX926).three
    obtain ⟨x949, x950, x951⟩ := (unhide BX927).three
    obtain ⟨x952, x953, x954⟩ := (unhide BX928).three
    obtain ⟨x955, x956⟩ := (unhide BX929).two
    go_wp2_with fail
    clear x935 x936 x937 x938 x939 x940 x941 x942 x943 x944 x945 x946 x947 x948 x949 x950 x951 x952 x953 x954 x955 x956
    refine (heldShow_kit (gpS d f) _ w918 (1 + M_0) M_1 (1 + (M_0 : Int)) (by omega) (unhide HM_1) (by omega) (unhide HRS1) (unhide O933).rd).mono ?_
    rintro e w957 ⟨rfl, b958⟩
    have B959 := hide ((unhide B920).trans (b958.mono (unhide B920).size))
    clear B920
    have BU960 := hide ((unhide BU921).trans (b958.mono (unhide BU921).size))
    clear BU921
    have BX961 := hide ((unhide BX922).up b958)
    clear BX922
    have BX962 := hide ((unhide BX923).up b958)
    clear BX923
    have BX963 := hide ((unhide BX924).up b958)
    clear BX924
    have BX964 := hide ((unhide BX925).up b958)
    clear BX925
    have BX965 := hide ((unhide BX926).up b958)
    clear BX926
    have BX966 := hide ((unhide BX927).up b958)
    clear BX927
    have BX967 := hide ((unhide BX928).up b958)
    clear BX928
    have BX968 := hide ((unhide BX929).up b958)
    clear BX929
    have O969 := hide ((unhide O930).up b958)
    clear O930
    have O970 := hide ((unhide O931).up b958)
    clear O931
    have O971 := hide ((unhide O932).up b958)
    clear O932
    have O972 := hide ((unhide O933).up b958)
    clear O933
    have Z973 := hide (show w918.heap.size ≤ w957.heap.size from b958.size)
    clear b958
    obtain ⟨x974, x975, x976⟩ := (unhide BX961).three
    obtain ⟨x977, x978, x979⟩ := (unhide BX962).three
    obtain ⟨x980, x981, x982⟩ := (unhide BX963).three
    obtain ⟨x983, x984⟩ := (unhide BX964).two
    obtain ⟨x985, x986, x987⟩ := (unhide BX965).three
    obtain ⟨x988, x989, x990⟩ := (unhide BX966).three
    obtain ⟨x991, x992, x993⟩ := (unhide BX967).three
    obtain ⟨x994, x995⟩ := (unhide BX968).two
    go_wp2_with fail
    clear x974 x975 x976 x977 x978 x979 x980 x981 x982 x983 x984 x985 x986 x987 x988 x989 x990 x991 x992 x993 x994 x995
    have BD996 := hide ((Below.refl w957.heap.size w957).drew)
    have KS997 := hide (show ∀ X : World, Below w957.heap.size w957 X → (fun (X : World) => (X.cell? ⟨w.heap.size, 0, none⟩ = some (.slice p_d0 p_d1 p_d2) ∧ X.cell? ⟨w.heap.size, 1, none⟩ = some (.slice p_d3 p_d4 p_d5) ∧ X.cell? ⟨w.heap.size, 2, none⟩ = some (.slice p_d6 p_d7 p_d8)) ∧ (X.cell? ⟨w.heap.size + 1, 0, none⟩ = some (.int .i64 p_f0) ∧ X.cell? ⟨w.heap.size + 1, 1, none⟩ = some (.int .i64 p_f1) ∧ X.cell? ⟨w.heap.size + 1, 2, none⟩ = some (.slice p_f2 p_f3 p_f4))) X from fun X b => ⟨((unhide BX961).up b).three, ((unhide BX962).up b).three⟩)
    go_cut [17, 18, 19] (fun sa sb sc wx => ∃ ga_h gb_h q_h0_0 q_h0_1 q_h0_2 q_h0_3 q_h0_4 q_h0_5 q_h0_6 q_h0_7 q_h0_8 q_h1_0 q_h1_1 q_h1_2 q_h1_3 q_h1_4 q_h1_5, sa = .pointer (some ⟨ga_h, 0, none⟩) ∧ sb = .pointer (some ⟨gb_h, 0, none⟩) ∧ sc = .int .i64 (gpC d f) ∧ Hid (BoxIs wx ga_h [.slice q_h0_0 q_h0_1 q_h0_2, .slice q_h0_3 q_h0_4 q_h0_5, .slice q_h0_6 q_h0_7 q_h0_8]) ∧ Hid (BoxIs wx gb_h [.slice q_h1_0 q_h1_1 q_h1_2, .slice q_h1_3 q_h1_4 q_h1_5]) ∧ Hid (GatherRd wx (.agg #[.slice q_h0_0 q_h0_1 q_h0_2, .slice q_h0_3 q_h0_4 q_h0_5, .slice q_h0_6 q_h0_7 q_h0_8]) (gpG d f)) ∧ Hid (ShowRd wx (.agg #[.slice q_h1_0 q_h1_1 q_h1_2, .slice q_h1_3 q_h1_4 q_h1_5]) (gpS d f)) ∧ Hid (Below w957.heap.size w957 wx))
    case first =>
     have hS := unhide KS997 _ (unhide BD996)
     refine wp_region_held_drew (S := fun (X : World) => (X.cell? ⟨w.heap.size, 0, none⟩ = some (.slice p_d0 p_d1 p_d2) ∧ X.cell? ⟨w.heap.size, 1, none⟩ = some (.slice p_d3 p_d4 p_d5) ∧ X.cell? ⟨w.heap.size, 2, none⟩ = some (.slice p_d6 p_d7 p_d8)) ∧ (X.cell? ⟨w.heap.size + 1, 0, none⟩ = some (.int .i64 p_f0) ∧ X.cell? ⟨w.heap.size + 1, 1, none⟩ = some (.int .i64 p_f1) ∧ X.cell? ⟨w.heap.size + 1, 2, none⟩ = some (.slice p_f2 p_f3 p_f4))) (by kernel_rfl) hS ?_
     clear hS
     intro hS
     generalize w957.drew = WX at *
     refine wpAnyH_take (i := 0) (v := .agg #[.slice p_d0 p_d1 p_d2, .slice p_d3 p_d4 p_d5, .slice p_d6 p_d7 p_d8]) rfl (by kernel_rfl) (by kernel_rfl) (by kernel_rfl) (fun _ _ _ h => h) (Or.inl ⟨by rfl, ?_⟩) hS ?_
     ·intro X hX
      obtain ⟨⟨hxa0, hxa1, hxa2⟩, ⟨hxb0, hxb1, hxb2⟩⟩ := hX
      clear hS
      go_simp
      try with_reducible rfl
     try simp [Act.put]
     refine wpAnyH_take (i := 2) (v := .agg #[.int .i64 p_f0, .int .i64 p_f1, .slice p_f2 p_f3 p_f4]) rfl (by kernel_rfl) (by kernel_rfl) (by kernel_rfl) (fun _ _ _ h => h) (Or.inl ⟨by rfl, ?_⟩) hS ?_
     ·intro X hX
      obtain ⟨⟨hxa0, hxa1, hxa2⟩, ⟨hxb0, hxb1, hxb2⟩⟩ := hX
      clear hS
      go_simp
      try with_reducible rfl
     try simp [Act.put]
     have T998 := hide (TS.start (unhide BD996))
     refine wpAnyH_ready (rs := [1, 9, 10]) (by kernel_rfl) (by simp) ?_
     refine AllReadyH.cons rfl (fun K hK => ?_) (AllReadyH.cons rfl (fun K hK => ?_) (AllReadyH.cons rfl (fun K hK => ?_) (AllReadyH.nil)))
     ·skip
      go_simp
      refine (toGatherP_kit d _ _ (unhide HS25) ((unhide HR_d).up ((unhide B959).trans ((unhide T998).bel.mono (unhide B959).size)))).mono ?_
      rintro e X999 ⟨v1001, S1002, rfl, O1003, L1004, b1005⟩
      have T1000 := hide ((unhide T998).one b1005 (unhide O1003))
      clear L1004 O1003 b1005
      refine hK.out _ _ (unhide KS997 _ (unhide T1000).bel) ?_
      clear hK K hS T998
      intro hS
      try simp [Act.put]
      refine wpAnyH_ready (rs := [3, 9, 10]) (by kernel_rfl) (by simp) ?_
      refine AllReadyH.cons rfl (fun K hK => ?_) (AllReadyH.cons rfl (fun K hK => ?_) (AllReadyH.cons rfl (fun K hK => ?_) (AllReadyH.nil)))
      ·skip
       go_simp
       refine (toFeed_kit f _ _ (unhide HS41) ((unhide HR_f).up ((unhide B959).trans ((unhide T1000).bel.mono (unhide B959).size)))).mono ?_
       rintro e X1006 ⟨v1008, S1009, rfl, O1010, L1011, b1012⟩
       have T1007 := hide ((unhide T1000).two b1012 (unhide O1010))
       clear L1011 O1010 b1012
       refine hK.out _ _ (unhide KS997 _ (unhide T1007).bel) ?_
       clear hK K hS T1000
       intro hS
       try simp [Act.put]
       refine wpAnyH_ready (rs := [4, 9, 10]) (by kernel_rfl) (by simp) ?_
       refine AllReadyH.cons rfl (fun K hK => ?_) (AllReadyH.cons rfl (fun K hK => ?_) (AllReadyH.cons rfl (fun K hK => ?_) (AllReadyH.nil)))
       ·skip
        go_simp
        refine (impl_two d f _ _ _ (unhide HS25) (unhide HS41) (unhide T1007).p.1 (unhide T1007).p.2 ((unhide HE).up ((unhide B959).trans ((unhide T1007).bel.mono (unhide B959).size)))).mono ?_
        rintro e X1013 ⟨q_h0_0, q_h0_1, q_h0_2, q_h0_3, q_h0_4, q_h0_5, q_h0_6, q_h0_7, q_h0_8, q_h1_0, q_h1_1, q_h1_2, q_h1_3, q_h1_4, q_h1_5, rfl, RR, b1015⟩
        have T1014 := hide ((unhide T1007).three b1015 (unhide RR))
        clear RR b1015
        refine hK.out _ _ (unhide KS997 _ (unhide T1014).bel) ?_
        clear hK K hS T1007
        intro hS
        try simp [Act.put]
        refine wpAnyH_take (i := 5) (v := .tuple #[.agg #[.slice q_h0_0 q_h0_1 q_h0_2, .slice q_h0_3 q_h0_4 q_h0_5, .slice q_h0_6 q_h0_7 q_h0_8], .agg #[.slice q_h1_0 q_h1_1 q_h1_2, .slice q_h1_3 q_h1_4 q_h1_5], .int .i64 (gpC d f)]) rfl (by kernel_rfl) (by kernel_rfl) (by kernel_rfl) (fun _ _ _ h => h) (Or.inl ⟨by rfl, ?_⟩) hS ?_
        ·intro X _
         clear hS
         go_simp
         try with_reducible rfl
        try simp [Act.put]
        refine wpAnyH_take (i := 6) (v := .agg #[.slice q_h0_0 q_h0_1 q_h0_2, .slice q_h0_3 q_h0_4 q_h0_5, .slice q_h0_6 q_h0_7 q_h0_8]) rfl (by kernel_rfl) (by kernel_rfl) (by kernel_rfl) (fun _ _ _ h => h) (Or.inl ⟨by rfl, ?_⟩) hS ?_
        ·intro X _
         clear hS
         go_simp
         try with_reducible rfl
        try simp [Act.put]
        refine wpAnyH_take (i := 7) (v := .agg #[.slice q_h1_0 q_h1_1 q_h1_2, .slice q_h1_3 q_h1_4 q_h1_5]) rfl (by kernel_rfl) (by kernel_rfl) (by kernel_rfl) (fun _ _ _ h => h) (Or.inl ⟨by rfl, ?_⟩) hS ?_
        ·intro X _
         clear hS
         go_simp
         try with_reducible rfl
        try simp [Act.put]
        refine wpAnyH_take (i := 8) (v := .int .i64 (gpC d f)) rfl (by kernel_rfl) (by kernel_rfl) (by kernel_rfl) (fun _ _ _ h => h) (Or.inl ⟨by rfl, ?_⟩) hS ?_
        ·intro X _
         clear hS
         go_simp
         try with_reducible rfl
        try simp [Act.put]
        refine wpAnyH_ready (rs := [9, 10]) (by kernel_rfl) (by simp) ?_
        refine AllReadyH.cons rfl (fun K hK => ?_) (AllReadyH.cons rfl (fun K hK => ?_) (AllReadyH.nil))
        ·skip
         have T1017 := hide (unhide T1014).newA
         go_simp
         generalize X1013.alloc (.cells #[.slice none 0 0, .slice none 0 0, .slice none 0 0] 36) = X1016 at *
         generalize X1013.heap.size = g1018 at *
         refine hK.out _ _ (unhide KS997 _ (unhide T1017).bel) ?_
         clear hK K hS T1014
         intro hS
         try simp [Act.put]
         refine wpAnyH_ready (rs := [10]) (by kernel_rfl) (by simp) ?_
         refine AllReadyH.cons rfl (fun K hK => ?_) (AllReadyH.nil)
         have T1020 := hide (unhide T1017).newB
         go_simp
         generalize X1016.alloc (.cells #[.slice none 0 0, .slice none 0 0] 39) = X1019 at *
         generalize X1016.heap.size = g1021 at *
         refine hK.out _ _ (unhide KS997 _ (unhide T1020).bel) ?_
         clear hK K hS T1017
         intro hS
         try simp [Act.put]
         obtain ⟨fa, fb, na, nb, EA, EB, XA, XB, RA, RB⟩ := (unhide T1020).done
         obtain ⟨⟨ca0, ca1, ca2⟩, fa0, fa1, fa2⟩ := fa.three
         obtain ⟨⟨cb0, cb1⟩, fb0, fb1⟩ := fb.twoF
         clear fa fb
         refine wpAnyH_ready (rs := [11]) (by kernel_rfl) (by simp) ?_
         refine AllReadyH.cons rfl (fun K hK => ?_) AllReadyH.nil
         go_simp
         refine hK.out _ _ (unhide KS997 _ (unhide EA)) ?_
         clear hK K hS
         intro hS
         try simp [Act.put]
         refine wpAnyH_ready (rs := [12]) (by kernel_rfl) (by simp) ?_
         refine AllReadyH.cons rfl (fun K hK => ?_) AllReadyH.nil
         go_simp
         refine hK.out _ _ (unhide KS997 _ (unhide EB)) ?_
         clear hK K hS
         intro hS
         try simp [Act.put]
         refine wpAnyH_take (i := 13) (v := .int .i64 (gpC d f)) rfl (by kernel_rfl) (by kernel_rfl) (by kernel_rfl) (fun _ _ _ h => h) (Or.inl ⟨by rfl, ?_⟩) hS ?_
         ·intro X _
          clear hS
          go_simp
          try with_reducible rfl
         try simp [Act.put]
         refine wpAnyH_done (by kernel_rfl) ?_ _
         clear hS ca0 ca1 ca2 cb0 cb1 fa0 fa1 fa2 fb0 fb1 na nb
         go_wp2_with fail
         go_meet
         exact ⟨_, _, _, _, _, _, _, _, _, _, _, _, _, _, _, _, _, rfl, rfl, rfl, XA, XB, RA, RB, EB⟩
        ·skip
         have T1023 := hide (unhide T1014).newB
         go_simp
         generalize X1013.alloc (.cells #[.slice none 0 0, .slice none 0 0] 39) = X1022 at *
         generalize X1013.heap.size = g1024 at *
         refine hK.out _ _ (unhide KS997 _ (unhide T1023).bel) ?_
         clear hK K hS T1014
         intro hS
         try simp [Act.put]
         refine wpAnyH_ready (rs := [9]) (by kernel_rfl) (by simp) ?_
         refine AllReadyH.cons rfl (fun K hK => ?_) (AllReadyH.nil)
         have T1026 := hide (unhide T1023).newA
         go_simp
         generalize X1022.alloc (.cells #[.slice none 0 0, .slice none 0 0, .slice none 0 0] 36) = X1025 at *
         generalize X1022.heap.size = g1027 at *
         refine hK.out _ _ (unhide KS997 _ (unhide T1026).bel) ?_
         clear hK K hS T1023
         intro hS
         try simp [Act.put]
         obtain ⟨fa, fb, na, nb, EA, EB, XA, XB, RA, RB⟩ := (unhide T1026).done
         obtain ⟨⟨ca0, ca1, ca2⟩, fa0, fa1, fa2⟩ := fa.three
         obtain ⟨⟨cb0, cb1⟩, fb0, fb1⟩ := fb.twoF
         clear fa fb
         refine wpAnyH_ready (rs := [11]) (by kernel_rfl) (by simp) ?_
         refine AllReadyH.cons rfl (fun K hK => ?_) AllReadyH.nil
         go_simp
         refine hK.out _ _ (unhide KS997 _ (unhide EA)) ?_
         clear hK K hS
         intro hS
         try simp [Act.put]
         refine wpAnyH_ready (rs := [12]) (by kernel_rfl) (by simp) ?_
         refine AllReadyH.cons rfl (fun K hK => ?_) AllReadyH.nil
         go_simp
         refine hK.out _ _ (unhide KS997 _ (unhide EB)) ?_
         clear hK K hS
         intro hS
         try simp [Act.put]
         refine wpAnyH_take (i := 13) (v := .int .i64 (gpC d f)) rfl (by kernel_rfl) (by kernel_rfl) (by kernel_rfl) (fun _ _ _ h => h) (Or.inl ⟨by rfl, ?_⟩) hS ?_
         ·intro X _
          clear hS
          go_simp
          try with_reducible rfl
         try simp [Act.put]
         refine wpAnyH_done (by kernel_rfl) ?_ _
         clear hS ca0 ca1 ca2 cb0 cb1 fa0 fa1 fa2 fb0 fb1 na nb
         go_wp2_with fail
         go_meet
         exact ⟨_, _, _, _, _, _, _, _, _, _, _, _, _, _, _, _, _, rfl, rfl, rfl, XA, XB, RA, RB, EB⟩
       ·skip
        have T1029 := hide (unhide T1007).newA
        go_simp
        generalize X1006.alloc (.cells #[.slice none 0 0, .slice none 0 0, .slice none 0 0] 36) = X1028 at *
        generalize X1006.heap.size = g1030 at *
        refine hK.out _ _ (unhide KS997 _ (unhide T1029).bel) ?_
        clear hK K hS T1007
        intro hS
        try simp [Act.put]
        refine wpAnyH_ready (rs := [4, 10]) (by kernel_rfl) (by simp) ?_
        refine AllReadyH.cons rfl (fun K hK => ?_) (AllReadyH.cons rfl (fun K hK => ?_) (AllReadyH.nil))
        ·skip
         go_simp
         refine (impl_two d f _ _ _ (unhide HS25) (unhide HS41) (unhide T1029).p.1 (unhide T1029).p.2 ((unhide HE).up ((unhide B959).trans ((unhide T1029).bel.mono (unhide B959).size)))).mono ?_
         rintro e X1031 ⟨q_h0_0, q_h0_1, q_h0_2, q_h0_3, q_h0_4, q_h0_5, q_h0_6, q_h0_7, q_h0_8, q_h1_0, q_h1_1, q_h1_2, q_h1_3, q_h1_4, q_h1_5, rfl, RR, b1033⟩
         have T1032 := hide ((unhide T1029).three b1033 (unhide RR))
         clear RR b1033
         refine hK.out _ _ (unhide KS997 _ (unhide T1032).bel) ?_
         clear hK K hS T1029
         intro hS
         try simp [Act.put]
         refine wpAnyH_take (i := 5) (v := .tuple #[.agg #[.slice q_h0_0 q_h0_1 q_h0_2, .slice q_h0_3 q_h0_4 q_h0_5, .slice q_h0_6 q_h0_7 q_h0_8], .agg #[.slice q_h1_0 q_h1_1 q_h1_2, .slice q_h1_3 q_h1_4 q_h1_5], .int .i64 (gpC d f)]) rfl (by kernel_rfl) (by kernel_rfl) (by kernel_rfl) (fun _ _ _ h => h) (Or.inl ⟨by rfl, ?_⟩) hS ?_
         ·intro X _
          clear hS
          go_simp
          try with_reducible rfl
         try simp [Act.put]
         refine wpAnyH_take (i := 6) (v := .agg #[.slice q_h0_0 q_h0_1 q_h0_2, .slice q_h0_3 q_h0_4 q_h0_5, .slice q_h0_6 q_h0_7 q_h0_8]) rfl (by kernel_rfl) (by kernel_rfl) (by kernel_rfl) (fun _ _ _ h => h) (Or.inl ⟨by rfl, ?_⟩) hS ?_
         ·intro X _
          clear hS
          go_simp
          try with_reducible rfl
         try simp [Act.put]
         refine wpAnyH_take (i := 7) (v := .agg #[.slice q_h1_0 q_h1_1 q_h1_2, .slice q_h1_3 q_h1_4 q_h1_5]) rfl (by kernel_rfl) (by kernel_rfl) (by kernel_rfl) (fun _ _ _ h => h) (Or.inl ⟨by rfl, ?_⟩) hS ?_
         ·intro X _
          clear hS
          go_simp
          try with_reducible rfl
         try simp [Act.put]
         refine wpAnyH_take (i := 8) (v := .int .i64 (gpC d f)) rfl (by kernel_rfl) (by kernel_rfl) (by kernel_rfl) (fun _ _ _ h => h) (Or.inl ⟨by rfl, ?_⟩) hS ?_
         ·intro X _
          clear hS
          go_simp
          try with_reducible rfl
         try simp [Act.put]
         refine wpAnyH_ready (rs := [10]) (by kernel_rfl) (by simp) ?_
         refine AllReadyH.cons rfl (fun K hK => ?_) (AllReadyH.nil)
         have T1035 := hide (unhide T1032).newB
         go_simp
         generalize X1031.alloc (.cells #[.slice none 0 0, .slice none 0 0] 39) = X1034 at *
         generalize X1031.heap.size = g1036 at *
         refine hK.out _ _ (unhide KS997 _ (unhide T1035).bel) ?_
         clear hK K hS T1032
         intro hS
         try simp [Act.put]
         obtain ⟨fa, fb, na, nb, EA, EB, XA, XB, RA, RB⟩ := (unhide T1035).done
         obtain ⟨⟨ca0, ca1, ca2⟩, fa0, fa1, fa2⟩ := fa.three
         obtain ⟨⟨cb0, cb1⟩, fb0, fb1⟩ := fb.twoF
         clear fa fb
         refine wpAnyH_ready (rs := [11]) (by kernel_rfl) (by simp) ?_
         refine AllReadyH.cons rfl (fun K hK => ?_) AllReadyH.nil
         go_simp
         refine hK.out _ _ (unhide KS997 _ (unhide EA)) ?_
         clear hK K hS
         intro hS
         try simp [Act.put]
         refine wpAnyH_ready (rs := [12]) (by kernel_rfl) (by simp) ?_
         refine AllReadyH.cons rfl (fun K hK => ?_) AllReadyH.nil
         go_simp
         refine hK.out _ _ (unhide KS997 _ (unhide EB)) ?_
         clear hK K hS
         intro hS
         try simp [Act.put]
         refine wpAnyH_take (i := 13) (v := .int .i64 (gpC d f)) rfl (by kernel_rfl) (by kernel_rfl) (by kernel_rfl) (fun _ _ _ h => h) (Or.inl ⟨by rfl, ?_⟩) hS ?_
         ·intro X _
          clear hS
          go_simp
          try with_reducible rfl
         try simp [Act.put]
         refine wpAnyH_done (by kernel_rfl) ?_ _
         clear hS ca0 ca1 ca2 cb0 cb1 fa0 fa1 fa2 fb0 fb1 na nb
         go_wp2_with fail
         go_meet
         exact ⟨_, _, _, _, _, _, _, _, _, _, _, _, _, _, _, _, _, rfl, rfl, rfl, XA, XB, RA, RB, EB⟩
        ·skip
         have T1038 := hide (unhide T1029).newB
         go_simp
         generalize X1028.alloc (.cells #[.slice none 0 0, .slice none 0 0] 39) = X1037 at *
         generalize X1028.heap.size = g1039 at *
         refine hK.out _ _ (unhide KS997 _ (unhide T1038).bel) ?_
         clear hK K hS T1029
         intro hS
         try simp [Act.put]
         refine wpAnyH_ready (rs := [4]) (by kernel_rfl) (by simp) ?_
         refine AllReadyH.cons rfl (fun K hK => ?_) (AllReadyH.nil)
         go_simp
         refine (impl_two d f _ _ _ (unhide HS25) (unhide HS41) (unhide T1038).p.1 (unhide T1038).p.2 ((unhide HE).up ((unhide B959).trans ((unhide T1038).bel.mono (unhide B959).size)))).mono ?_
         rintro e X1040 ⟨q_h0_0, q_h0_1, q_h0_2, q_h0_3, q_h0_4, q_h0_5, q_h0_6, q_h0_7, q_h0_8, q_h1_0, q_h1_1, q_h1_2, q_h1_3, q_h1_4, q_h1_5, rfl, RR, b1042⟩
         have T1041 := hide ((unhide T1038).three b1042 (unhide RR))
         clear RR b1042
         refine hK.out _ _ (unhide KS997 _ (unhide T1041).bel) ?_
         clear hK K hS T1038
         intro hS
         try simp [Act.put]
         refine wpAnyH_take (i := 5) (v := .tuple #[.agg #[.slice q_h0_0 q_h0_1 q_h0_2, .slice q_h0_3 q_h0_4 q_h0_5, .slice q_h0_6 q_h0_7 q_h0_8], .agg #[.slice q_h1_0 q_h1_1 q_h1_2, .slice q_h1_3 q_h1_4 q_h1_5], .int .i64 (gpC d f)]) rfl (by kernel_rfl) (by kernel_rfl) (by kernel_rfl) (fun _ _ _ h => h) (Or.inl ⟨by rfl, ?_⟩) hS ?_
         ·intro X _
          clear hS
          go_simp
          try with_reducible rfl
         try simp [Act.put]
         refine wpAnyH_take (i := 6) (v := .agg #[.slice q_h0_0 q_h0_1 q_h0_2, .slice q_h0_3 q_h0_4 q_h0_5, .slice q_h0_6 q_h0_7 q_h0_8]) rfl (by kernel_rfl) (by kernel_rfl) (by kernel_rfl) (fun _ _ _ h => h) (Or.inl ⟨by rfl, ?_⟩) hS ?_
         ·intro X _
          clear hS
          go_simp
          try with_reducible rfl
         try simp [Act.put]
         refine wpAnyH_take (i := 7) (v := .agg #[.slice q_h1_0 q_h1_1 q_h1_2, .slice q_h1_3 q_h1_4 q_h1_5]) rfl (by kernel_rfl) (by kernel_rfl) (by kernel_rfl) (fun _ _ _ h => h) (Or.inl ⟨by rfl, ?_⟩) hS ?_
         ·intro X _
          clear hS
          go_simp
          try with_reducible rfl
         try simp [Act.put]
         refine wpAnyH_take (i := 8) (v := .int .i64 (gpC d f)) rfl (by kernel_rfl) (by kernel_rfl) (by kernel_rfl) (fun _ _ _ h => h) (Or.inl ⟨by rfl, ?_⟩) hS ?_
         ·intro X _
          clear hS
          go_simp
          try with_reducible rfl
         try simp [Act.put]
         obtain ⟨fa, fb, na, nb, EA, EB, XA, XB, RA, RB⟩ := (unhide T1041).done
         obtain ⟨⟨ca0, ca1, ca2⟩, fa0, fa1, fa2⟩ := fa.three
         obtain ⟨⟨cb0, cb1⟩, fb0, fb1⟩ := fb.twoF
         clear fa fb
         refine wpAnyH_ready (rs := [11]) (by kernel_rfl) (by simp) ?_
         refine AllReadyH.cons rfl (fun K hK => ?_) AllReadyH.nil
         go_simp
         refine hK.out _ _ (unhide KS997 _ (unhide EA)) ?_
         clear hK K hS
         intro hS
         try simp [Act.put]
         refine wpAnyH_ready (rs := [12]) (by kernel_rfl) (by simp) ?_
         refine AllReadyH.cons rfl (fun K hK => ?_) AllReadyH.nil
         go_simp
         refine hK.out _ _ (unhide KS997 _ (unhide EB)) ?_
         clear hK K hS
         intro hS
         try simp [Act.put]
         refine wpAnyH_take (i := 13) (v := .int .i64 (gpC d f)) rfl (by kernel_rfl) (by kernel_rfl) (by kernel_rfl) (fun _ _ _ h => h) (Or.inl ⟨by rfl, ?_⟩) hS ?_
         ·intro X _
          clear hS
          go_simp
          try with_reducible rfl
         try simp [Act.put]
         refine wpAnyH_done (by kernel_rfl) ?_ _
         clear hS ca0 ca1 ca2 cb0 cb1 fa0 fa1 fa2 fb0 fb1 na nb
         go_wp2_with fail
         go_meet
         exact ⟨_, _, _, _, _, _, _, _, _, _, _, _, _, _, _, _, _, rfl, rfl, rfl, XA, XB, RA, RB, EB⟩
       ·skip
        have T1044 := hide (unhide T1007).newB
        go_simp
        generalize X1006.alloc (.cells #[.slice none 0 0, .slice none 0 0] 39) = X1043 at *
        generalize X1006.heap.size = g1045 at *
        refine hK.out _ _ (unhide KS997 _ (unhide T1044).bel) ?_
        clear hK K hS T1007
        intro hS
        try simp [Act.put]
        refine wpAnyH_ready (rs := [4, 9]) (by kernel_rfl) (by simp) ?_
        refine AllReadyH.cons rfl (fun K hK => ?_) (AllReadyH.cons rfl (fun K hK => ?_) (AllReadyH.nil))
        ·skip
         go_simp
         refine (impl_two d f _ _ _ (unhide HS25) (unhide HS41) (unhide T1044).p.1 (unhide T1044).p.2 ((unhide HE).up ((unhide B959).trans ((unhide T1044).bel.mono (unhide B959).size)))).mono ?_
         rintro e X1046 ⟨q_h0_0, q_h0_1, q_h0_2, q_h0_3, q_h0_4, q_h0_5, q_h0_6, q_h0_7, q_h0_8, q_h1_0, q_h1_1, q_h1_2, q_h1_3, q_h1_4, q_h1_5, rfl, RR, b1048⟩
         have T1047 := hide ((unhide T1044).three b1048 (unhide RR))
         clear RR b1048
         refine hK.out _ _ (unhide KS997 _ (unhide T1047).bel) ?_
         clear hK K hS T1044
         intro hS
         try simp [Act.put]
         refine wpAnyH_take (i := 5) (v := .tuple #[.agg #[.slice q_h0_0 q_h0_1 q_h0_2, .slice q_h0_3 q_h0_4 q_h0_5, .slice q_h0_6 q_h0_7 q_h0_8], .agg #[.slice q_h1_0 q_h1_1 q_h1_2, .slice q_h1_3 q_h1_4 q_h1_5], .int .i64 (gpC d f)]) rfl (by kernel_rfl) (by kernel_rfl) (by kernel_rfl) (fun _ _ _ h => h) (Or.inl ⟨by rfl, ?_⟩) hS ?_
         ·intro X _
          clear hS
          go_simp
          try with_reducible rfl
         try simp [Act.put]
         refine wpAnyH_take (i := 6) (v := .agg #[.slice q_h0_0 q_h0_1 q_h0_2, .slice q_h0_3 q_h0_4 q_h0_5, .slice q_h0_6 q_h0_7 q_h0_8]) rfl (by kernel_rfl) (by kernel_rfl) (by kernel_rfl) (fun _ _ _ h => h) (Or.inl ⟨by rfl, ?_⟩) hS ?_
         ·intro X _
          clear hS
          go_simp
          try with_reducible rfl
         try simp [Act.put]
         refine wpAnyH_take (i := 7) (v := .agg #[.slice q_h1_0 q_h1_1 q_h1_2, .slice q_h1_3 q_h1_4 q_h1_5]) rfl (by kernel_rfl) (by kernel_rfl) (by kernel_rfl) (fun _ _ _ h => h) (Or.inl ⟨by rfl, ?_⟩) hS ?_
         ·intro X _
          clear hS
          go_simp
          try with_reducible rfl
         try simp [Act.put]
         refine wpAnyH_take (i := 8) (v := .int .i64 (gpC d f)) rfl (by kernel_rfl) (by kernel_rfl) (by kernel_rfl) (fun _ _ _ h => h) (Or.inl ⟨by rfl, ?_⟩) hS ?_
         ·intro X _
          clear hS
          go_simp
          try with_reducible rfl
         try simp [Act.put]
         refine wpAnyH_ready (rs := [9]) (by kernel_rfl) (by simp) ?_
         refine AllReadyH.cons rfl (fun K hK => ?_) (AllReadyH.nil)
         have T1050 := hide (unhide T1047).newA
         go_simp
         generalize X1046.alloc (.cells #[.slice none 0 0, .slice none 0 0, .slice none 0 0] 36) = X1049 at *
         generalize X1046.heap.size = g1051 at *
         refine hK.out _ _ (unhide KS997 _ (unhide T1050).bel) ?_
         clear hK K hS T1047
         intro hS
         try simp [Act.put]
         obtain ⟨fa, fb, na, nb, EA, EB, XA, XB, RA, RB⟩ := (unhide T1050).done
         obtain ⟨⟨ca0, ca1, ca2⟩, fa0, fa1, fa2⟩ := fa.three
         obtain ⟨⟨cb0, cb1⟩, fb0, fb1⟩ := fb.twoF
         clear fa fb
         refine wpAnyH_ready (rs := [11]) (by kernel_rfl) (by simp) ?_
         refine AllReadyH.cons rfl (fun K hK => ?_) AllReadyH.nil
         go_simp
         refine hK.out _ _ (unhide KS997 _ (unhide EA)) ?_
         clear hK K hS
         intro hS
         try simp [Act.put]
         refine wpAnyH_ready (rs := [12]) (by kernel_rfl) (by simp) ?_
         refine AllReadyH.cons rfl (fun K hK => ?_) AllReadyH.nil
         go_simp
         refine hK.out _ _ (unhide KS997 _ (unhide EB)) ?_
         clear hK K hS
         intro hS
         try simp [Act.put]
         refine wpAnyH_take (i := 13) (v := .int .i64 (gpC d f)) rfl (by kernel_rfl) (by kernel_rfl) (by kernel_rfl) (fun _ _ _ h => h) (Or.inl ⟨by rfl, ?_⟩) hS ?_
         ·intro X _
          clear hS
          go_simp
          try with_reducible rfl
         try simp [Act.put]
         refine wpAnyH_done (by kernel_rfl) ?_ _
         clear hS ca0 ca1 ca2 cb0 cb1 fa0 fa1 fa2 fb0 fb1 na nb
         go_wp2_with fail
         go_meet
         exact ⟨_, _, _, _, _, _, _, _, _, _, _, _, _, _, _, _, _, rfl, rfl, rfl, XA, XB, RA, RB, EB⟩
        ·skip
         have T1053 := hide (unhide T1044).newA
         go_simp
         generalize X1043.alloc (.cells #[.slice none 0 0, .slice none 0 0, .slice none 0 0] 36) = X1052 at *
         generalize X1043.heap.size = g1054 at *
         refine hK.out _ _ (unhide KS997 _ (unhide T1053).bel) ?_
         clear hK K hS T1044
         intro hS
         try simp [Act.put]
         refine wpAnyH_ready (rs := [4]) (by kernel_rfl) (by simp) ?_
         refine AllReadyH.cons rfl (fun K hK => ?_) (AllReadyH.nil)
         go_simp
         refine (impl_two d f _ _ _ (unhide HS25) (unhide HS41) (unhide T1053).p.1 (unhide T1053).p.2 ((unhide HE).up ((unhide B959).trans ((unhide T1053).bel.mono (unhide B959).size)))).mono ?_
         rintro e X1055 ⟨q_h0_0, q_h0_1, q_h0_2, q_h0_3, q_h0_4, q_h0_5, q_h0_6, q_h0_7, q_h0_8, q_h1_0, q_h1_1, q_h1_2, q_h1_3, q_h1_4, q_h1_5, rfl, RR, b1057⟩
         have T1056 := hide ((unhide T1053).three b1057 (unhide RR))
         clear RR b1057
         refine hK.out _ _ (unhide KS997 _ (unhide T1056).bel) ?_
         clear hK K hS T1053
         intro hS
         try simp [Act.put]
         refine wpAnyH_take (i := 5) (v := .tuple #[.agg #[.slice q_h0_0 q_h0_1 q_h0_2, .slice q_h0_3 q_h0_4 q_h0_5, .slice q_h0_6 q_h0_7 q_h0_8], .agg #[.slice q_h1_0 q_h1_1 q_h1_2, .slice q_h1_3 q_h1_4 q_h1_5], .int .i64 (gpC d f)]) rfl (by kernel_rfl) (by kernel_rfl) (by kernel_rfl) (fun _ _ _ h => h) (Or.inl ⟨by rfl, ?_⟩) hS ?_
         ·intro X _
          clear hS
          go_simp
          try with_reducible rfl
         try simp [Act.put]
         refine wpAnyH_take (i := 6) (v := .agg #[.slice q_h0_0 q_h0_1 q_h0_2, .slice q_h0_3 q_h0_4 q_h0_5, .slice q_h0_6 q_h0_7 q_h0_8]) rfl (by kernel_rfl) (by kernel_rfl) (by kernel_rfl) (fun _ _ _ h => h) (Or.inl ⟨by rfl, ?_⟩) hS ?_
         ·intro X _
          clear hS
          go_simp
          try with_reducible rfl
         try simp [Act.put]
         refine wpAnyH_take (i := 7) (v := .agg #[.slice q_h1_0 q_h1_1 q_h1_2, .slice q_h1_3 q_h1_4 q_h1_5]) rfl (by kernel_rfl) (by kernel_rfl) (by kernel_rfl) (fun _ _ _ h => h) (Or.inl ⟨by rfl, ?_⟩) hS ?_
         ·intro X _
          clear hS
          go_simp
          try with_reducible rfl
         try simp [Act.put]
         refine wpAnyH_take (i := 8) (v := .int .i64 (gpC d f)) rfl (by kernel_rfl) (by kernel_rfl) (by kernel_rfl) (fun _ _ _ h => h) (Or.inl ⟨by rfl, ?_⟩) hS ?_
         ·intro X _
          clear hS
          go_simp
          try with_reducible rfl
         try simp [Act.put]
         obtain ⟨fa, fb, na, nb, EA, EB, XA, XB, RA, RB⟩ := (unhide T1056).done
         obtain ⟨⟨ca0, ca1, ca2⟩, fa0, fa1, fa2⟩ := fa.three
         obtain ⟨⟨cb0, cb1⟩, fb0, fb1⟩ := fb.twoF
         clear fa fb
         refine wpAnyH_ready (rs := [11]) (by kernel_rfl) (by simp) ?_
         refine AllReadyH.cons rfl (fun K hK => ?_) AllReadyH.nil
         go_simp
         refine hK.out _ _ (unhide KS997 _ (unhide EA)) ?_
         clear hK K hS
         intro hS
         try simp [Act.put]
         refine wpAnyH_ready (rs := [12]) (by kernel_rfl) (by simp) ?_
         refine AllReadyH.cons rfl (fun K hK => ?_) AllReadyH.nil
         go_simp
         refine hK.out _ _ (unhide KS997 _ (unhide EB)) ?_
         clear hK K hS
         intro hS
         try simp [Act.put]
         refine wpAnyH_take (i := 13) (v := .int .i64 (gpC d f)) rfl (by kernel_rfl) (by kernel_rfl) (by kernel_rfl) (fun _ _ _ h => h) (Or.inl ⟨by rfl, ?_⟩) hS ?_
         ·intro X _
          clear hS
          go_simp
          try with_reducible rfl
         try simp [Act.put]
         refine wpAnyH_done (by kernel_rfl) ?_ _
         clear hS ca0 ca1 ca2 cb0 cb1 fa0 fa1 fa2 fb0 fb1 na nb
         go_wp2_with fail
         go_meet
         exact ⟨_, _, _, _, _, _, _, _, _, _, _, _, _, _, _, _, _, rfl, rfl, rfl, XA, XB, RA, RB, EB⟩
      ·skip
       have T1059 := hide (unhide T1000).newA
       go_simp
       generalize X999.alloc (.cells #[.slice none 0 0, .slice none 0 0, .slice none 0 0] 36) = X1058 at *
       generalize X999.heap.size = g1060 at *
       refine hK.out _ _ (unhide KS997 _ (unhide T1059).bel) ?_
       clear hK K hS T1000
       intro hS
       try simp [Act.put]
       refine wpAnyH_ready (rs := [3, 10]) (by kernel_rfl) (by simp) ?_
       refine AllReadyH.cons rfl (fun K hK => ?_) (AllReadyH.cons rfl (fun K hK => ?_) (AllReadyH.nil))
       ·skip
        go_simp
        refine (toFeed_kit f _ _ (unhide HS41) ((unhide HR_f).up ((unhide B959).trans ((unhide T1059).bel.mono (unhide B959).size)))).mono ?_
        rintro e X1061 ⟨v1063, S1064, rfl, O1065, L1066, b1067⟩
        have T1062 := hide ((unhide T1059).two b1067 (unhide O1065))
        clear L1066 O1065 b1067
        refine hK.out _ _ (unhide KS997 _ (unhide T1062).bel) ?_
        clear hK K hS T1059
        intro hS
        try simp [Act.put]
        refine wpAnyH_ready (rs := [4, 10]) (by kernel_rfl) (by simp) ?_
        refine AllReadyH.cons rfl (fun K hK => ?_) (AllReadyH.cons rfl (fun K hK => ?_) (AllReadyH.nil))
        ·skip
         go_simp
         refine (impl_two d f _ _ _ (unhide HS25) (unhide HS41) (unhide T1062).p.1 (unhide T1062).p.2 ((unhide HE).up ((unhide B959).trans ((unhide T1062).bel.mono (unhide B959).size)))).mono ?_
         rintro e X1068 ⟨q_h0_0, q_h0_1, q_h0_2, q_h0_3, q_h0_4, q_h0_5, q_h0_6, q_h0_7, q_h0_8, q_h1_0, q_h1_1, q_h1_2, q_h1_3, q_h1_4, q_h1_5, rfl, RR, b1070⟩
         have T1069 := hide ((unhide T1062).three b1070 (unhide RR))
         clear RR b1070
         refine hK.out _ _ (unhide KS997 _ (unhide T1069).bel) ?_
         clear hK K hS T1062
         intro hS
         try simp [Act.put]
         refine wpAnyH_take (i := 5) (v := .tuple #[.agg #[.slice q_h0_0 q_h0_1 q_h0_2, .slice q_h0_3 q_h0_4 q_h0_5, .slice q_h0_6 q_h0_7 q_h0_8], .agg #[.slice q_h1_0 q_h1_1 q_h1_2, .slice q_h1_3 q_h1_4 q_h1_5], .int .i64 (gpC d f)]) rfl (by kernel_rfl) (by kernel_rfl) (by kernel_rfl) (fun _ _ _ h => h) (Or.inl ⟨by rfl, ?_⟩) hS ?_
         ·intro X _
          clear hS
          go_simp
          try with_reducible rfl
         try simp [Act.put]
         refine wpAnyH_take (i := 6) (v := .agg #[.slice q_h0_0 q_h0_1 q_h0_2, .slice q_h0_3 q_h0_4 q_h0_5, .slice q_h0_6 q_h0_7 q_h0_8]) rfl (by kernel_rfl) (by kernel_rfl) (by kernel_rfl) (fun _ _ _ h => h) (Or.inl ⟨by rfl, ?_⟩) hS ?_
         ·intro X _
          clear hS
          go_simp
          try with_reducible rfl
         try simp [Act.put]
         refine wpAnyH_take (i := 7) (v := .agg #[.slice q_h1_0 q_h1_1 q_h1_2, .slice q_h1_3 q_h1_4 q_h1_5]) rfl (by kernel_rfl) (by kernel_rfl) (by kernel_rfl) (fun _ _ _ h => h) (Or.inl ⟨by rfl, ?_⟩) hS ?_
         ·intro X _
          clear hS
          go_simp
          try with_reducible rfl
         try simp [Act.put]
         refine wpAnyH_take (i := 8) (v := .int .i64 (gpC d f)) rfl (by kernel_rfl) (by kernel_rfl) (by kernel_rfl) (fun _ _ _ h => h) (Or.inl ⟨by rfl, ?_⟩) hS ?_
         ·intro X _
          clear hS
          go_simp
          try with_reducible rfl
         try simp [Act.put]
         refine wpAnyH_ready (rs := [10]) (by kernel_rfl) (by simp) ?_
         refine AllReadyH.cons rfl (fun K hK => ?_) (AllReadyH.nil)
         have T1072 := hide (unhide T1069).newB
         go_simp
         generalize X1068.alloc (.cells #[.slice none 0 0, .slice none 0 0] 39) = X1071 at *
         generalize X1068.heap.size = g1073 at *
         refine hK.out _ _ (unhide KS997 _ (unhide T1072).bel) ?_
         clear hK K hS T1069
         intro hS
         try simp [Act.put]
         obtain ⟨fa, fb, na, nb, EA, EB, XA, XB, RA, RB⟩ := (unhide T1072).done
         obtain ⟨⟨ca0, ca1, ca2⟩, fa0, fa1, fa2⟩ := fa.three
         obtain ⟨⟨cb0, cb1⟩, fb0, fb1⟩ := fb.twoF
         clear fa fb
         refine wpAnyH_ready (rs := [11]) (by kernel_rfl) (by simp) ?_
         refine AllReadyH.cons rfl (fun K hK => ?_) AllReadyH.nil
         go_simp
         refine hK.out _ _ (unhide KS997 _ (unhide EA)) ?_
         clear hK K hS
         intro hS
         try simp [Act.put]
         refine wpAnyH_ready (rs := [12]) (by kernel_rfl) (by simp) ?_
         refine AllReadyH.cons rfl (fun K hK => ?_) AllReadyH.nil
         go_simp
         refine hK.out _ _ (unhide KS997 _ (unhide EB)) ?_
         clear hK K hS
         intro hS
         try simp [Act.put]
         refine wpAnyH_take (i := 13) (v := .int .i64 (gpC d f)) rfl (by kernel_rfl) (by kernel_rfl) (by kernel_rfl) (fun _ _ _ h => h) (Or.inl ⟨by rfl, ?_⟩) hS ?_
         ·intro X _
          clear hS
          go_simp
          try with_reducible rfl
         try simp [Act.put]
         refine wpAnyH_done (by kernel_rfl) ?_ _
         clear hS ca0 ca1 ca2 cb0 cb1 fa0 fa1 fa2 fb0 fb1 na nb
         go_wp2_with fail
         go_meet
         exact ⟨_, _, _, _, _, _, _, _, _, _, _, _, _, _, _, _, _, rfl, rfl, rfl, XA, XB, RA, RB, EB⟩
        ·skip
         have T1075 := hide (unhide T1062).newB
         go_simp
         generalize X1061.alloc (.cells #[.slice none 0 0, .slice none 0 0] 39) = X1074 at *
         generalize X1061.heap.size = g1076 at *
         refine hK.out _ _ (unhide KS997 _ (unhide T1075).bel) ?_
         clear hK K hS T1062
         intro hS
         try simp [Act.put]
         refine wpAnyH_ready (rs := [4]) (by kernel_rfl) (by simp) ?_
         refine AllReadyH.cons rfl (fun K hK => ?_) (AllReadyH.nil)
         go_simp
         refine (impl_two d f _ _ _ (unhide HS25) (unhide HS41) (unhide T1075).p.1 (unhide T1075).p.2 ((unhide HE).up ((unhide B959).trans ((unhide T1075).bel.mono (unhide B959).size)))).mono ?_
         rintro e X1077 ⟨q_h0_0, q_h0_1, q_h0_2, q_h0_3, q_h0_4, q_h0_5, q_h0_6, q_h0_7, q_h0_8, q_h1_0, q_h1_1, q_h1_2, q_h1_3, q_h1_4, q_h1_5, rfl, RR, b1079⟩
         have T1078 := hide ((unhide T1075).three b1079 (unhide RR))
         clear RR b1079
         refine hK.out _ _ (unhide KS997 _ (unhide T1078).bel) ?_
         clear hK K hS T1075
         intro hS
         try simp [Act.put]
         refine wpAnyH_take (i := 5) (v := .tuple #[.agg #[.slice q_h0_0 q_h0_1 q_h0_2, .slice q_h0_3 q_h0_4 q_h0_5, .slice q_h0_6 q_h0_7 q_h0_8], .agg #[.slice q_h1_0 q_h1_1 q_h1_2, .slice q_h1_3 q_h1_4 q_h1_5], .int .i64 (gpC d f)]) rfl (by kernel_rfl) (by kernel_rfl) (by kernel_rfl) (fun _ _ _ h => h) (Or.inl ⟨by rfl, ?_⟩) hS ?_
         ·intro X _
          clear hS
          go_simp
          try with_reducible rfl
         try simp [Act.put]
         refine wpAnyH_take (i := 6) (v := .agg #[.slice q_h0_0 q_h0_1 q_h0_2, .slice q_h0_3 q_h0_4 q_h0_5, .slice q_h0_6 q_h0_7 q_h0_8]) rfl (by kernel_rfl) (by kernel_rfl) (by kernel_rfl) (fun _ _ _ h => h) (Or.inl ⟨by rfl, ?_⟩) hS ?_
         ·intro X _
          clear hS
          go_simp
          try with_reducible rfl
         try simp [Act.put]
         refine wpAnyH_take (i := 7) (v := .agg #[.slice q_h1_0 q_h1_1 q_h1_2, .slice q_h1_3 q_h1_4 q_h1_5]) rfl (by kernel_rfl) (by kernel_rfl) (by kernel_rfl) (fun _ _ _ h => h) (Or.inl ⟨by rfl, ?_⟩) hS ?_
         ·intro X _
          clear hS
          go_simp
          try with_reducible rfl
         try simp [Act.put]
         refine wpAnyH_take (i := 8) (v := .int .i64 (gpC d f)) rfl (by kernel_rfl) (by kernel_rfl) (by kernel_rfl) (fun _ _ _ h => h) (Or.inl ⟨by rfl, ?_⟩) hS ?_
         ·intro X _
          clear hS
          go_simp
          try with_reducible rfl
         try simp [Act.put]
         obtain ⟨fa, fb, na, nb, EA, EB, XA, XB, RA, RB⟩ := (unhide T1078).done
         obtain ⟨⟨ca0, ca1, ca2⟩, fa0, fa1, fa2⟩ := fa.three
         obtain ⟨⟨cb0, cb1⟩, fb0, fb1⟩ := fb.twoF
         clear fa fb
         refine wpAnyH_ready (rs := [11]) (by kernel_rfl) (by simp) ?_
         refine AllReadyH.cons rfl (fun K hK => ?_) AllReadyH.nil
         go_simp
         refine hK.out _ _ (unhide KS997 _ (unhide EA)) ?_
         clear hK K hS
         intro hS
         try simp [Act.put]
         refine wpAnyH_ready (rs := [12]) (by kernel_rfl) (by simp) ?_
         refine AllReadyH.cons rfl (fun K hK => ?_) AllReadyH.nil
         go_simp
         refine hK.out _ _ (unhide KS997 _ (unhide EB)) ?_
         clear hK K hS
         intro hS
         try simp [Act.put]
         refine wpAnyH_take (i := 13) (v := .int .i64 (gpC d f)) rfl (by kernel_rfl) (by kernel_rfl) (by kernel_rfl) (fun _ _ _ h => h) (Or.inl ⟨by rfl, ?_⟩) hS ?_
         ·intro X _
          clear hS
          go_simp
          try with_reducible rfl
         try simp [Act.put]
         refine wpAnyH_done (by kernel_rfl) ?_ _
         clear hS ca0 ca1 ca2 cb0 cb1 fa0 fa1 fa2 fb0 fb1 na nb
         go_wp2_with fail
         go_meet
         exact ⟨_, _, _, _, _, _, _, _, _, _, _, _, _, _, _, _, _, rfl, rfl, rfl, XA, XB, RA, RB, EB⟩
       ·skip
        have T1081 := hide (unhide T1059).newB
        go_simp
        generalize X1058.alloc (.cells #[.slice none 0 0, .slice none 0 0] 39) = X1080 at *
        generalize X1058.heap.size = g1082 at *
        refine hK.out _ _ (unhide KS997 _ (unhide T1081).bel) ?_
        clear hK K hS T1059
        intro hS
        try simp [Act.put]
        refine wpAnyH_ready (rs := [3]) (by kernel_rfl) (by simp) ?_
        refine AllReadyH.cons rfl (fun K hK => ?_) (AllReadyH.nil)
        go_simp
        refine (toFeed_kit f _ _ (unhide HS41) ((unhide HR_f).up ((unhide B959).trans ((unhide T1081).bel.mono (unhide B959).size)))).mono ?_
        rintro e X1083 ⟨v1085, S1086, rfl, O1087, L1088, b1089⟩
        have T1084 := hide ((unhide T1081).two b1089 (unhide O1087))
        clear L1088 O1087 b1089
        refine hK.out _ _ (unhide KS997 _ (unhide T1084).bel) ?_
        clear hK K hS T1081
        intro hS
        try simp [Act.put]
        refine wpAnyH_ready (rs := [4]) (by kernel_rfl) (by simp) ?_
        refine AllReadyH.cons rfl (fun K hK => ?_) (AllReadyH.nil)
        go_simp
        refine (impl_two d f _ _ _ (unhide HS25) (unhide HS41) (unhide T1084).p.1 (unhide T1084).p.2 ((unhide HE).up ((unhide B959).trans ((unhide T1084).bel.mono (unhide B959).size)))).mono ?_
        rintro e X1090 ⟨q_h0_0, q_h0_1, q_h0_2, q_h0_3, q_h0_4, q_h0_5, q_h0_6, q_h0_7, q_h0_8, q_h1_0, q_h1_1, q_h1_2, q_h1_3, q_h1_4, q_h1_5, rfl, RR, b1092⟩
        have T1091 := hide ((unhide T1084).three b1092 (unhide RR))
        clear RR b1092
        refine hK.out _ _ (unhide KS997 _ (unhide T1091).bel) ?_
        clear hK K hS T1084
        intro hS
        try simp [Act.put]
        refine wpAnyH_take (i := 5) (v := .tuple #[.agg #[.slice q_h0_0 q_h0_1 q_h0_2, .slice q_h0_3 q_h0_4 q_h0_5, .slice q_h0_6 q_h0_7 q_h0_8], .agg #[.slice q_h1_0 q_h1_1 q_h1_2, .slice q_h1_3 q_h1_4 q_h1_5], .int .i64 (gpC d f)]) rfl (by kernel_rfl) (by kernel_rfl) (by kernel_rfl) (fun _ _ _ h => h) (Or.inl ⟨by rfl, ?_⟩) hS ?_
        ·intro X _
         clear hS
         go_simp
         try with_reducible rfl
        try simp [Act.put]
        refine wpAnyH_take (i := 6) (v := .agg #[.slice q_h0_0 q_h0_1 q_h0_2, .slice q_h0_3 q_h0_4 q_h0_5, .slice q_h0_6 q_h0_7 q_h0_8]) rfl (by kernel_rfl) (by kernel_rfl) (by kernel_rfl) (fun _ _ _ h => h) (Or.inl ⟨by rfl, ?_⟩) hS ?_
        ·intro X _
         clear hS
         go_simp
         try with_reducible rfl
        try simp [Act.put]
        refine wpAnyH_take (i := 7) (v := .agg #[.slice q_h1_0 q_h1_1 q_h1_2, .slice q_h1_3 q_h1_4 q_h1_5]) rfl (by kernel_rfl) (by kernel_rfl) (by kernel_rfl) (fun _ _ _ h => h) (Or.inl ⟨by rfl, ?_⟩) hS ?_
        ·intro X _
         clear hS
         go_simp
         try with_reducible rfl
        try simp [Act.put]
        refine wpAnyH_take (i := 8) (v := .int .i64 (gpC d f)) rfl (by kernel_rfl) (by kernel_rfl) (by kernel_rfl) (fun _ _ _ h => h) (Or.inl ⟨by rfl, ?_⟩) hS ?_
        ·intro X _
         clear hS
         go_simp
         try with_reducible rfl
        try simp [Act.put]
        obtain ⟨fa, fb, na, nb, EA, EB, XA, XB, RA, RB⟩ := (unhide T1091).done
        obtain ⟨⟨ca0, ca1, ca2⟩, fa0, fa1, fa2⟩ := fa.three
        obtain ⟨⟨cb0, cb1⟩, fb0, fb1⟩ := fb.twoF
        clear fa fb
        refine wpAnyH_ready (rs := [11]) (by kernel_rfl) (by simp) ?_
        refine AllReadyH.cons rfl (fun K hK => ?_) AllReadyH.nil
        go_simp
        refine hK.out _ _ (unhide KS997 _ (unhide EA)) ?_
        clear hK K hS
        intro hS
        try simp [Act.put]
        refine wpAnyH_ready (rs := [12]) (by kernel_rfl) (by simp) ?_
        refine AllReadyH.cons rfl (fun K hK => ?_) AllReadyH.nil
        go_simp
        refine hK.out _ _ (unhide KS997 _ (unhide EB)) ?_
        clear hK K hS
        intro hS
        try simp [Act.put]
        refine wpAnyH_take (i := 13) (v := .int .i64 (gpC d f)) rfl (by kernel_rfl) (by kernel_rfl) (by kernel_rfl) (fun _ _ _ h => h) (Or.inl ⟨by rfl, ?_⟩) hS ?_
        ·intro X _
         clear hS
         go_simp
         try with_reducible rfl
        try simp [Act.put]
        refine wpAnyH_done (by kernel_rfl) ?_ _
        clear hS ca0 ca1 ca2 cb0 cb1 fa0 fa1 fa2 fb0 fb1 na nb
        go_wp2_with fail
        go_meet
        exact ⟨_, _, _, _, _, _, _, _, _, _, _, _, _, _, _, _, _, rfl, rfl, rfl, XA, XB, RA, RB, EB⟩
      ·skip
       have T1094 := hide (unhide T1000).newB
       go_simp
       generalize X999.alloc (.cells #[.slice none 0 0, .slice none 0 0] 39) = X1093 at *
       generalize X999.heap.size = g1095 at *
       refine hK.out _ _ (unhide KS997 _ (unhide T1094).bel) ?_
       clear hK K hS T1000
       intro hS
       try simp [Act.put]
       refine wpAnyH_ready (rs := [3, 9]) (by kernel_rfl) (by simp) ?_
       refine AllReadyH.cons rfl (fun K hK => ?_) (AllReadyH.cons rfl (fun K hK => ?_) (AllReadyH.nil))
       ·skip
        go_simp
        refine (toFeed_kit f _ _ (unhide HS41) ((unhide HR_f).up ((unhide B959).trans ((unhide T1094).bel.mono (unhide B959).size)))).mono ?_
        rintro e X1096 ⟨v1098, S1099, rfl, O1100, L1101, b1102⟩
        have T1097 := hide ((unhide T1094).two b1102 (unhide O1100))
        clear L1101 O1100 b1102
        refine hK.out _ _ (unhide KS997 _ (unhide T1097).bel) ?_
        clear hK K hS T1094
        intro hS
        try simp [Act.put]
        refine wpAnyH_ready (rs := [4, 9]) (by kernel_rfl) (by simp) ?_
        refine AllReadyH.cons rfl (fun K hK => ?_) (AllReadyH.cons rfl (fun K hK => ?_) (AllReadyH.nil))
        ·skip
         go_simp
         refine (impl_two d f _ _ _ (unhide HS25) (unhide HS41) (unhide T1097).p.1 (unhide T1097).p.2 ((unhide HE).up ((unhide B959).trans ((unhide T1097).bel.mono (unhide B959).size)))).mono ?_
         rintro e X1103 ⟨q_h0_0, q_h0_1, q_h0_2, q_h0_3, q_h0_4, q_h0_5, q_h0_6, q_h0_7, q_h0_8, q_h1_0, q_h1_1, q_h1_2, q_h1_3, q_h1_4, q_h1_5, rfl, RR, b1105⟩
         have T1104 := hide ((unhide T1097).three b1105 (unhide RR))
         clear RR b1105
         refine hK.out _ _ (unhide KS997 _ (unhide T1104).bel) ?_
         clear hK K hS T1097
         intro hS
         try simp [Act.put]
         refine wpAnyH_take (i := 5) (v := .tuple #[.agg #[.slice q_h0_0 q_h0_1 q_h0_2, .slice q_h0_3 q_h0_4 q_h0_5, .slice q_h0_6 q_h0_7 q_h0_8], .agg #[.slice q_h1_0 q_h1_1 q_h1_2, .slice q_h1_3 q_h1_4 q_h1_5], .int .i64 (gpC d f)]) rfl (by kernel_rfl) (by kernel_rfl) (by kernel_rfl) (fun _ _ _ h => h) (Or.inl ⟨by rfl, ?_⟩) hS ?_
         ·intro X _
          clear hS
          go_simp
          try with_reducible rfl
         try simp [Act.put]
         refine wpAnyH_take (i := 6) (v := .agg #[.slice q_h0_0 q_h0_1 q_h0_2, .slice q_h0_3 q_h0_4 q_h0_5, .slice q_h0_6 q_h0_7 q_h0_8]) rfl (by kernel_rfl) (by kernel_rfl) (by kernel_rfl) (fun _ _ _ h => h) (Or.inl ⟨by rfl, ?_⟩) hS ?_
         ·intro X _
          clear hS
          go_simp
          try with_reducible rfl
         try simp [Act.put]
         refine wpAnyH_take (i := 7) (v := .agg #[.slice q_h1_0 q_h1_1 q_h1_2, .slice q_h1_3 q_h1_4 q_h1_5]) rfl (by kernel_rfl) (by kernel_rfl) (by kernel_rfl) (fun _ _ _ h => h) (Or.inl ⟨by rfl, ?_⟩) hS ?_
         ·intro X _
          clear hS
          go_simp
          try with_reducible rfl
         try simp [Act.put]
         refine wpAnyH_take (i := 8) (v := .int .i64 (gpC d f)) rfl (by kernel_rfl) (by kernel_rfl) (by kernel_rfl) (fun _ _ _ h => h) (Or.inl ⟨by rfl, ?_⟩) hS ?_
         ·intro X _
          clear hS
          go_simp
          try with_reducible rfl
         try simp [Act.put]
         refine wpAnyH_ready (rs := [9]) (by kernel_rfl) (by simp) ?_
         refine AllReadyH.cons rfl (fun K hK => ?_) (AllReadyH.nil)
         have T1107 := hide (unhide T1104).newA
         go_simp
         generalize X1103.alloc (.cells #[.slice none 0 0, .slice none 0 0, .slice none 0 0] 36) = X1106 at *
         generalize X1103.heap.size = g1108 at *
         refine hK.out _ _ (unhide KS997 _ (unhide T1107).bel) ?_
         clear hK K hS T1104
         intro hS
         try simp [Act.put]
         obtain ⟨fa, fb, na, nb, EA, EB, XA, XB, RA, RB⟩ := (unhide T1107).done
         obtain ⟨⟨ca0, ca1, ca2⟩, fa0, fa1, fa2⟩ := fa.three
         obtain ⟨⟨cb0, cb1⟩, fb0, fb1⟩ := fb.twoF
         clear fa fb
         refine wpAnyH_ready (rs := [11]) (by kernel_rfl) (by simp) ?_
         refine AllReadyH.cons rfl (fun K hK => ?_) AllReadyH.nil
         go_simp
         refine hK.out _ _ (unhide KS997 _ (unhide EA)) ?_
         clear hK K hS
         intro hS
         try simp [Act.put]
         refine wpAnyH_ready (rs := [12]) (by kernel_rfl) (by simp) ?_
         refine AllReadyH.cons rfl (fun K hK => ?_) AllReadyH.nil
         go_simp
         refine hK.out _ _ (unhide KS997 _ (unhide EB)) ?_
         clear hK K hS
         intro hS
         try simp [Act.put]
         refine wpAnyH_take (i := 13) (v := .int .i64 (gpC d f)) rfl (by kernel_rfl) (by kernel_rfl) (by kernel_rfl) (fun _ _ _ h => h) (Or.inl ⟨by rfl, ?_⟩) hS ?_
         ·intro X _
          clear hS
          go_simp
          try with_reducible rfl
         try simp [Act.put]
         refine wpAnyH_done (by kernel_rfl) ?_ _
         clear hS ca0 ca1 ca2 cb0 cb1 fa0 fa1 fa2 fb0 fb1 na nb
         go_wp2_with fail
         go_meet
         exact ⟨_, _, _, _, _, _, _, _, _, _, _, _, _, _, _, _, _, rfl, rfl, rfl, XA, XB, RA, RB, EB⟩
        ·skip
         have T1110 := hide (unhide T1097).newA
         go_simp
         generalize X1096.alloc (.cells #[.slice none 0 0, .slice none 0 0, .slice none 0 0] 36) = X1109 at *
         generalize X1096.heap.size = g1111 at *
         refine hK.out _ _ (unhide KS997 _ (unhide T1110).bel) ?_
         clear hK K hS T1097
         intro hS
         try simp [Act.put]
         refine wpAnyH_ready (rs := [4]) (by kernel_rfl) (by simp) ?_
         refine AllReadyH.cons rfl (fun K hK => ?_) (AllReadyH.nil)
         go_simp
         refine (impl_two d f _ _ _ (unhide HS25) (unhide HS41) (unhide T1110).p.1 (unhide T1110).p.2 ((unhide HE).up ((unhide B959).trans ((unhide T1110).bel.mono (unhide B959).size)))).mono ?_
         rintro e X1112 ⟨q_h0_0, q_h0_1, q_h0_2, q_h0_3, q_h0_4, q_h0_5, q_h0_6, q_h0_7, q_h0_8, q_h1_0, q_h1_1, q_h1_2, q_h1_3, q_h1_4, q_h1_5, rfl, RR, b1114⟩
         have T1113 := hide ((unhide T1110).three b1114 (unhide RR))
         clear RR b1114
         refine hK.out _ _ (unhide KS997 _ (unhide T1113).bel) ?_
         clear hK K hS T1110
         intro hS
         try simp [Act.put]
         refine wpAnyH_take (i := 5) (v := .tuple #[.agg #[.slice q_h0_0 q_h0_1 q_h0_2, .slice q_h0_3 q_h0_4 q_h0_5, .slice q_h0_6 q_h0_7 q_h0_8], .agg #[.slice q_h1_0 q_h1_1 q_h1_2, .slice q_h1_3 q_h1_4 q_h1_5], .int .i64 (gpC d f)]) rfl (by kernel_rfl) (by kernel_rfl) (by kernel_rfl) (fun _ _ _ h => h) (Or.inl ⟨by rfl, ?_⟩) hS ?_
         ·intro X _
          clear hS
          go_simp
          try with_reducible rfl
         try simp [Act.put]
         refine wpAnyH_take (i := 6) (v := .agg #[.slice q_h0_0 q_h0_1 q_h0_2, .slice q_h0_3 q_h0_4 q_h0_5, .slice q_h0_6 q_h0_7 q_h0_8]) rfl (by kernel_rfl) (by kernel_rfl) (by kernel_rfl) (fun _ _ _ h => h) (Or.inl ⟨by rfl, ?_⟩) hS ?_
         ·intro X _
          clear hS
          go_simp
          try with_reducible rfl
         try simp [Act.put]
         refine wpAnyH_take (i := 7) (v := .agg #[.slice q_h1_0 q_h1_1 q_h1_2, .slice q_h1_3 q_h1_4 q_h1_5]) rfl (by kernel_rfl) (by kernel_rfl) (by kernel_rfl) (fun _ _ _ h => h) (Or.inl ⟨by rfl, ?_⟩) hS ?_
         ·intro X _
          clear hS
          go_simp
          try with_reducible rfl
         try simp [Act.put]
         refine wpAnyH_take (i := 8) (v := .int .i64 (gpC d f)) rfl (by kernel_rfl) (by kernel_rfl) (by kernel_rfl) (fun _ _ _ h => h) (Or.inl ⟨by rfl, ?_⟩) hS ?_
         ·intro X _
          clear hS
          go_simp
          try with_reducible rfl
         try simp [Act.put]
         obtain ⟨fa, fb, na, nb, EA, EB, XA, XB, RA, RB⟩ := (unhide T1113).done
         obtain ⟨⟨ca0, ca1, ca2⟩, fa0, fa1, fa2⟩ := fa.three
         obtain ⟨⟨cb0, cb1⟩, fb0, fb1⟩ := fb.twoF
         clear fa fb
         refine wpAnyH_ready (rs := [11]) (by kernel_rfl) (by simp) ?_
         refine AllReadyH.cons rfl (fun K hK => ?_) AllReadyH.nil
         go_simp
         refine hK.out _ _ (unhide KS997 _ (unhide EA)) ?_
         clear hK K hS
         intro hS
         try simp [Act.put]
         refine wpAnyH_ready (rs := [12]) (by kernel_rfl) (by simp) ?_
         refine AllReadyH.cons rfl (fun K hK => ?_) AllReadyH.nil
         go_simp
         refine hK.out _ _ (unhide KS997 _ (unhide EB)) ?_
         clear hK K hS
         intro hS
         try simp [Act.put]
         refine wpAnyH_take (i := 13) (v := .int .i64 (gpC d f)) rfl (by kernel_rfl) (by kernel_rfl) (by kernel_rfl) (fun _ _ _ h => h) (Or.inl ⟨by rfl, ?_⟩) hS ?_
         ·intro X _
          clear hS
          go_simp
          try with_reducible rfl
         try simp [Act.put]
         refine wpAnyH_done (by kernel_rfl) ?_ _
         clear hS ca0 ca1 ca2 cb0 cb1 fa0 fa1 fa2 fb0 fb1 na nb
         go_wp2_with fail
         go_meet
         exact ⟨_, _, _, _, _, _, _, _, _, _, _, _, _, _, _, _, _, rfl, rfl, rfl, XA, XB, RA, RB, EB⟩
       ·skip
        have T1116 := hide (unhide T1094).newA
        go_simp
        generalize X1093.alloc (.cells #[.slice none 0 0, .slice none 0 0, .slice none 0 0] 36) = X1115 at *
        generalize X1093.heap.size = g1117 at *
        refine hK.out _ _ (unhide KS997 _ (unhide T1116).bel) ?_
        clear hK K hS T1094
        intro hS
        try simp [Act.put]
        refine wpAnyH_ready (rs := [3]) (by kernel_rfl) (by simp) ?_
        refine AllReadyH.cons rfl (fun K hK => ?_) (AllReadyH.nil)
        go_simp
        refine (toFeed_kit f _ _ (unhide HS41) ((unhide HR_f).up ((unhide B959).trans ((unhide T1116).bel.mono (unhide B959).size)))).mono ?_
        rintro e X1118 ⟨v1120, S1121, rfl, O1122, L1123, b1124⟩
        have T1119 := hide ((unhide T1116).two b1124 (unhide O1122))
        clear L1123 O1122 b1124
        refine hK.out _ _ (unhide KS997 _ (unhide T1119).bel) ?_
        clear hK K hS T1116
        intro hS
        try simp [Act.put]
        refine wpAnyH_ready (rs := [4]) (by kernel_rfl) (by simp) ?_
        refine AllReadyH.cons rfl (fun K hK => ?_) (AllReadyH.nil)
        go_simp
        refine (impl_two d f _ _ _ (unhide HS25) (unhide HS41) (unhide T1119).p.1 (unhide T1119).p.2 ((unhide HE).up ((unhide B959).trans ((unhide T1119).bel.mono (unhide B959).size)))).mono ?_
        rintro e X1125 ⟨q_h0_0, q_h0_1, q_h0_2, q_h0_3, q_h0_4, q_h0_5, q_h0_6, q_h0_7, q_h0_8, q_h1_0, q_h1_1, q_h1_2, q_h1_3, q_h1_4, q_h1_5, rfl, RR, b1127⟩
        have T1126 := hide ((unhide T1119).three b1127 (unhide RR))
        clear RR b1127
        refine hK.out _ _ (unhide KS997 _ (unhide T1126).bel) ?_
        clear hK K hS T1119
        intro hS
        try simp [Act.put]
        refine wpAnyH_take (i := 5) (v := .tuple #[.agg #[.slice q_h0_0 q_h0_1 q_h0_2, .slice q_h0_3 q_h0_4 q_h0_5, .slice q_h0_6 q_h0_7 q_h0_8], .agg #[.slice q_h1_0 q_h1_1 q_h1_2, .slice q_h1_3 q_h1_4 q_h1_5], .int .i64 (gpC d f)]) rfl (by kernel_rfl) (by kernel_rfl) (by kernel_rfl) (fun _ _ _ h => h) (Or.inl ⟨by rfl, ?_⟩) hS ?_
        ·intro X _
         clear hS
         go_simp
         try with_reducible rfl
        try simp [Act.put]
        refine wpAnyH_take (i := 6) (v := .agg #[.slice q_h0_0 q_h0_1 q_h0_2, .slice q_h0_3 q_h0_4 q_h0_5, .slice q_h0_6 q_h0_7 q_h0_8]) rfl (by kernel_rfl) (by kernel_rfl) (by kernel_rfl) (fun _ _ _ h => h) (Or.inl ⟨by rfl, ?_⟩) hS ?_
        ·intro X _
         clear hS
         go_simp
         try with_reducible rfl
        try simp [Act.put]
        refine wpAnyH_take (i := 7) (v := .agg #[.slice q_h1_0 q_h1_1 q_h1_2, .slice q_h1_3 q_h1_4 q_h1_5]) rfl (by kernel_rfl) (by kernel_rfl) (by kernel_rfl) (fun _ _ _ h => h) (Or.inl ⟨by rfl, ?_⟩) hS ?_
        ·intro X _
         clear hS
         go_simp
         try with_reducible rfl
        try simp [Act.put]
        refine wpAnyH_take (i := 8) (v := .int .i64 (gpC d f)) rfl (by kernel_rfl) (by kernel_rfl) (by kernel_rfl) (fun _ _ _ h => h) (Or.inl ⟨by rfl, ?_⟩) hS ?_
        ·intro X _
         clear hS
         go_simp
         try with_reducible rfl
        try simp [Act.put]
        obtain ⟨fa, fb, na, nb, EA, EB, XA, XB, RA, RB⟩ := (unhide T1126).done
        obtain ⟨⟨ca0, ca1, ca2⟩, fa0, fa1, fa2⟩ := fa.three
        obtain ⟨⟨cb0, cb1⟩, fb0, fb1⟩ := fb.twoF
        clear fa fb
        refine wpAnyH_ready (rs := [11]) (by kernel_rfl) (by simp) ?_
        refine AllReadyH.cons rfl (fun K hK => ?_) AllReadyH.nil
        go_simp
        refine hK.out _ _ (unhide KS997 _ (unhide EA)) ?_
        clear hK K hS
        intro hS
        try simp [Act.put]
        refine wpAnyH_ready (rs := [12]) (by kernel_rfl) (by simp) ?_
        refine AllReadyH.cons rfl (fun K hK => ?_) AllReadyH.nil
        go_simp
        refine hK.out _ _ (unhide KS997 _ (unhide EB)) ?_
        clear hK K hS
        intro hS
        try simp [Act.put]
        refine wpAnyH_take (i := 13) (v := .int .i64 (gpC d f)) rfl (by kernel_rfl) (by kernel_rfl) (by kernel_rfl) (fun _ _ _ h => h) (Or.inl ⟨by rfl, ?_⟩) hS ?_
        ·intro X _
         clear hS
         go_simp
         try with_reducible rfl
        try simp [Act.put]
        refine wpAnyH_done (by kernel_rfl) ?_ _
        clear hS ca0 ca1 ca2 cb0 cb1 fa0 fa1 fa2 fb0 fb1 na nb
        go_wp2_with fail
        go_meet
        exact ⟨_, _, _, _, _, _, _, _, _, _, _, _, _, _, _, _, _, rfl, rfl, rfl, XA, XB, RA, RB, EB⟩
     ·skip
      have T1129 := hide (unhide T998).newA
      go_simp
      generalize WX.alloc (.cells #[.slice none 0 0, .slice none 0 0, .slice none 0 0] 36) = X1128 at *
      generalize WX.heap.size = g1130 at *
      refine hK.out _ _ (unhide KS997 _ (unhide T1129).bel) ?_
      clear hK K hS T998
      intro hS
      try simp [Act.put]
      refine wpAnyH_ready (rs := [1, 10]) (by kernel_rfl) (by simp) ?_
      refine AllReadyH.cons rfl (fun K hK => ?_) (AllReadyH.cons rfl (fun K hK => ?_) (AllReadyH.nil))
      ·skip
       go_simp
       refine (toGatherP_kit d _ _ (unhide HS25) ((unhide HR_d).up ((unhide B959).trans ((unhide T1129).bel.mono (unhide B959).size)))).mono ?_
       rintro e X1131 ⟨v1133, S1134, rfl, O1135, L1136, b1137⟩
       have T1132 := hide ((unhide T1129).one b1137 (unhide O1135))
       clear L1136 O1135 b1137
       refine hK.out _ _ (unhide KS997 _ (unhide T1132).bel) ?_
       clear hK K hS T1129
       intro hS
       try simp [Act.put]
       refine wpAnyH_ready (rs := [3, 10]) (by kernel_rfl) (by simp) ?_
       refine AllReadyH.cons rfl (fun K hK => ?_) (AllReadyH.cons rfl (fun K hK => ?_) (AllReadyH.nil))
       ·skip
        go_simp
        refine (toFeed_kit f _ _ (unhide HS41) ((unhide HR_f).up ((unhide B959).trans ((unhide T1132).bel.mono (unhide B959).size)))).mono ?_
        rintro e X1138 ⟨v1140, S1141, rfl, O1142, L1143, b1144⟩
        have T1139 := hide ((unhide T1132).two b1144 (unhide O1142))
        clear L1143 O1142 b1144
        refine hK.out _ _ (unhide KS997 _ (unhide T1139).bel) ?_
        clear hK K hS T1132
        intro hS
        try simp [Act.put]
        refine wpAnyH_ready (rs := [4, 10]) (by kernel_rfl) (by simp) ?_
        refine AllReadyH.cons rfl (fun K hK => ?_) (AllReadyH.cons rfl (fun K hK => ?_) (AllReadyH.nil))
        ·skip
         go_simp
         refine (impl_two d f _ _ _ (unhide HS25) (unhide HS41) (unhide T1139).p.1 (unhide T1139).p.2 ((unhide HE).up ((unhide B959).trans ((unhide T1139).bel.mono (unhide B959).size)))).mono ?_
         rintro e X1145 ⟨q_h0_0, q_h0_1, q_h0_2, q_h0_3, q_h0_4, q_h0_5, q_h0_6, q_h0_7, q_h0_8, q_h1_0, q_h1_1, q_h1_2, q_h1_3, q_h1_4, q_h1_5, rfl, RR, b1147⟩
         have T1146 := hide ((unhide T1139).three b1147 (unhide RR))
         clear RR b1147
         refine hK.out _ _ (unhide KS997 _ (unhide T1146).bel) ?_
         clear hK K hS T1139
         intro hS
         try simp [Act.put]
         refine wpAnyH_take (i := 5) (v := .tuple #[.agg #[.slice q_h0_0 q_h0_1 q_h0_2, .slice q_h0_3 q_h0_4 q_h0_5, .slice q_h0_6 q_h0_7 q_h0_8], .agg #[.slice q_h1_0 q_h1_1 q_h1_2, .slice q_h1_3 q_h1_4 q_h1_5], .int .i64 (gpC d f)]) rfl (by kernel_rfl) (by kernel_rfl) (by kernel_rfl) (fun _ _ _ h => h) (Or.inl ⟨by rfl, ?_⟩) hS ?_
         ·intro X _
          clear hS
          go_simp
          try with_reducible rfl
         try simp [Act.put]
         refine wpAnyH_take (i := 6) (v := .agg #[.slice q_h0_0 q_h0_1 q_h0_2, .slice q_h0_3 q_h0_4 q_h0_5, .slice q_h0_6 q_h0_7 q_h0_8]) rfl (by kernel_rfl) (by kernel_rfl) (by kernel_rfl) (fun _ _ _ h => h) (Or.inl ⟨by rfl, ?_⟩) hS ?_
         ·intro X _
          clear hS
          go_simp
          try with_reducible rfl
         try simp [Act.put]
         refine wpAnyH_take (i := 7) (v := .agg #[.slice q_h1_0 q_h1_1 q_h1_2, .slice q_h1_3 q_h1_4 q_h1_5]) rfl (by kernel_rfl) (by kernel_rfl) (by kernel_rfl) (fun _ _ _ h => h) (Or.inl ⟨by rfl, ?_⟩) hS ?_
         ·intro X _
          clear hS
          go_simp
          try with_reducible rfl
         try simp [Act.put]
         refine wpAnyH_take (i := 8) (v := .int .i64 (gpC d f)) rfl (by kernel_rfl) (by kernel_rfl) (by kernel_rfl) (fun _ _ _ h => h) (Or.inl ⟨by rfl, ?_⟩) hS ?_
         ·intro X _
          clear hS
          go_simp
          try with_reducible rfl
         try simp [Act.put]
         refine wpAnyH_ready (rs := [10]) (by kernel_rfl) (by simp) ?_
         refine AllReadyH.cons rfl (fun K hK => ?_) (AllReadyH.nil)
         have T1149 := hide (unhide T1146).newB
         go_simp
         generalize X1145.alloc (.cells #[.slice none 0 0, .slice none 0 0] 39) = X1148 at *
         generalize X1145.heap.size = g1150 at *
         refine hK.out _ _ (unhide KS997 _ (unhide T1149).bel) ?_
         clear hK K hS T1146
         intro hS
         try simp [Act.put]
         obtain ⟨fa, fb, na, nb, EA, EB, XA, XB, RA, RB⟩ := (unhide T1149).done
         obtain ⟨⟨ca0, ca1, ca2⟩, fa0, fa1, fa2⟩ := fa.three
         obtain ⟨⟨cb0, cb1⟩, fb0, fb1⟩ := fb.twoF
         clear fa fb
         refine wpAnyH_ready (rs := [11]) (by kernel_rfl) (by simp) ?_
         refine AllReadyH.cons rfl (fun K hK => ?_) AllReadyH.nil
         go_simp
         refine hK.out _ _ (unhide KS997 _ (unhide EA)) ?_
         clear hK K hS
         intro hS
         try simp [Act.put]
         refine wpAnyH_ready (rs := [12]) (by kernel_rfl) (by simp) ?_
         refine AllReadyH.cons rfl (fun K hK => ?_) AllReadyH.nil
         go_simp
         refine hK.out _ _ (unhide KS997 _ (unhide EB)) ?_
         clear hK K hS
         intro hS
         try simp [Act.put]
         refine wpAnyH_take (i := 13) (v := .int .i64 (gpC d f)) rfl (by kernel_rfl) (by kernel_rfl) (by kernel_rfl) (fun _ _ _ h => h) (Or.inl ⟨by rfl, ?_⟩) hS ?_
         ·intro X _
          clear hS
          go_simp
          try with_reducible rfl
         try simp [Act.put]
         refine wpAnyH_done (by kernel_rfl) ?_ _
         clear hS ca0 ca1 ca2 cb0 cb1 fa0 fa1 fa2 fb0 fb1 na nb
         go_wp2_with fail
         go_meet
         exact ⟨_, _, _, _, _, _, _, _, _, _, _, _, _, _, _, _, _, rfl, rfl, rfl, XA, XB, RA, RB, EB⟩
        ·skip
         have T1152 := hide (unhide T1139).newB
         go_simp
         generalize X1138.alloc (.cells #[.slice none 0 0, .slice none 0 0] 39) = X1151 at *
         generalize X1138.heap.size = g1153 at *
         refine hK.out _ _ (unhide KS997 _ (unhide T1152).bel) ?_
         clear hK K hS T1139
         intro hS
         try simp [Act.put]
         refine wpAnyH_ready (rs := [4]) (by kernel_rfl) (by simp) ?_
         refine AllReadyH.cons rfl (fun K hK => ?_) (AllReadyH.nil)
         go_simp
         refine (impl_two d f _ _ _ (unhide HS25) (unhide HS41) (unhide T1152).p.1 (unhide T1152).p.2 ((unhide HE).up ((unhide B959).trans ((unhide T1152).bel.mono (unhide B959).size)))).mono ?_
         rintro e X1154 ⟨q_h0_0, q_h0_1, q_h0_2, q_h0_3, q_h0_4, q_h0_5, q_h0_6, q_h0_7, q_h0_8, q_h1_0, q_h1_1, q_h1_2, q_h1_3, q_h1_4, q_h1_5, rfl, RR, b1156⟩
         have T1155 := hide ((unhide T1152).three b1156 (unhide RR))
         clear RR b1156
         refine hK.out _ _ (unhide KS997 _ (unhide T1155).bel) ?_
         clear hK K hS T1152
         intro hS
         try simp [Act.put]
         refine wpAnyH_take (i := 5) (v := .tuple #[.agg #[.slice q_h0_0 q_h0_1 q_h0_2, .slice q_h0_3 q_h0_4 q_h0_5, .slice q_h0_6 q_h0_7 q_h0_8], .agg #[.slice q_h1_0 q_h1_1 q_h1_2, .slice q_h1_3 q_h1_4 q_h1_5], .int .i64 (gpC d f)]) rfl (by kernel_rfl) (by kernel_rfl) (by kernel_rfl) (fun _ _ _ h => h) (Or.inl ⟨by rfl, ?_⟩) hS ?_
         ·intro X _
          clear hS
          go_simp
          try with_reducible rfl
         try simp [Act.put]
         refine wpAnyH_take (i := 6) (v := .agg #[.slice q_h0_0 q_h0_1 q_h0_2, .slice q_h0_3 q_h0_4 q_h0_5, .slice q_h0_6 q_h0_7 q_h0_8]) rfl (by kernel_rfl) (by kernel_rfl) (by kernel_rfl) (fun _ _ _ h => h) (Or.inl ⟨by rfl, ?_⟩) hS ?_
         ·intro X _
          clear hS
          go_simp
          try with_reducible rfl
         try simp [Act.put]
         refine wpAnyH_take (i := 7) (v := .agg #[.slice q_h1_0 q_h1_1 q_h1_2, .slice q_h1_3 q_h1_4 q_h1_5]) rfl (by kernel_rfl) (by kernel_rfl) (by kernel_rfl) (fun _ _ _ h => h) (Or.inl ⟨by rfl, ?_⟩) hS ?_
         ·intro X _
          clear hS
          go_simp
          try with_reducible rfl
         try simp [Act.put]
         refine wpAnyH_take (i := 8) (v := .int .i64 (gpC d f)) rfl (by kernel_rfl) (by kernel_rfl) (by kernel_rfl) (fun _ _ _ h => h) (Or.inl ⟨by rfl, ?_⟩) hS ?_
         ·intro X _
          clear hS
          go_simp
          try with_reducible rfl
         try simp [Act.put]
         obtain ⟨fa, fb, na, nb, EA, EB, XA, XB, RA, RB⟩ := (unhide T1155).done
         obtain ⟨⟨ca0, ca1, ca2⟩, fa0, fa1, fa2⟩ := fa.three
         obtain ⟨⟨cb0, cb1⟩, fb0, fb1⟩ := fb.twoF
         clear fa fb
         refine wpAnyH_ready (rs := [11]) (by kernel_rfl) (by simp) ?_
         refine AllReadyH.cons rfl (fun K hK => ?_) AllReadyH.nil
         go_simp
         refine hK.out _ _ (unhide KS997 _ (unhide EA)) ?_
         clear hK K hS
         intro hS
         try simp [Act.put]
         refine wpAnyH_ready (rs := [12]) (by kernel_rfl) (by simp) ?_
         refine AllReadyH.cons rfl (fun K hK => ?_) AllReadyH.nil
         go_simp
         refine hK.out _ _ (unhide KS997 _ (unhide EB)) ?_
         clear hK K hS
         intro hS
         try simp [Act.put]
         refine wpAnyH_take (i := 13) (v := .int .i64 (gpC d f)) rfl (by kernel_rfl) (by kernel_rfl) (by kernel_rfl) (fun _ _ _ h => h) (Or.inl ⟨by rfl, ?_⟩) hS ?_
         ·intro X _
          clear hS
          go_simp
          try with_reducible rfl
         try simp [Act.put]
         refine wpAnyH_done (by kernel_rfl) ?_ _
         clear hS ca0 ca1 ca2 cb0 cb1 fa0 fa1 fa2 fb0 fb1 na nb
         go_wp2_with fail
         go_meet
         exact ⟨_, _, _, _, _, _, _, _, _, _, _, _, _, _, _, _, _, rfl, rfl, rfl, XA, XB, RA, RB, EB⟩
       ·skip
        have T1158 := hide (unhide T1132).newB
        go_simp
        generalize X1131.alloc (.cells #[.slice none 0 0, .slice none 0 0] 39) = X1157 at *
        generalize X1131.heap.size = g1159 at *
        refine hK.out _ _ (unhide KS997 _ (unhide T1158).bel) ?_
        clear hK K hS T1132
        intro hS
        try simp [Act.put]
        refine wpAnyH_ready (rs := [3]) (by kernel_rfl) (by simp) ?_
        refine AllReadyH.cons rfl (fun K hK => ?_) (AllReadyH.nil)
        go_simp
        refine (toFeed_kit f _ _ (unhide HS41) ((unhide HR_f).up ((unhide B959).trans ((unhide T1158).bel.mono (unhide B959).size)))).mono ?_
        rintro e X1160 ⟨v1162, S1163, rfl, O1164, L1165, b1166⟩
        have T1161 := hide ((unhide T1158).two b1166 (unhide O1164))
        clear L1165 O1164 b1166
        refine hK.out _ _ (unhide KS997 _ (unhide T1161).bel) ?_
        clear hK K hS T1158
        intro hS
        try simp [Act.put]
        refine wpAnyH_ready (rs := [4]) (by kernel_rfl) (by simp) ?_
        refine AllReadyH.cons rfl (fun K hK => ?_) (AllReadyH.nil)
        go_simp
        refine (impl_two d f _ _ _ (unhide HS25) (unhide HS41) (unhide T1161).p.1 (unhide T1161).p.2 ((unhide HE).up ((unhide B959).trans ((unhide T1161).bel.mono (unhide B959).size)))).mono ?_
        rintro e X1167 ⟨q_h0_0, q_h0_1, q_h0_2, q_h0_3, q_h0_4, q_h0_5, q_h0_6, q_h0_7, q_h0_8, q_h1_0, q_h1_1, q_h1_2, q_h1_3, q_h1_4, q_h1_5, rfl, RR, b1169⟩
        have T1168 := hide ((unhide T1161).three b1169 (unhide RR))
        clear RR b1169
        refine hK.out _ _ (unhide KS997 _ (unhide T1168).bel) ?_
        clear hK K hS T1161
        intro hS
        try simp [Act.put]
        refine wpAnyH_take (i := 5) (v := .tuple #[.agg #[.slice q_h0_0 q_h0_1 q_h0_2, .slice q_h0_3 q_h0_4 q_h0_5, .slice q_h0_6 q_h0_7 q_h0_8], .agg #[.slice q_h1_0 q_h1_1 q_h1_2, .slice q_h1_3 q_h1_4 q_h1_5], .int .i64 (gpC d f)]) rfl (by kernel_rfl) (by kernel_rfl) (by kernel_rfl) (fun _ _ _ h => h) (Or.inl ⟨by rfl, ?_⟩) hS ?_
        ·intro X _
         clear hS
         go_simp
         try with_reducible rfl
        try simp [Act.put]
        refine wpAnyH_take (i := 6) (v := .agg #[.slice q_h0_0 q_h0_1 q_h0_2, .slice q_h0_3 q_h0_4 q_h0_5, .slice q_h0_6 q_h0_7 q_h0_8]) rfl (by kernel_rfl) (by kernel_rfl) (by kernel_rfl) (fun _ _ _ h => h) (Or.inl ⟨by rfl, ?_⟩) hS ?_
        ·intro X _
         clear hS
         go_simp
         try with_reducible rfl
        try simp [Act.put]
        refine wpAnyH_take (i := 7) (v := .agg #[.slice q_h1_0 q_h1_1 q_h1_2, .slice q_h1_3 q_h1_4 q_h1_5]) rfl (by kernel_rfl) (by kernel_rfl) (by kernel_rfl) (fun _ _ _ h => h) (Or.inl ⟨by rfl, ?_⟩) hS ?_
        ·intro X _
         clear hS
         go_simp
         try with_reducible rfl
        try simp [Act.put]
        refine wpAnyH_take (i := 8) (v := .int .i64 (gpC d f)) rfl (by kernel_rfl) (by kernel_rfl) (by kernel_rfl) (fun _ _ _ h => h) (Or.inl ⟨by rfl, ?_⟩) hS ?_
        ·intro X _
         clear hS
         go_simp
         try with_reducible rfl
        try simp [Act.put]
        obtain ⟨fa, fb, na, nb, EA, EB, XA, XB, RA, RB⟩ := (unhide T1168).done
        obtain ⟨⟨ca0, ca1, ca2⟩, fa0, fa1, fa2⟩ := fa.three
        obtain ⟨⟨cb0, cb1⟩, fb0, fb1⟩ := fb.twoF
        clear fa fb
        refine wpAnyH_ready (rs := [11]) (by kernel_rfl) (by simp) ?_
        refine AllReadyH.cons rfl (fun K hK => ?_) AllReadyH.nil
        go_simp
        refine hK.out _ _ (unhide KS997 _ (unhide EA)) ?_
        clear hK K hS
        intro hS
        try simp [Act.put]
        refine wpAnyH_ready (rs := [12]) (by kernel_rfl) (by simp) ?_
        refine AllReadyH.cons rfl (fun K hK => ?_) AllReadyH.nil
        go_simp
        refine hK.out _ _ (unhide KS997 _ (unhide EB)) ?_
        clear hK K hS
        intro hS
        try simp [Act.put]
        refine wpAnyH_take (i := 13) (v := .int .i64 (gpC d f)) rfl (by kernel_rfl) (by kernel_rfl) (by kernel_rfl) (fun _ _ _ h => h) (Or.inl ⟨by rfl, ?_⟩) hS ?_
        ·intro X _
         clear hS
         go_simp
         try with_reducible rfl
        try simp [Act.put]
        refine wpAnyH_done (by kernel_rfl) ?_ _
        clear hS ca0 ca1 ca2 cb0 cb1 fa0 fa1 fa2 fb0 fb1 na nb
        go_wp2_with fail
        go_meet
        exact ⟨_, _, _, _, _, _, _, _, _, _, _, _, _, _, _, _, _, rfl, rfl, rfl, XA, XB, RA, RB, EB⟩
      ·skip
       have T1171 := hide (unhide T1129).newB
       go_simp
       generalize X1128.alloc (.cells #[.slice none 0 0, .slice none 0 0] 39) = X1170 at *
       generalize X1128.heap.size = g1172 at *
       refine hK.out _ _ (unhide KS997 _ (unhide T1171).bel) ?_
       clear hK K hS T1129
       intro hS
       try simp [Act.put]
       refine wpAnyH_ready (rs := [1]) (by kernel_rfl) (by simp) ?_
       refine AllReadyH.cons rfl (fun K hK => ?_) (AllReadyH.nil)
       go_simp
       refine (toGatherP_kit d _ _ (unhide HS25) ((unhide HR_d).up ((unhide B959).trans ((unhide T1171).bel.mono (unhide B959).size)))).mono ?_
       rintro e X1173 ⟨v1175, S1176, rfl, O1177, L1178, b1179⟩
       have T1174 := hide ((unhide T1171).one b1179 (unhide O1177))
       clear L1178 O1177 b1179
       refine hK.out _ _ (unhide KS997 _ (unhide T1174).bel) ?_
       clear hK K hS T1171
       intro hS
       try simp [Act.put]
       refine wpAnyH_ready (rs := [3]) (by kernel_rfl) (by simp) ?_
       refine AllReadyH.cons rfl (fun K hK => ?_) (AllReadyH.nil)
       go_simp
       refine (toFeed_kit f _ _ (unhide HS41) ((unhide HR_f).up ((unhide B959).trans ((unhide T1174).bel.mono (unhide B959).size)))).mono ?_
       rintro e X1180 ⟨v1182, S1183, rfl, O1184, L1185, b1186⟩
       have T1181 := hide ((unhide T1174).two b1186 (unhide O1184))
       clear L1185 O1184 b1186
       refine hK.out _ _ (unhide KS997 _ (unhide T1181).bel) ?_
       clear hK K hS T1174
       intro hS
       try simp [Act.put]
       refine wpAnyH_ready (rs := [4]) (by kernel_rfl) (by simp) ?_
       refine AllReadyH.cons rfl (fun K hK => ?_) (AllReadyH.nil)
       go_simp
       refine (impl_two d f _ _ _ (unhide HS25) (unhide HS41) (unhide T1181).p.1 (unhide T1181).p.2 ((unhide HE).up ((unhide B959).trans ((unhide T1181).bel.mono (unhide B959).size)))).mono ?_
       rintro e X1187 ⟨q_h0_0, q_h0_1, q_h0_2, q_h0_3, q_h0_4, q_h0_5, q_h0_6, q_h0_7, q_h0_8, q_h1_0, q_h1_1, q_h1_2, q_h1_3, q_h1_4, q_h1_5, rfl, RR, b1189⟩
       have T1188 := hide ((unhide T1181).three b1189 (unhide RR))
       clear RR b1189
       refine hK.out _ _ (unhide KS997 _ (unhide T1188).bel) ?_
       clear hK K hS T1181
       intro hS
       try simp [Act.put]
       refine wpAnyH_take (i := 5) (v := .tuple #[.agg #[.slice q_h0_0 q_h0_1 q_h0_2, .slice q_h0_3 q_h0_4 q_h0_5, .slice q_h0_6 q_h0_7 q_h0_8], .agg #[.slice q_h1_0 q_h1_1 q_h1_2, .slice q_h1_3 q_h1_4 q_h1_5], .int .i64 (gpC d f)]) rfl (by kernel_rfl) (by kernel_rfl) (by kernel_rfl) (fun _ _ _ h => h) (Or.inl ⟨by rfl, ?_⟩) hS ?_
       ·intro X _
        clear hS
        go_simp
        try with_reducible rfl
       try simp [Act.put]
       refine wpAnyH_take (i := 6) (v := .agg #[.slice q_h0_0 q_h0_1 q_h0_2, .slice q_h0_3 q_h0_4 q_h0_5, .slice q_h0_6 q_h0_7 q_h0_8]) rfl (by kernel_rfl) (by kernel_rfl) (by kernel_rfl) (fun _ _ _ h => h) (Or.inl ⟨by rfl, ?_⟩) hS ?_
       ·intro X _
        clear hS
        go_simp
        try with_reducible rfl
       try simp [Act.put]
       refine wpAnyH_take (i := 7) (v := .agg #[.slice q_h1_0 q_h1_1 q_h1_2, .slice q_h1_3 q_h1_4 q_h1_5]) rfl (by kernel_rfl) (by kernel_rfl) (by kernel_rfl) (fun _ _ _ h => h) (Or.inl ⟨by rfl, ?_⟩) hS ?_
       ·intro X _
        clear hS
        go_simp
        try with_reducible rfl
       try simp [Act.put]
       refine wpAnyH_take (i := 8) (v := .int .i64 (gpC d f)) rfl (by kernel_rfl) (by kernel_rfl) (by kernel_rfl) (fun _ _ _ h => h) (Or.inl ⟨by rfl, ?_⟩) hS ?_
       ·intro X _
        clear hS
        go_simp
        try with_reducible rfl
       try simp [Act.put]
       obtain ⟨fa, fb, na, nb, EA, EB, XA, XB, RA, RB⟩ := (unhide T1188).done
       obtain ⟨⟨ca0, ca1, ca2⟩, fa0, fa1, fa2⟩ := fa.three
       obtain ⟨⟨cb0, cb1⟩, fb0, fb1⟩ := fb.twoF
       clear fa fb
       refine wpAnyH_ready (rs := [11]) (by kernel_rfl) (by simp) ?_
       refine AllReadyH.cons rfl (fun K hK => ?_) AllReadyH.nil
       go_simp
       refine hK.out _ _ (unhide KS997 _ (unhide EA)) ?_
       clear hK K hS
       intro hS
       try simp [Act.put]
       refine wpAnyH_ready (rs := [12]) (by kernel_rfl) (by simp) ?_
       refine AllReadyH.cons rfl (fun K hK => ?_) AllReadyH.nil
       go_simp
       refine hK.out _ _ (unhide KS997 _ (unhide EB)) ?_
       clear hK K hS
       intro hS
       try simp [Act.put]
       refine wpAnyH_take (i := 13) (v := .int .i64 (gpC d f)) rfl (by kernel_rfl) (by kernel_rfl) (by kernel_rfl) (fun _ _ _ h => h) (Or.inl ⟨by rfl, ?_⟩) hS ?_
       ·intro X _
        clear hS
        go_simp
        try with_reducible rfl
       try simp [Act.put]
       refine wpAnyH_done (by kernel_rfl) ?_ _
       clear hS ca0 ca1 ca2 cb0 cb1 fa0 fa1 fa2 fb0 fb1 na nb
       go_wp2_with fail
       go_meet
       exact ⟨_, _, _, _, _, _, _, _, _, _, _, _, _, _, _, _, _, rfl, rfl, rfl, XA, XB, RA, RB, EB⟩
     ·skip
      have T1191 := hide (unhide T998).newB
      go_simp
      generalize WX.alloc (.cells #[.slice none 0 0, .slice none 0 0] 39) = X1190 at *
      generalize WX.heap.size = g1192 at *
      refine hK.out _ _ (unhide KS997 _ (unhide T1191).bel) ?_
      clear hK K hS T998
      intro hS
      try simp [Act.put]
      refine wpAnyH_ready (rs := [1, 9]) (by kernel_rfl) (by simp) ?_
      refine AllReadyH.cons rfl (fun K hK => ?_) (AllReadyH.cons rfl (fun K hK => ?_) (AllReadyH.nil))
      ·skip
       go_simp
       refine (toGatherP_kit d _ _ (unhide HS25) ((unhide HR_d).up ((unhide B959).trans ((unhide T1191).bel.mono (unhide B959).size)))).mono ?_
       rintro e X1193 ⟨v1195, S1196, rfl, O1197, L1198, b1199⟩
       have T1194 := hide ((unhide T1191).one b1199 (unhide O1197))
       clear L1198 O1197 b1199
       refine hK.out _ _ (unhide KS997 _ (unhide T1194).bel) ?_
       clear hK K hS T1191
       intro hS
       try simp [Act.put]
       refine wpAnyH_ready (rs := [3, 9]) (by kernel_rfl) (by simp) ?_
       refine AllReadyH.cons rfl (fun K hK => ?_) (AllReadyH.cons rfl (fun K hK => ?_) (AllReadyH.nil))
       ·skip
        go_simp
        refine (toFeed_kit f _ _ (unhide HS41) ((unhide HR_f).up ((unhide B959).trans ((unhide T1194).bel.mono (unhide B959).size)))).mono ?_
        rintro e X1200 ⟨v1202, S1203, rfl, O1204, L1205, b1206⟩
        have T1201 := hide ((unhide T1194).two b1206 (unhide O1204))
        clear L1205 O1204 b1206
        refine hK.out _ _ (unhide KS997 _ (unhide T1201).bel) ?_
        clear hK K hS T1194
        intro hS
        try simp [Act.put]
        refine wpAnyH_ready (rs := [4, 9]) (by kernel_rfl) (by simp) ?_
        refine AllReadyH.cons rfl (fun K hK => ?_) (AllReadyH.cons rfl (fun K hK => ?_) (AllReadyH.nil))
        ·skip
         go_simp
         refine (impl_two d f _ _ _ (unhide HS25) (unhide HS41) (unhide T1201).p.1 (unhide T1201).p.2 ((unhide HE).up ((unhide B959).trans ((unhide T1201).bel.mono (unhide B959).size)))).mono ?_
         rintro e X1207 ⟨q_h0_0, q_h0_1, q_h0_2, q_h0_3, q_h0_4, q_h0_5, q_h0_6, q_h0_7, q_h0_8, q_h1_0, q_h1_1, q_h1_2, q_h1_3, q_h1_4, q_h1_5, rfl, RR, b1209⟩
         have T1208 := hide ((unhide T1201).three b1209 (unhide RR))
         clear RR b1209
         refine hK.out _ _ (unhide KS997 _ (unhide T1208).bel) ?_
         clear hK K hS T1201
         intro hS
         try simp [Act.put]
         refine wpAnyH_take (i := 5) (v := .tuple #[.agg #[.slice q_h0_0 q_h0_1 q_h0_2, .slice q_h0_3 q_h0_4 q_h0_5, .slice q_h0_6 q_h0_7 q_h0_8], .agg #[.slice q_h1_0 q_h1_1 q_h1_2, .slice q_h1_3 q_h1_4 q_h1_5], .int .i64 (gpC d f)]) rfl (by kernel_rfl) (by kernel_rfl) (by kernel_rfl) (fun _ _ _ h => h) (Or.inl ⟨by rfl, ?_⟩) hS ?_
         ·intro X _
          clear hS
          go_simp
          try with_reducible rfl
         try simp [Act.put]
         refine wpAnyH_take (i := 6) (v := .agg #[.slice q_h0_0 q_h0_1 q_h0_2, .slice q_h0_3 q_h0_4 q_h0_5, .slice q_h0_6 q_h0_7 q_h0_8]) rfl (by kernel_rfl) (by kernel_rfl) (by kernel_rfl) (fun _ _ _ h => h) (Or.inl ⟨by rfl, ?_⟩) hS ?_
         ·intro X _
          clear hS
          go_simp
          try with_reducible rfl
         try simp [Act.put]
         refine wpAnyH_take (i := 7) (v := .agg #[.slice q_h1_0 q_h1_1 q_h1_2, .slice q_h1_3 q_h1_4 q_h1_5]) rfl (by kernel_rfl) (by kernel_rfl) (by kernel_rfl) (fun _ _ _ h => h) (Or.inl ⟨by rfl, ?_⟩) hS ?_
         ·intro X _
          clear hS
          go_simp
          try with_reducible rfl
         try simp [Act.put]
         refine wpAnyH_take (i := 8) (v := .int .i64 (gpC d f)) rfl (by kernel_rfl) (by kernel_rfl) (by kernel_rfl) (fun _ _ _ h => h) (Or.inl ⟨by rfl, ?_⟩) hS ?_
         ·intro X _
          clear hS
          go_simp
          try with_reducible rfl
         try simp [Act.put]
         refine wpAnyH_ready (rs := [9]) (by kernel_rfl) (by simp) ?_
         refine AllReadyH.cons rfl (fun K hK => ?_) (AllReadyH.nil)
         have T1211 := hide (unhide T1208).newA
         go_simp
         generalize X1207.alloc (.cells #[.slice none 0 0, .slice none 0 0, .slice none 0 0] 36) = X1210 at *
         generalize X1207.heap.size = g1212 at *
         refine hK.out _ _ (unhide KS997 _ (unhide T1211).bel) ?_
         clear hK K hS T1208
         intro hS
         try simp [Act.put]
         obtain ⟨fa, fb, na, nb, EA, EB, XA, XB, RA, RB⟩ := (unhide T1211).done
         obtain ⟨⟨ca0, ca1, ca2⟩, fa0, fa1, fa2⟩ := fa.three
         obtain ⟨⟨cb0, cb1⟩, fb0, fb1⟩ := fb.twoF
         clear fa fb
         refine wpAnyH_ready (rs := [11]) (by kernel_rfl) (by simp) ?_
         refine AllReadyH.cons rfl (fun K hK => ?_) AllReadyH.nil
         go_simp
         refine hK.out _ _ (unhide KS997 _ (unhide EA)) ?_
         clear hK K hS
         intro hS
         try simp [Act.put]
         refine wpAnyH_ready (rs := [12]) (by kernel_rfl) (by simp) ?_
         refine AllReadyH.cons rfl (fun K hK => ?_) AllReadyH.nil
         go_simp
         refine hK.out _ _ (unhide KS997 _ (unhide EB)) ?_
         clear hK K hS
         intro hS
         try simp [Act.put]
         refine wpAnyH_take (i := 13) (v := .int .i64 (gpC d f)) rfl (by kernel_rfl) (by kernel_rfl) (by kernel_rfl) (fun _ _ _ h => h) (Or.inl ⟨by rfl, ?_⟩) hS ?_
         ·intro X _
          clear hS
          go_simp
          try with_reducible rfl
         try simp [Act.put]
         refine wpAnyH_done (by kernel_rfl) ?_ _
         clear hS ca0 ca1 ca2 cb0 cb1 fa0 fa1 fa2 fb0 fb1 na nb
         go_wp2_with fail
         go_meet
         exact ⟨_, _, _, _, _, _, _, _, _, _, _, _, _, _, _, _, _, rfl, rfl, rfl, XA, XB, RA, RB, EB⟩
        ·skip
         have T1214 := hide (unhide T1201).newA
         go_simp
         generalize X1200.alloc (.cells #[.slice none 0 0, .slice none 0 0, .slice none 0 0] 36) = X1213 at *
         generalize X1200.heap.size = g1215 at *
         refine hK.out _ _ (unhide KS997 _ (unhide T1214).bel) ?_
         clear hK K hS T1201
         intro hS
         try simp [Act.put]
         refine wpAnyH_ready (rs := [4]) (by kernel_rfl) (by simp) ?_
         refine AllReadyH.cons rfl (fun K hK => ?_) (AllReadyH.nil)
         go_simp
         refine (impl_two d f _ _ _ (unhide HS25) (unhide HS41) (unhide T1214).p.1 (unhide T1214).p.2 ((unhide HE).up ((unhide B959).trans ((unhide T1214).bel.mono (unhide B959).size)))).mono ?_
         rintro e X1216 ⟨q_h0_0, q_h0_1, q_h0_2, q_h0_3, q_h0_4, q_h0_5, q_h0_6, q_h0_7, q_h0_8, q_h1_0, q_h1_1, q_h1_2, q_h1_3, q_h1_4, q_h1_5, rfl, RR, b1218⟩
         have T1217 := hide ((unhide T1214).three b1218 (unhide RR))
         clear RR b1218
         refine hK.out _ _ (unhide KS997 _ (unhide T1217).bel) ?_
         clear hK K hS T1214
         intro hS
         try simp [Act.put]
         refine wpAnyH_take (i := 5) (v := .tuple #[.agg #[.slice q_h0_0 q_h0_1 q_h0_2, .slice q_h0_3 q_h0_4 q_h0_5, .slice q_h0_6 q_h0_7 q_h0_8], .agg #[.slice q_h1_0 q_h1_1 q_h1_2, .slice q_h1_3 q_h1_4 q_h1_5], .int .i64 (gpC d f)]) rfl (by kernel_rfl) (by kernel_rfl) (by kernel_rfl) (fun _ _ _ h => h) (Or.inl ⟨by rfl, ?_⟩) hS ?_
         ·intro X _
          clear hS
          go_simp
          try with_reducible rfl
         try simp [Act.put]
         refine wpAnyH_take (i := 6) (v := .agg #[.slice q_h0_0 q_h0_1 q_h0_2, .slice q_h0_3 q_h0_4 q_h0_5, .slice q_h0_6 q_h0_7 q_h0_8]) rfl (by kernel_rfl) (by kernel_rfl) (by kernel_rfl) (fun _ _ _ h => h) (Or.inl ⟨by rfl, ?_⟩) hS ?_
         ·intro X _
          clear hS
          go_simp
          try with_reducible rfl
         try simp [Act.put]
         refine wpAnyH_take (i := 7) (v := .agg #[.slice q_h1_0 q_h1_1 q_h1_2, .slice q_h1_3 q_h1_4 q_h1_5]) rfl (by kernel_rfl) (by kernel_rfl) (by kernel_rfl) (fun _ _ _ h => h) (Or.inl ⟨by rfl, ?_⟩) hS ?_
         ·intro X _
          clear hS
          go_simp
          try with_reducible rfl
         try simp [Act.put]
         refine wpAnyH_take (i := 8) (v := .int .i64 (gpC d f)) rfl (by kernel_rfl) (by kernel_rfl) (by kernel_rfl) (fun _ _ _ h => h) (Or.inl ⟨by rfl, ?_⟩) hS ?_
         ·intro X _
          clear hS
          go_simp
          try with_reducible rfl
         try simp [Act.put]
         obtain ⟨fa, fb, na, nb, EA, EB, XA, XB, RA, RB⟩ := (unhide T1217).done
         obtain ⟨⟨ca0, ca1, ca2⟩, fa0, fa1, fa2⟩ := fa.three
         obtain ⟨⟨cb0, cb1⟩, fb0, fb1⟩ := fb.twoF
         clear fa fb
         refine wpAnyH_ready (rs := [11]) (by kernel_rfl) (by simp) ?_
         refine AllReadyH.cons rfl (fun K hK => ?_) AllReadyH.nil
         go_simp
         refine hK.out _ _ (unhide KS997 _ (unhide EA)) ?_
         clear hK K hS
         intro hS
         try simp [Act.put]
         refine wpAnyH_ready (rs := [12]) (by kernel_rfl) (by simp) ?_
         refine AllReadyH.cons rfl (fun K hK => ?_) AllReadyH.nil
         go_simp
         refine hK.out _ _ (unhide KS997 _ (unhide EB)) ?_
         clear hK K hS
         intro hS
         try simp [Act.put]
         refine wpAnyH_take (i := 13) (v := .int .i64 (gpC d f)) rfl (by kernel_rfl) (by kernel_rfl) (by kernel_rfl) (fun _ _ _ h => h) (Or.inl ⟨by rfl, ?_⟩) hS ?_
         ·intro X _
          clear hS
          go_simp
          try with_reducible rfl
         try simp [Act.put]
         refine wpAnyH_done (by kernel_rfl) ?_ _
         clear hS ca0 ca1 ca2 cb0 cb1 fa0 fa1 fa2 fb0 fb1 na nb
         go_wp2_with fail
         go_meet
         exact ⟨_, _, _, _, _, _, _, _, _, _, _, _, _, _, _, _, _, rfl, rfl, rfl, XA, XB, RA, RB, EB⟩
       ·skip
        have T1220 := hide (unhide T1194).newA
        go_simp
        generalize X1193.alloc (.cells #[.slice none 0 0, .slice none 0 0, .slice none 0 0] 36) = X1219 at *
        generalize X1193.heap.size = g1221 at *
        refine hK.out _ _ (unhide KS997 _ (unhide T1220).bel) ?_
        clear hK K hS T1194
        intro hS
        try simp [Act.put]
        refine wpAnyH_ready (rs := [3]) (by kernel_rfl) (by simp) ?_
        refine AllReadyH.cons rfl (fun K hK => ?_) (AllReadyH.nil)
        go_simp
        refine (toFeed_kit f _ _ (unhide HS41) ((unhide HR_f).up ((unhide B959).trans ((unhide T1220).bel.mono (unhide B959).size)))).mono ?_
        rintro e X1222 ⟨v1224, S1225, rfl, O1226, L1227, b1228⟩
        have T1223 := hide ((unhide T1220).two b1228 (unhide O1226))
        clear L1227 O1226 b1228
        refine hK.out _ _ (unhide KS997 _ (unhide T1223).bel) ?_
        clear hK K hS T1220
        intro hS
        try simp [Act.put]
        refine wpAnyH_ready (rs := [4]) (by kernel_rfl) (by simp) ?_
        refine AllReadyH.cons rfl (fun K hK => ?_) (AllReadyH.nil)
        go_simp
        refine (impl_two d f _ _ _ (unhide HS25) (unhide HS41) (unhide T1223).p.1 (unhide T1223).p.2 ((unhide HE).up ((unhide B959).trans ((unhide T1223).bel.mono (unhide B959).size)))).mono ?_
        rintro e X1229 ⟨q_h0_0, q_h0_1, q_h0_2, q_h0_3, q_h0_4, q_h0_5, q_h0_6, q_h0_7, q_h0_8, q_h1_0, q_h1_1, q_h1_2, q_h1_3, q_h1_4, q_h1_5, rfl, RR, b1231⟩
        have T1230 := hide ((unhide T1223).three b1231 (unhide RR))
        clear RR b1231
        refine hK.out _ _ (unhide KS997 _ (unhide T1230).bel) ?_
        clear hK K hS T1223
        intro hS
        try simp [Act.put]
        refine wpAnyH_take (i := 5) (v := .tuple #[.agg #[.slice q_h0_0 q_h0_1 q_h0_2, .slice q_h0_3 q_h0_4 q_h0_5, .slice q_h0_6 q_h0_7 q_h0_8], .agg #[.slice q_h1_0 q_h1_1 q_h1_2, .slice q_h1_3 q_h1_4 q_h1_5], .int .i64 (gpC d f)]) rfl (by kernel_rfl) (by kernel_rfl) (by kernel_rfl) (fun _ _ _ h => h) (Or.inl ⟨by rfl, ?_⟩) hS ?_
        ·intro X _
         clear hS
         go_simp
         try with_reducible rfl
        try simp [Act.put]
        refine wpAnyH_take (i := 6) (v := .agg #[.slice q_h0_0 q_h0_1 q_h0_2, .slice q_h0_3 q_h0_4 q_h0_5, .slice q_h0_6 q_h0_7 q_h0_8]) rfl (by kernel_rfl) (by kernel_rfl) (by kernel_rfl) (fun _ _ _ h => h) (Or.inl ⟨by rfl, ?_⟩) hS ?_
        ·intro X _
         clear hS
         go_simp
         try with_reducible rfl
        try simp [Act.put]
        refine wpAnyH_take (i := 7) (v := .agg #[.slice q_h1_0 q_h1_1 q_h1_2, .slice q_h1_3 q_h1_4 q_h1_5]) rfl (by kernel_rfl) (by kernel_rfl) (by kernel_rfl) (fun _ _ _ h => h) (Or.inl ⟨by rfl, ?_⟩) hS ?_
        ·intro X _
         clear hS
         go_simp
         try with_reducible rfl
        try simp [Act.put]
        refine wpAnyH_take (i := 8) (v := .int .i64 (gpC d f)) rfl (by kernel_rfl) (by kernel_rfl) (by kernel_rfl) (fun _ _ _ h => h) (Or.inl ⟨by rfl, ?_⟩) hS ?_
        ·intro X _
         clear hS
         go_simp
         try with_reducible rfl
        try simp [Act.put]
        obtain ⟨fa, fb, na, nb, EA, EB, XA, XB, RA, RB⟩ := (unhide T1230).done
        obtain ⟨⟨ca0, ca1, ca2⟩, fa0, fa1, fa2⟩ := fa.three
        obtain ⟨⟨cb0, cb1⟩, fb0, fb1⟩ := fb.twoF
        clear fa fb
        refine wpAnyH_ready (rs := [11]) (by kernel_rfl) (by simp) ?_
        refine AllReadyH.cons rfl (fun K hK => ?_) AllReadyH.nil
        go_simp
        refine hK.out _ _ (unhide KS997 _ (unhide EA)) ?_
        clear hK K hS
        intro hS
        try simp [Act.put]
        refine wpAnyH_ready (rs := [12]) (by kernel_rfl) (by simp) ?_
        refine AllReadyH.cons rfl (fun K hK => ?_) AllReadyH.nil
        go_simp
        refine hK.out _ _ (unhide KS997 _ (unhide EB)) ?_
        clear hK K hS
        intro hS
        try simp [Act.put]
        refine wpAnyH_take (i := 13) (v := .int .i64 (gpC d f)) rfl (by kernel_rfl) (by kernel_rfl) (by kernel_rfl) (fun _ _ _ h => h) (Or.inl ⟨by rfl, ?_⟩) hS ?_
        ·intro X _
         clear hS
         go_simp
         try with_reducible rfl
        try simp [Act.put]
        refine wpAnyH_done (by kernel_rfl) ?_ _
        clear hS ca0 ca1 ca2 cb0 cb1 fa0 fa1 fa2 fb0 fb1 na nb
        go_wp2_with fail
        go_meet
        exact ⟨_, _, _, _, _, _, _, _, _, _, _, _, _, _, _, _, _, rfl, rfl, rfl, XA, XB, RA, RB, EB⟩
      ·skip
       have T1233 := hide (unhide T1191).newA
       go_simp
       generalize X1190.alloc (.cells #[.slice none 0 0, .slice none 0 0, .slice none 0 0] 36) = X1232 at *
       generalize X1190.heap.size = g1234 at *
       refine hK.out _ _ (unhide KS997 _ (unhide T1233).bel) ?_
       clear hK K hS T1191
       intro hS
       try simp [Act.put]
       refine wpAnyH_ready (rs := [1]) (by kernel_rfl) (by simp) ?_
       refine AllReadyH.cons rfl (fun K hK => ?_) (AllReadyH.nil)
       go_simp
       refine (toGatherP_kit d _ _ (unhide HS25) ((unhide HR_d).up ((unhide B959).trans ((unhide T1233).bel.mono (unhide B959).size)))).mono ?_
       rintro e X1235 ⟨v1237, S1238, rfl, O1239, L1240, b1241⟩
       have T1236 := hide ((unhide T1233).one b1241 (unhide O1239))
       clear L1240 O1239 b1241
       refine hK.out _ _ (unhide KS997 _ (unhide T1236).bel) ?_
       clear hK K hS T1233
       intro hS
       try simp [Act.put]
       refine wpAnyH_ready (rs := [3]) (by kernel_rfl) (by simp) ?_
       refine AllReadyH.cons rfl (fun K hK => ?_) (AllReadyH.nil)
       go_simp
       refine (toFeed_kit f _ _ (unhide HS41) ((unhide HR_f).up ((unhide B959).trans ((unhide T1236).bel.mono (unhide B959).size)))).mono ?_
       rintro e X1242 ⟨v1244, S1245, rfl, O1246, L1247, b1248⟩
       have T1243 := hide ((unhide T1236).two b1248 (unhide O1246))
       clear L1247 O1246 b1248
       refine hK.out _ _ (unhide KS997 _ (unhide T1243).bel) ?_
       clear hK K hS T1236
       intro hS
       try simp [Act.put]
       refine wpAnyH_ready (rs := [4]) (by kernel_rfl) (by simp) ?_
       refine AllReadyH.cons rfl (fun K hK => ?_) (AllReadyH.nil)
       go_simp
       refine (impl_two d f _ _ _ (unhide HS25) (unhide HS41) (unhide T1243).p.1 (unhide T1243).p.2 ((unhide HE).up ((unhide B959).trans ((unhide T1243).bel.mono (unhide B959).size)))).mono ?_
       rintro e X1249 ⟨q_h0_0, q_h0_1, q_h0_2, q_h0_3, q_h0_4, q_h0_5, q_h0_6, q_h0_7, q_h0_8, q_h1_0, q_h1_1, q_h1_2, q_h1_3, q_h1_4, q_h1_5, rfl, RR, b1251⟩
       have T1250 := hide ((unhide T1243).three b1251 (unhide RR))
       clear RR b1251
       refine hK.out _ _ (unhide KS997 _ (unhide T1250).bel) ?_
       clear hK K hS T1243
       intro hS
       try simp [Act.put]
       refine wpAnyH_take (i := 5) (v := .tuple #[.agg #[.slice q_h0_0 q_h0_1 q_h0_2, .slice q_h0_3 q_h0_4 q_h0_5, .slice q_h0_6 q_h0_7 q_h0_8], .agg #[.slice q_h1_0 q_h1_1 q_h1_2, .slice q_h1_3 q_h1_4 q_h1_5], .int .i64 (gpC d f)]) rfl (by kernel_rfl) (by kernel_rfl) (by kernel_rfl) (fun _ _ _ h => h) (Or.inl ⟨by rfl, ?_⟩) hS ?_
       ·intro X _
        clear hS
        go_simp
        try with_reducible rfl
       try simp [Act.put]
       refine wpAnyH_take (i := 6) (v := .agg #[.slice q_h0_0 q_h0_1 q_h0_2, .slice q_h0_3 q_h0_4 q_h0_5, .slice q_h0_6 q_h0_7 q_h0_8]) rfl (by kernel_rfl) (by kernel_rfl) (by kernel_rfl) (fun _ _ _ h => h) (Or.inl ⟨by rfl, ?_⟩) hS ?_
       ·intro X _
        clear hS
        go_simp
        try with_reducible rfl
       try simp [Act.put]
       refine wpAnyH_take (i := 7) (v := .agg #[.slice q_h1_0 q_h1_1 q_h1_2, .slice q_h1_3 q_h1_4 q_h1_5]) rfl (by kernel_rfl) (by kernel_rfl) (by kernel_rfl) (fun _ _ _ h => h) (Or.inl ⟨by rfl, ?_⟩) hS ?_
       ·intro X _
        clear hS
        go_simp
        try with_reducible rfl
       try simp [Act.put]
       refine wpAnyH_take (i := 8) (v := .int .i64 (gpC d f)) rfl (by kernel_rfl) (by kernel_rfl) (by kernel_rfl) (fun _ _ _ h => h) (Or.inl ⟨by rfl, ?_⟩) hS ?_
       ·intro X _
        clear hS
        go_simp
        try with_reducible rfl
       try simp [Act.put]
       obtain ⟨fa, fb, na, nb, EA, EB, XA, XB, RA, RB⟩ := (unhide T1250).done
       obtain ⟨⟨ca0, ca1, ca2⟩, fa0, fa1, fa2⟩ := fa.three
       obtain ⟨⟨cb0, cb1⟩, fb0, fb1⟩ := fb.twoF
       clear fa fb
       refine wpAnyH_ready (rs := [11]) (by kernel_rfl) (by simp) ?_
       refine AllReadyH.cons rfl (fun K hK => ?_) AllReadyH.nil
       go_simp
       refine hK.out _ _ (unhide KS997 _ (unhide EA)) ?_
       clear hK K hS
       intro hS
       try simp [Act.put]
       refine wpAnyH_ready (rs := [12]) (by kernel_rfl) (by simp) ?_
       refine AllReadyH.cons rfl (fun K hK => ?_) AllReadyH.nil
       go_simp
       refine hK.out _ _ (unhide KS997 _ (unhide EB)) ?_
       clear hK K hS
       intro hS
       try simp [Act.put]
       refine wpAnyH_take (i := 13) (v := .int .i64 (gpC d f)) rfl (by kernel_rfl) (by kernel_rfl) (by kernel_rfl) (fun _ _ _ h => h) (Or.inl ⟨by rfl, ?_⟩) hS ?_
       ·intro X _
        clear hS
        go_simp
        try with_reducible rfl
       try simp [Act.put]
       refine wpAnyH_done (by kernel_rfl) ?_ _
       clear hS ca0 ca1 ca2 cb0 cb1 fa0 fa1 fa2 fb0 fb1 na nb
       go_wp2_with fail
       go_meet
       exact ⟨_, _, _, _, _, _, _, _, _, _, _, _, _, _, _, _, _, rfl, rfl, rfl, XA, XB, RA, RB, EB⟩
    case rest =>
     obtain ⟨ga_h, gb_h, q_h0_0, q_h0_1, q_h0_2, q_h0_3, q_h0_4, q_h0_5, q_h0_6, q_h0_7, q_h0_8, q_h1_0, q_h1_1, q_h1_2, q_h1_3, q_h1_4, q_h1_5, rfl, rfl, rfl, BX1252, BX1253, U1254, U1255, Bc1256⟩ := hcut
     obtain ⟨wc1257, rfl⟩ : ∃ X : World, X = wc := ⟨_, rfl⟩
     have B1258 := hide ((unhide B959).trans ((unhide Bc1256).mono (unhide B959).size))
     clear B959
     have BU1259 := hide ((unhide BU960).trans ((unhide Bc1256).mono (unhide BU960).size))
     clear BU960
     have BX1260 := hide ((unhide BX961).up (unhide Bc1256))
     clear BX961
     have BX1261 := hide ((unhide BX962).up (unhide Bc1256))
     clear BX962
     have BX1262 := hide ((unhide BX963).up (unhide Bc1256))
     clear BX963
     have BX1263 := hide ((unhide BX964).up (unhide Bc1256))
     clear BX964
     have BX1264 := hide ((unhide BX965).up (unhide Bc1256))
     clear BX965
     have BX1265 := hide ((unhide BX966).up (unhide Bc1256))
     clear BX966
     have BX1266 := hide ((unhide BX967).up (unhide Bc1256))
     clear BX967
     have BX1267 := hide ((unhide BX968).up (unhide Bc1256))
     clear BX968
     have O1268 := hide ((unhide O969).up (unhide Bc1256))
     clear O969
     have O1269 := hide ((unhide O970).up (unhide Bc1256))
     clear O970
     have O1270 := hide ((unhide O971).up (unhide Bc1256))
     clear O971
     have O1271 := hide ((unhide O972).up (unhide Bc1256))
     clear O972
     have Z1272 := hide (show w957.heap.size ≤ wc1257.heap.size from (unhide Bc1256).size)
     clear Bc1256 BD996 KS997
     have Z1273 := hide (unhide BX1252).1
     have Z1274 := hide (unhide BX1253).1
     obtain ⟨x1275, x1276, x1277⟩ := (unhide BX1260).three
     obtain ⟨x1278, x1279, x1280⟩ := (unhide BX1261).three
     obtain ⟨x1281, x1282, x1283⟩ := (unhide BX1262).three
     obtain ⟨x1284, x1285⟩ := (unhide BX1263).two
     obtain ⟨x1286, x1287, x1288⟩ := (unhide BX1264).three
     obtain ⟨x1289, x1290, x1291⟩ := (unhide BX1265).three
     obtain ⟨x1292, x1293, x1294⟩ := (unhide BX1266).three
     obtain ⟨x1295, x1296⟩ := (unhide BX1267).two
     obtain ⟨x1297, x1298, x1299⟩ := (unhide BX1252).three
     obtain ⟨x1300, x1301⟩ := (unhide BX1253).two
     go_wp2_with fail
     clear x1275 x1276 x1277 x1278 x1279 x1280 x1281 x1282 x1283 x1284 x1285 x1286 x1287 x1288 x1289 x1290 x1291 x1292 x1293 x1294 x1295 x1296 x1297 x1298 x1299 x1300 x1301
     refine (eqGatherF_kit (gpG d f) _ _ wc1257 (unhide HRS0) (unhide U1254).rd ((unhide U306).up (unhide BU1259))).mono ?_
     rintro e w1302 ⟨rfl, b1303⟩
     have B1304 := hide ((unhide B1258).trans (b1303.mono (unhide B1258).size))
     clear B1258
     have BU1305 := hide ((unhide BU1259).trans (b1303.mono (unhide BU1259).size))
     clear BU1259
     have BX1306 := hide ((unhide BX1260).up b1303)
     clear BX1260
     have BX1307 := hide ((unhide BX1261).up b1303)
     clear BX1261
     have BX1308 := hide ((unhide BX1262).up b1303)
     clear BX1262
     have BX1309 := hide ((unhide BX1263).up b1303)
     clear BX1263
     have BX1310 := hide ((unhide BX1264).up b1303)
     clear BX1264
     have BX1311 := hide ((unhide BX1265).up b1303)
     clear BX1265
     have BX1312 := hide ((unhide BX1266).up b1303)
     clear BX1266
     have BX1313 := hide ((unhide BX1267).up b1303)
     clear BX1267
     have BX1314 := hide ((unhide BX1252).up b1303)
     clear BX1252
     have BX1315 := hide ((unhide BX1253).up b1303)
     clear BX1253
     have O1316 := hide ((unhide O1268).up b1303)
     clear O1268
     have O1317 := hide ((unhide O1269).up b1303)
     clear O1269
     have O1318 := hide ((unhide O1270).up b1303)
     clear O1270
     have O1319 := hide ((unhide O1271).up b1303)
     clear O1271
     have O1320 := hide ((unhide U1254).up b1303)
     clear U1254
     have O1321 := hide ((unhide U1255).up b1303)
     clear U1255
     have Z1322 := hide (show wc1257.heap.size ≤ w1302.heap.size from b1303.size)
     clear b1303
     obtain ⟨x1323, x1324, x1325⟩ := (unhide BX1306).three
     obtain ⟨x1326, x1327, x1328⟩ := (unhide BX1307).three
     obtain ⟨x1329, x1330, x1331⟩ := (unhide BX1308).three
     obtain ⟨x1332, x1333⟩ := (unhide BX1309).two
     obtain ⟨x1334, x1335, x1336⟩ := (unhide BX1310).three
     obtain ⟨x1337, x1338, x1339⟩ := (unhide BX1311).three
     obtain ⟨x1340, x1341, x1342⟩ := (unhide BX1312).three
     obtain ⟨x1343, x1344⟩ := (unhide BX1313).two
     obtain ⟨x1345, x1346, x1347⟩ := (unhide BX1314).three
     obtain ⟨x1348, x1349⟩ := (unhide BX1315).two
     go_wp2_with fail
     clear x1323 x1324 x1325 x1326 x1327 x1328 x1329 x1330 x1331 x1332 x1333 x1334 x1335 x1336 x1337 x1338 x1339 x1340 x1341 x1342 x1343 x1344 x1345 x1346 x1347 x1348 x1349
     refine (eqShow_kit (gpS d f) _ _ w1302 (unhide HRS1) (unhide O1321).rd ((unhide U307).up (unhide BU1305))).mono ?_
     rintro e w1350 ⟨rfl, b1351⟩
     have B1352 := hide ((unhide B1304).trans (b1351.mono (unhide B1304).size))
     clear B1304
     have BU1353 := hide ((unhide BU1305).trans (b1351.mono (unhide BU1305).size))
     clear BU1305
     have BX1354 := hide ((unhide BX1306).up b1351)
     clear BX1306
     have BX1355 := hide ((unhide BX1307).up b1351)
     clear BX1307
     have BX1356 := hide ((unhide BX1308).up b1351)
     clear BX1308
     have BX1357 := hide ((unhide BX1309).up b1351)
     clear BX1309
     have BX1358 := hide ((unhide BX1310).up b1351)
     clear BX1310
     have BX1359 := hide ((unhide BX1311).up b1351)
     clear BX1311
     have BX1360 := hide ((unhide BX1312).up b1351)
     clear BX1312
     have BX1361 := hide ((unhide BX1313).up b1351)
     clear BX1313
     have BX1362 := hide ((unhide BX1314).up b1351)
     clear BX1314
     have BX1363 := hide ((unhide BX1315).up b1351)
     clear BX1315
     have O1364 := hide ((unhide O1316).up b1351)
     clear O1316
     have O1365 := hide ((unhide O1317).up b1351)
     clear O1317
     have O1366 := hide ((unhide O1318).up b1351)
     clear O1318
     have O1367 := hide ((unhide O1319).up b1351)
     clear O1319
     have O1368 := hide ((unhide O1320).up b1351)
     clear O1320
     have O1369 := hide ((unhide O1321).up b1351)
     clear O1321
     have Z1370 := hide (show w1302.heap.size ≤ w1350.heap.size from b1351.size)
     clear b1351
     obtain ⟨x1371, x1372, x1373⟩ := (unhide BX1354).three
     obtain ⟨x1374, x1375, x1376⟩ := (unhide BX1355).three
     obtain ⟨x1377, x1378, x1379⟩ := (unhide BX1356).three
     obtain ⟨x1380, x1381⟩ := (unhide BX1357).two
     obtain ⟨x1382, x1383, x1384⟩ := (unhide BX1358).three
     obtain ⟨x1385, x1386, x1387⟩ := (unhide BX1359).three
     obtain ⟨x1388, x1389, x1390⟩ := (unhide BX1360).three
     obtain ⟨x1391, x1392⟩ := (unhide BX1361).two
     obtain ⟨x1393, x1394, x1395⟩ := (unhide BX1362).three
     obtain ⟨x1396, x1397⟩ := (unhide BX1363).two
     go_wp2_with fail
     clear x1371 x1372 x1373 x1374 x1375 x1376 x1377 x1378 x1379 x1380 x1381 x1382 x1383 x1384 x1385 x1386 x1387 x1388 x1389 x1390 x1391 x1392 x1393 x1394 x1395 x1396 x1397
     refine (heldGatherF_kit (gpG d f) _ w1350 (1) M_0 (1) (by omega) (unhide HM_0) (by omega) (unhide HRS0) (unhide O1366).rd).mono ?_
     rintro e w1398 ⟨rfl, b1399⟩
     have B1400 := hide ((unhide B1352).trans (b1399.mono (unhide B1352).size))
     clear B1352
     have BU1401 := hide ((unhide BU1353).trans (b1399.mono (unhide BU1353).size))
     clear BU1353
     have BX1402 := hide ((unhide BX1354).up b1399)
     clear BX1354
     have BX1403 := hide ((unhide BX1355).up b1399)
     clear BX1355
     have BX1404 := hide ((unhide BX1356).up b1399)
     clear BX1356
     have BX1405 := hide ((unhide BX1357).up b1399)
     clear BX1357
     have BX1406 := hide ((unhide BX1358).up b1399)
     clear BX1358
     have BX1407 := hide ((unhide BX1359).up b1399)
     clear BX1359
     have BX1408 := hide ((unhide BX1360).up b1399)
     clear BX1360
     have BX1409 := hide ((unhide BX1361).up b1399)
     clear BX1361
     have BX1410 := hide ((unhide BX1362).up b1399)
     clear BX1362
     have BX1411 := hide ((unhide BX1363).up b1399)
     clear BX1363
     have O1412 := hide ((unhide O1364).up b1399)
     clear O1364
     have O1413 := hide ((unhide O1365).up b1399)
     clear O1365
     have O1414 := hide ((unhide O1366).up b1399)
     clear O1366
     have O1415 := hide ((unhide O1367).up b1399)
     clear O1367
     have O1416 := hide ((unhide O1368).up b1399)
     clear O1368
     have O1417 := hide ((unhide O1369).up b1399)
     clear O1369
     have Z1418 := hide (show w1350.heap.size ≤ w1398.heap.size from b1399.size)
     clear b1399
     obtain ⟨x1419, x1420, x1421⟩ := (unhide BX1402).three
     obtain ⟨x1422, x1423, x1424⟩ := (unhide BX1403).three
     obtain ⟨x1425, x1426, x1427⟩ := (unhide BX1404).three
     obtain ⟨x1428, x1429⟩ := (unhide BX1405).two
     obtain ⟨x1430, x1431, x1432⟩ := (unhide BX1406).three
     obtain ⟨x1433, x1434, x1435⟩ := (unhide BX1407).three
     obtain ⟨x1436, x1437, x1438⟩ := (unhide BX1408).three
     obtain ⟨x1439, x1440⟩ := (unhide BX1409).two
     obtain ⟨x1441, x1442, x1443⟩ := (unhide BX1410).three
     obtain ⟨x1444, x1445⟩ := (unhide BX1411).two
     go_wp2_with fail
     clear x1419 x1420 x1421 x1422 x1423 x1424 x1425 x1426 x1427 x1428 x1429 x1430 x1431 x1432 x1433 x1434 x1435 x1436 x1437 x1438 x1439 x1440 x1441 x1442 x1443 x1444 x1445
     refine (heldShow_kit (gpS d f) _ w1398 (1 + M_0) M_1 (1 + (M_0 : Int)) (by omega) (unhide HM_1) (by omega) (unhide HRS1) (unhide O1415).rd).mono ?_
     rintro e w1446 ⟨rfl, b1447⟩
     have B1448 := hide ((unhide B1400).trans (b1447.mono (unhide B1400).size))
     clear B1400
     have BU1449 := hide ((unhide BU1401).trans (b1447.mono (unhide BU1401).size))
     clear BU1401
     have BX1450 := hide ((unhide BX1402).up b1447)
     clear BX1402
     have BX1451 := hide ((unhide BX1403).up b1447)
     clear BX1403
     have BX1452 := hide ((unhide BX1404).up b1447)
     clear BX1404
     have BX1453 := hide ((unhide BX1405).up b1447)
     clear BX1405
     have BX1454 := hide ((unhide BX1406).up b1447)
     clear BX1406
     have BX1455 := hide ((unhide BX1407).up b1447)
     clear BX1407
     have BX1456 := hide ((unhide BX1408).up b1447)
     clear BX1408
     have BX1457 := hide ((unhide BX1409).up b1447)
     clear BX1409
     have BX1458 := hide ((unhide BX1410).up b1447)
     clear BX1410
     have BX1459 := hide ((unhide BX1411).up b1447)
     clear BX1411
     have O1460 := hide ((unhide O1412).up b1447)
     clear O1412
     have O1461 := hide ((unhide O1413).up b1447)
     clear O1413
     have O1462 := hide ((unhide O1414).up b1447)
     clear O1414
     have O1463 := hide ((unhide O1415).up b1447)
     clear O1415
     have O1464 := hide ((unhide O1416).up b1447)
     clear O1416
     have O1465 := hide ((unhide O1417).up b1447)
     clear O1417
     have Z1466 := hide (show w1398.heap.size ≤ w1446.heap.size from b1447.size)
     clear b1447
     obtain ⟨x1467, x1468, x1469⟩ := (unhide BX1450).three
     obtain ⟨x1470, x1471, x1472⟩ := (unhide BX1451).three
     obtain ⟨x1473, x1474, x1475⟩ := (unhide BX1452).three
     obtain ⟨x1476, x1477⟩ := (unhide BX1453).two
     obtain ⟨x1478, x1479, x1480⟩ := (unhide BX1454).three
     obtain ⟨x1481, x1482, x1483⟩ := (unhide BX1455).three
     obtain ⟨x1484, x1485, x1486⟩ := (unhide BX1456).three
     obtain ⟨x1487, x1488⟩ := (unhide BX1457).two
     obtain ⟨x1489, x1490, x1491⟩ := (unhide BX1458).three
     obtain ⟨x1492, x1493⟩ := (unhide BX1459).two
     go_wp2_with fail
     go_ret
     exact ⟨rfl, unhide B1448⟩

end Go.Proofs.YtknkdbfgfcgkiaaGreatDoor
