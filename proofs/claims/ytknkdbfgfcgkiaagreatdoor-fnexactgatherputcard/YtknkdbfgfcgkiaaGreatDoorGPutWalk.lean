/-
  The exact law of GatherPut, walked. (Made by wip/mkgput.py out of the law's own text.)
-/
import Derived.Test.YtknkdbfgfcgkiaaGreatDoorMerged50
import Derived.Test.YtknkdbfgfcgkiaaGreatDoorMerged49
import Derived.Deep.RegionHeld
import Derived.Deep.DeepCutAuto
import Derived.BigRegion
set_option linter.unusedVariables false
namespace Go.Proofs.YtknkdbfgfcgkiaaGreatDoor
open Go.RowKit Go.Maps Go.Deep

set_option maxRecDepth 20000 in
set_option maxHeartbeats 12800000 in
theorem walk (d : GatherV) (v_d : Value) (f : FeedV) (v_f : Value) (w : World) (hE : ErrT w) (hf_d : GatherFit d) (hr_d : GatherRd w v_d d) (hf_f : FeedFit f) (hr_f : FeedRd w v_f f) :
  Calls Tryz.prog 3 #[v_d, v_f] w fun e w' => e = .returned (.bool true) ∧ Below w.heap.size w w' := by
 have HE := hide hE
 clear hE
 have HF_d := hide hf_d
 clear hf_d
 have HR_d := hide hr_d
 obtain ⟨p_d0, p_d1, p_d2, p_d3, p_d4, p_d5, p_d6, p_d7, p_d8, rfl⟩ := hr_d.form
 clear hr_d
 have HF_f := hide hf_f
 clear hf_f
 have HR_f := hide hr_f
 obtain ⟨p_f0, p_f1, p_f2, p_f3, p_f4, rfl⟩ := hr_f.form
 clear hr_f
 go_enter Tryz.func3, Tryz.ntmps3
 obtain ⟨bx1, b2, zz3⟩ := boxNew3 w (.slice p_d0 p_d1 p_d2) (.slice p_d3 p_d4 p_d5) (.slice p_d6 p_d7 p_d8) 26
 obtain ⟨bx4, b5, zz6⟩ := boxNew3 (w.alloc (.cells #[.slice p_d0 p_d1 p_d2, .slice p_d3 p_d4 p_d5, .slice p_d6 p_d7 p_d8] 26)) (.int .i64 p_f0) (.int .i64 p_f1) (.slice p_f2 p_f3 p_f4) 30
 rw [World.size_alloc] at bx4
 go_wp2_with fail
 generalize w.alloc (.cells #[.slice p_d0 p_d1 p_d2, .slice p_d3 p_d4 p_d5, .slice p_d6 p_d7 p_d8] 26) = W7 at *
 have B9 := hide b2
 have Z10 := hide (show w.heap.size < W7.heap.size from zz3)
 have BX8 := hide bx1
 clear bx1 b2 zz3
 generalize W7.alloc (.cells #[.int .i64 p_f0, .int .i64 p_f1, .slice p_f2 p_f3 p_f4] 30) = W11 at *
 have B13 := hide ((unhide B9).trans (b5.mono (unhide B9).size))
 clear B9
 have BX14 := hide ((unhide BX8).up b5)
 clear BX8
 have Z15 := hide (show W7.heap.size < W11.heap.size from zz6)
 have BX12 := hide bx4
 clear bx4 b5 zz6
 refine (szGatherP_kitL d _ 1048576 W11 (by omega) (by omega) (unhide HF_d) ((unhide HR_d).up (unhide B13))).mono ?_
 rintro e w16 ⟨q17, rfl, ql20, HQ18, b19⟩
 have B21 := hide ((unhide B13).trans (b19.mono (unhide B13).size))
 clear B13
 have BX22 := hide ((unhide BX14).up b19)
 clear BX14
 have BX23 := hide ((unhide BX12).up b19)
 clear BX12
 have Z24 := hide (show W11.heap.size ≤ w16.heap.size from b19.size)
 clear b19
 by_cases hnegq17 : q17 < 0
 ·go_wp2_with fail
  go_ret
  exact ⟨rfl, unhide B21⟩
 have HS25 := hide (unhide HQ18 (by omega))
 obtain ⟨x26, x27, x28⟩ := (unhide BX22).three
 obtain ⟨x29, x30, x31⟩ := (unhide BX23).three
 go_wp2_with fail
 clear x26 x27 x28 x29 x30 x31
 refine (szFeed_kitL f _ q17 w16 (by omega) (by omega) (unhide HF_f) ((unhide HR_f).up (unhide B21))).mono ?_
 rintro e w32 ⟨q33, rfl, ql36, HQ34, b35⟩
 have B37 := hide ((unhide B21).trans (b35.mono (unhide B21).size))
 clear B21
 have BX38 := hide ((unhide BX22).up b35)
 clear BX22
 have BX39 := hide ((unhide BX23).up b35)
 clear BX23
 have Z40 := hide (show w16.heap.size ≤ w32.heap.size from b35.size)
 clear b35
 by_cases hnegq33 : q33 < 0
 ·go_wp2_with fail
  go_ret
  exact ⟨rfl, unhide B37⟩
 have HS41 := hide (unhide HQ34 (by omega))
 obtain ⟨N_d, HN_d⟩ : ∃ N, Hid (nGatherP d = N) := ⟨_, rfl⟩
 have NL_d : N_d ≤ 100000000 := by rw [← unhide HN_d]; exact nGatherP_le (unhide HS25)
 obtain ⟨N_f, HN_f⟩ : ∃ N, Hid (nFeed f = N) := ⟨_, rfl⟩
 have NL_f : N_f ≤ 100000000 := by rw [← unhide HN_f]; exact nFeed_le (unhide HS41)
 have HRS0 := hide (show SmallGatherF (gpG d f) from small_gpG (unhide HS25) (unhide HS41))
 obtain ⟨M_0, HM_0⟩ : ∃ N, Hid (nGatherF (gpG d f) = N) := ⟨_, rfl⟩
 have ML_0 : M_0 ≤ 100000000 := by rw [← unhide HM_0]; exact nGatherF_le (unhide HRS0)
 have HRS1 := hide (show SmallShow (gpS d f) from small_gpS (unhide HS25) (unhide HS41))
 obtain ⟨M_1, HM_1⟩ : ∃ N, Hid (nShow (gpS d f) = N) := ⟨_, rfl⟩
 have ML_1 : M_1 ≤ 100000000 := by rw [← unhide HM_1]; exact nShow_le (unhide HRS1)
 obtain ⟨x42, x43, x44⟩ := (unhide BX38).three
 obtain ⟨x45, x46, x47⟩ := (unhide BX39).three
 go_wp2_with fail
 clear x42 x43 x44 x45 x46 x47
 have BD48 := hide ((Below.refl w32.heap.size w32).drew)
 have KS49 := hide (show ∀ X : World, Below w32.heap.size w32 X → (fun (X : World) => (X.cell? ⟨w.heap.size, 0, none⟩ = some (.slice p_d0 p_d1 p_d2) ∧ X.cell? ⟨w.heap.size, 1, none⟩ = some (.slice p_d3 p_d4 p_d5) ∧ X.cell? ⟨w.heap.size, 2, none⟩ = some (.slice p_d6 p_d7 p_d8)) ∧ (X.cell? ⟨w.heap.size + 1, 0, none⟩ = some (.int .i64 p_f0) ∧ X.cell? ⟨w.heap.size + 1, 1, none⟩ = some (.int .i64 p_f1) ∧ X.cell? ⟨w.heap.size + 1, 2, none⟩ = some (.slice p_f2 p_f3 p_f4))) X from fun X b => ⟨((unhide BX38).up b).three, ((unhide BX39).up b).three⟩)
 go_cut [6, 7, 8] (fun sa sb sc wx => ∃ ga_w gb_w q_w0_0 q_w0_1 q_w0_2 q_w0_3 q_w0_4 q_w0_5 q_w0_6 q_w0_7 q_w0_8 q_w1_0 q_w1_1 q_w1_2 q_w1_3 q_w1_4 q_w1_5, sa = .pointer (some ⟨ga_w, 0, none⟩) ∧ sb = .pointer (some ⟨gb_w, 0, none⟩) ∧ sc = .int .i64 (gpC d f) ∧ Hid (BoxIs wx ga_w [.slice q_w0_0 q_w0_1 q_w0_2, .slice q_w0_3 q_w0_4 q_w0_5, .slice q_w0_6 q_w0_7 q_w0_8]) ∧ Hid (BoxIs wx gb_w [.slice q_w1_0 q_w1_1 q_w1_2, .slice q_w1_3 q_w1_4 q_w1_5]) ∧ Hid (GatherRd wx (.agg #[.slice q_w0_0 q_w0_1 q_w0_2, .slice q_w0_3 q_w0_4 q_w0_5, .slice q_w0_6 q_w0_7 q_w0_8]) (gpG d f)) ∧ Hid (ShowRd wx (.agg #[.slice q_w1_0 q_w1_1 q_w1_2, .slice q_w1_3 q_w1_4 q_w1_5]) (gpS d f)) ∧ Hid (Below w32.heap.size w32 wx))
 case first =>
  have hS := unhide KS49 _ (unhide BD48)
  refine wp_region_held_drew (S := fun (X : World) => (X.cell? ⟨w.heap.size, 0, none⟩ = some (.slice p_d0 p_d1 p_d2) ∧ X.cell? ⟨w.heap.size, 1, none⟩ = some (.slice p_d3 p_d4 p_d5) ∧ X.cell? ⟨w.heap.size, 2, none⟩ = some (.slice p_d6 p_d7 p_d8)) ∧ (X.cell? ⟨w.heap.size + 1, 0, none⟩ = some (.int .i64 p_f0) ∧ X.cell? ⟨w.heap.size + 1, 1, none⟩ = some (.int .i64 p_f1) ∧ X.cell? ⟨w.heap.size + 1, 2, none⟩ = some (.slice p_f2 p_f3 p_f4))) (by kernel_rfl) hS ?_
  clear hS
  intro hS
  generalize w32.drew = WX at *
  refine wpAnyH_take (i := 0) (v := .agg #[.slice p_d0 p_d1 p_d2, .slice p_d3 p_d4 p_d5, .slice p_d6 p_d7 p_d8]) rfl (by kernel_rfl) (by kernel_rfl) (by kernel_rfl) (fun _ _ _ h => h) (Or.inl ⟨by rfl, ?_⟩) hS ?_
  ·intro X hX
   obtain ⟨⟨hxa0, hxa1, hxa2⟩, ⟨hxb0, hxb1, hxb2⟩⟩ := hX
   clear hS
   go_simp
   try with_reducible rfl
  try simp [Act.put]
  refine wpAnyH_take (i := 2) (v := .agg #[.int .i64 p_f0, .int .i64 p_f1, .slice p_f2 p_f3 p_f4]) rfl (by kernel_rfl) (by kernel_rfl) (by kernel_rfl) (fun _ _ _ h => h) (Or.inl ⟨by rfl, ?_⟩) hS ?_
  ·intro X hX
   obtain ⟨⟨hxa0, hxa1, hxa2⟩, ⟨hxb0, hxb1, hxb2⟩⟩ := hX
   clear hS
   go_simp
   try with_reducible rfl
  try simp [Act.put]
  have T50 := hide (TS.start (unhide BD48))
  apply key_at
  ·intro KEY134AB
   apply key_at
   ·intro KEY134A
    apply key_at
    ·intro KEY134B
     apply key_at
     ·intro KEY13AB
      apply key_at
      ·intro KEY134
       apply key_at
       ·intro KEY13A
        apply key_at
        ·intro KEY13B
         apply key_at
         ·intro KEY1AB
          apply key_at
          ·intro KEY13
           apply key_at
           ·intro KEY1A
            apply key_at
            ·intro KEY1B
             apply key_at
             ·intro KEYAB
              apply key_at
              ·intro KEY1
               apply key_at
               ·intro KEYA
                apply key_at
                ·intro KEYB
                 refine wpAnyH_ready (rs := [1, 9, 10]) (by kernel_rfl) (by simp) ?_
                 refine AllReadyH.cons rfl (fun K hK => ?_) (AllReadyH.cons rfl (fun K hK => ?_) (AllReadyH.cons rfl (fun K hK => ?_) (AllReadyH.nil)))
                 ·skip
                  go_simp
                  refine (toGatherP_kit d _ _ (unhide HS25) ((unhide HR_d).up ((unhide B37).trans ((unhide T50).bel.mono (unhide B37).size)))).mono ?_
                  rintro e X2 ⟨v2, S2, rfl, O2, L2, b2⟩
                  have T2 := hide ((unhide T50).one b2 (unhide O2))
                  clear L2 O2 b2
                  refine hK.out _ _ (unhide KS49 _ (unhide T2).bel) ?_
                  clear hK K
                  intro hS
                  try simp [Act.put]
                  revert hS; revert T2; revert X2; revert v2
                  exact KEY1.it
                 ·skip
                  have T2 := hide (unhide T50).newA
                  go_simp
                  generalize WX.alloc (.cells #[.slice none 0 0, .slice none 0 0, .slice none 0 0] 36) = X2 at *
                  generalize WX.heap.size = g2 at *
                  refine hK.out _ _ (unhide KS49 _ (unhide T2).bel) ?_
                  clear hK K
                  intro hS
                  try simp [Act.put]
                  revert hS; revert T2; revert X2; revert g2
                  exact KEYA.it
                 ·skip
                  have T2 := hide (unhide T50).newB
                  go_simp
                  generalize WX.alloc (.cells #[.slice none 0 0, .slice none 0 0] 39) = X2 at *
                  generalize WX.heap.size = g2 at *
                  refine hK.out _ _ (unhide KS49 _ (unhide T2).bel) ?_
                  clear hK K
                  intro hS
                  try simp [Act.put]
                  revert hS; revert T2; revert X2; revert g2
                  exact KEYB.it
                intro gb X TT hS
                refine wpAnyH_ready (rs := [1, 9]) (by kernel_rfl) (by simp) ?_
                refine AllReadyH.cons rfl (fun K hK => ?_) (AllReadyH.cons rfl (fun K hK => ?_) (AllReadyH.nil))
                ·skip
                 go_simp
                 refine (toGatherP_kit d _ _ (unhide HS25) ((unhide HR_d).up ((unhide B37).trans ((unhide TT).bel.mono (unhide B37).size)))).mono ?_
                 rintro e X2 ⟨v2, S2, rfl, O2, L2, b2⟩
                 have T2 := hide ((unhide TT).one b2 (unhide O2))
                 clear L2 O2 b2
                 refine hK.out _ _ (unhide KS49 _ (unhide T2).bel) ?_
                 clear hK K hS TT
                 intro hS
                 try simp [Act.put]
                 revert hS; revert T2; revert X2; revert gb; revert v2
                 exact KEY1B.it
                ·skip
                 have T2 := hide (unhide TT).newA
                 go_simp
                 generalize X.alloc (.cells #[.slice none 0 0, .slice none 0 0, .slice none 0 0] 36) = X2 at *
                 generalize X.heap.size = g2 at *
                 refine hK.out _ _ (unhide KS49 _ (unhide T2).bel) ?_
                 clear hK K hS TT
                 intro hS
                 try simp [Act.put]
                 revert hS; revert T2; revert X2; revert gb; revert g2
                 exact KEYAB.it
               intro ga X TT hS
               refine wpAnyH_ready (rs := [1, 10]) (by kernel_rfl) (by simp) ?_
               refine AllReadyH.cons rfl (fun K hK => ?_) (AllReadyH.cons rfl (fun K hK => ?_) (AllReadyH.nil))
               ·skip
                go_simp
                refine (toGatherP_kit d _ _ (unhide HS25) ((unhide HR_d).up ((unhide B37).trans ((unhide TT).bel.mono (unhide B37).size)))).mono ?_
                rintro e X2 ⟨v2, S2, rfl, O2, L2, b2⟩
                have T2 := hide ((unhide TT).one b2 (unhide O2))
                clear L2 O2 b2
                refine hK.out _ _ (unhide KS49 _ (unhide T2).bel) ?_
                clear hK K hS TT
                intro hS
                try simp [Act.put]
                revert hS; revert T2; revert X2; revert ga; revert v2
                exact KEY1A.it
               ·skip
                have T2 := hide (unhide TT).newB
                go_simp
                generalize X.alloc (.cells #[.slice none 0 0, .slice none 0 0] 39) = X2 at *
                generalize X.heap.size = g2 at *
                refine hK.out _ _ (unhide KS49 _ (unhide T2).bel) ?_
                clear hK K hS TT
                intro hS
                try simp [Act.put]
                revert hS; revert T2; revert X2; revert g2; revert ga
                exact KEYAB.it
              intro va X TT hS
              refine wpAnyH_ready (rs := [3, 9, 10]) (by kernel_rfl) (by simp) ?_
              refine AllReadyH.cons rfl (fun K hK => ?_) (AllReadyH.cons rfl (fun K hK => ?_) (AllReadyH.cons rfl (fun K hK => ?_) (AllReadyH.nil)))
              ·skip
               go_simp
               refine (toFeed_kit f _ _ (unhide HS41) ((unhide HR_f).up ((unhide B37).trans ((unhide TT).bel.mono (unhide B37).size)))).mono ?_
               rintro e X2 ⟨v2, S2, rfl, O2, L2, b2⟩
               have T2 := hide ((unhide TT).two b2 (unhide O2))
               clear L2 O2 b2
               refine hK.out _ _ (unhide KS49 _ (unhide T2).bel) ?_
               clear hK K hS TT
               intro hS
               try simp [Act.put]
               revert hS; revert T2; revert X2; revert v2; revert va
               exact KEY13.it
              ·skip
               have T2 := hide (unhide TT).newA
               go_simp
               generalize X.alloc (.cells #[.slice none 0 0, .slice none 0 0, .slice none 0 0] 36) = X2 at *
               generalize X.heap.size = g2 at *
               refine hK.out _ _ (unhide KS49 _ (unhide T2).bel) ?_
               clear hK K hS TT
               intro hS
               try simp [Act.put]
               revert hS; revert T2; revert X2; revert g2; revert va
               exact KEY1A.it
              ·skip
               have T2 := hide (unhide TT).newB
               go_simp
               generalize X.alloc (.cells #[.slice none 0 0, .slice none 0 0] 39) = X2 at *
               generalize X.heap.size = g2 at *
               refine hK.out _ _ (unhide KS49 _ (unhide T2).bel) ?_
               clear hK K hS TT
               intro hS
               try simp [Act.put]
               revert hS; revert T2; revert X2; revert g2; revert va
               exact KEY1B.it
             intro ga gb X TT hS
             refine wpAnyH_ready (rs := [1]) (by kernel_rfl) (by simp) ?_
             refine AllReadyH.cons rfl (fun K hK => ?_) (AllReadyH.nil)
             go_simp
             refine (toGatherP_kit d _ _ (unhide HS25) ((unhide HR_d).up ((unhide B37).trans ((unhide TT).bel.mono (unhide B37).size)))).mono ?_
             rintro e X2 ⟨v2, S2, rfl, O2, L2, b2⟩
             have T2 := hide ((unhide TT).one b2 (unhide O2))
             clear L2 O2 b2
             refine hK.out _ _ (unhide KS49 _ (unhide T2).bel) ?_
             clear hK K hS TT
             intro hS
             try simp [Act.put]
             revert hS; revert T2; revert X2; revert gb; revert ga; revert v2
             exact KEY1AB.it
            intro va gb X TT hS
            refine wpAnyH_ready (rs := [3, 9]) (by kernel_rfl) (by simp) ?_
            refine AllReadyH.cons rfl (fun K hK => ?_) (AllReadyH.cons rfl (fun K hK => ?_) (AllReadyH.nil))
            ·skip
             go_simp
             refine (toFeed_kit f _ _ (unhide HS41) ((unhide HR_f).up ((unhide B37).trans ((unhide TT).bel.mono (unhide B37).size)))).mono ?_
             rintro e X2 ⟨v2, S2, rfl, O2, L2, b2⟩
             have T2 := hide ((unhide TT).two b2 (unhide O2))
             clear L2 O2 b2
             refine hK.out _ _ (unhide KS49 _ (unhide T2).bel) ?_
             clear hK K hS TT
             intro hS
             try simp [Act.put]
             revert hS; revert T2; revert X2; revert gb; revert v2; revert va
             exact KEY13B.it
            ·skip
             have T2 := hide (unhide TT).newA
             go_simp
             generalize X.alloc (.cells #[.slice none 0 0, .slice none 0 0, .slice none 0 0] 36) = X2 at *
             generalize X.heap.size = g2 at *
             refine hK.out _ _ (unhide KS49 _ (unhide T2).bel) ?_
             clear hK K hS TT
             intro hS
             try simp [Act.put]
             revert hS; revert T2; revert X2; revert gb; revert g2; revert va
             exact KEY1AB.it
           intro va ga X TT hS
           refine wpAnyH_ready (rs := [3, 10]) (by kernel_rfl) (by simp) ?_
           refine AllReadyH.cons rfl (fun K hK => ?_) (AllReadyH.cons rfl (fun K hK => ?_) (AllReadyH.nil))
           ·skip
            go_simp
            refine (toFeed_kit f _ _ (unhide HS41) ((unhide HR_f).up ((unhide B37).trans ((unhide TT).bel.mono (unhide B37).size)))).mono ?_
            rintro e X2 ⟨v2, S2, rfl, O2, L2, b2⟩
            have T2 := hide ((unhide TT).two b2 (unhide O2))
            clear L2 O2 b2
            refine hK.out _ _ (unhide KS49 _ (unhide T2).bel) ?_
            clear hK K hS TT
            intro hS
            try simp [Act.put]
            revert hS; revert T2; revert X2; revert ga; revert v2; revert va
            exact KEY13A.it
           ·skip
            have T2 := hide (unhide TT).newB
            go_simp
            generalize X.alloc (.cells #[.slice none 0 0, .slice none 0 0] 39) = X2 at *
            generalize X.heap.size = g2 at *
            refine hK.out _ _ (unhide KS49 _ (unhide T2).bel) ?_
            clear hK K hS TT
            intro hS
            try simp [Act.put]
            revert hS; revert T2; revert X2; revert g2; revert ga; revert va
            exact KEY1AB.it
          intro va vb X TT hS
          refine wpAnyH_ready (rs := [4, 9, 10]) (by kernel_rfl) (by simp) ?_
          refine AllReadyH.cons rfl (fun K hK => ?_) (AllReadyH.cons rfl (fun K hK => ?_) (AllReadyH.cons rfl (fun K hK => ?_) (AllReadyH.nil)))
          ·skip
           go_simp
           refine (spec_two d f _ _ _ (unhide HS25) (unhide HS41) (unhide TT).p.1 (unhide TT).p.2).mono ?_
           rintro e X2 ⟨q_w0_0, q_w0_1, q_w0_2, q_w0_3, q_w0_4, q_w0_5, q_w0_6, q_w0_7, q_w0_8, q_w1_0, q_w1_1, q_w1_2, q_w1_3, q_w1_4, q_w1_5, rfl, RR, b2⟩
           have T2 := hide ((unhide TT).three b2 (unhide RR))
           clear RR b2
           refine hK.out _ _ (unhide KS49 _ (unhide T2).bel) ?_
           clear hK K hS TT
           intro hS
           try simp [Act.put]
           refine wpAnyH_take (i := 5) (v := .tuple #[.agg #[.slice q_w0_0 q_w0_1 q_w0_2, .slice q_w0_3 q_w0_4 q_w0_5, .slice q_w0_6 q_w0_7 q_w0_8], .agg #[.slice q_w1_0 q_w1_1 q_w1_2, .slice q_w1_3 q_w1_4 q_w1_5], .int .i64 (gpC d f)]) rfl (by kernel_rfl) (by kernel_rfl) (by kernel_rfl) (fun _ _ _ h => h) (Or.inl ⟨by rfl, ?_⟩) hS ?_
           ·intro X _
            clear hS
            go_simp
            try with_reducible rfl
           try simp [Act.put]
           refine wpAnyH_take (i := 6) (v := .agg #[.slice q_w0_0 q_w0_1 q_w0_2, .slice q_w0_3 q_w0_4 q_w0_5, .slice q_w0_6 q_w0_7 q_w0_8]) rfl (by kernel_rfl) (by kernel_rfl) (by kernel_rfl) (fun _ _ _ h => h) (Or.inl ⟨by rfl, ?_⟩) hS ?_
           ·intro X _
            clear hS
            go_simp
            try with_reducible rfl
           try simp [Act.put]
           refine wpAnyH_take (i := 7) (v := .agg #[.slice q_w1_0 q_w1_1 q_w1_2, .slice q_w1_3 q_w1_4 q_w1_5]) rfl (by kernel_rfl) (by kernel_rfl) (by kernel_rfl) (fun _ _ _ h => h) (Or.inl ⟨by rfl, ?_⟩) hS ?_
           ·intro X _
            clear hS
            go_simp
            try with_reducible rfl
           try simp [Act.put]
           refine wpAnyH_take (i := 8) (v := .int .i64 (gpC d f)) rfl (by kernel_rfl) (by kernel_rfl) (by kernel_rfl) (fun _ _ _ h => h) (Or.inl ⟨by rfl, ?_⟩) hS ?_
           ·intro X _
            clear hS
            go_simp
            try with_reducible rfl
           try simp [Act.put]
           revert hS; revert T2; revert X2; revert q_w0_0 q_w0_1 q_w0_2 q_w0_3 q_w0_4 q_w0_5 q_w0_6 q_w0_7 q_w0_8 q_w1_0 q_w1_1 q_w1_2 q_w1_3 q_w1_4 q_w1_5; revert vb; revert va
           exact KEY134.it
          ·skip
           have T2 := hide (unhide TT).newA
           go_simp
           generalize X.alloc (.cells #[.slice none 0 0, .slice none 0 0, .slice none 0 0] 36) = X2 at *
           generalize X.heap.size = g2 at *
           refine hK.out _ _ (unhide KS49 _ (unhide T2).bel) ?_
           clear hK K hS TT
           intro hS
           try simp [Act.put]
           revert hS; revert T2; revert X2; revert g2; revert vb; revert va
           exact KEY13A.it
          ·skip
           have T2 := hide (unhide TT).newB
           go_simp
           generalize X.alloc (.cells #[.slice none 0 0, .slice none 0 0] 39) = X2 at *
           generalize X.heap.size = g2 at *
           refine hK.out _ _ (unhide KS49 _ (unhide T2).bel) ?_
           clear hK K hS TT
           intro hS
           try simp [Act.put]
           revert hS; revert T2; revert X2; revert g2; revert vb; revert va
           exact KEY13B.it
         intro va ga gb X TT hS
         refine wpAnyH_ready (rs := [3]) (by kernel_rfl) (by simp) ?_
         refine AllReadyH.cons rfl (fun K hK => ?_) (AllReadyH.nil)
         go_simp
         refine (toFeed_kit f _ _ (unhide HS41) ((unhide HR_f).up ((unhide B37).trans ((unhide TT).bel.mono (unhide B37).size)))).mono ?_
         rintro e X2 ⟨v2, S2, rfl, O2, L2, b2⟩
         have T2 := hide ((unhide TT).two b2 (unhide O2))
         clear L2 O2 b2
         refine hK.out _ _ (unhide KS49 _ (unhide T2).bel) ?_
         clear hK K hS TT
         intro hS
         try simp [Act.put]
         revert hS; revert T2; revert X2; revert gb; revert ga; revert v2; revert va
         exact KEY13AB.it
        intro va vb gb X TT hS
        refine wpAnyH_ready (rs := [4, 9]) (by kernel_rfl) (by simp) ?_
        refine AllReadyH.cons rfl (fun K hK => ?_) (AllReadyH.cons rfl (fun K hK => ?_) (AllReadyH.nil))
        ·skip
         go_simp
         refine (spec_two d f _ _ _ (unhide HS25) (unhide HS41) (unhide TT).p.1 (unhide TT).p.2).mono ?_
         rintro e X2 ⟨q_w0_0, q_w0_1, q_w0_2, q_w0_3, q_w0_4, q_w0_5, q_w0_6, q_w0_7, q_w0_8, q_w1_0, q_w1_1, q_w1_2, q_w1_3, q_w1_4, q_w1_5, rfl, RR, b2⟩
         have T2 := hide ((unhide TT).three b2 (unhide RR))
         clear RR b2
         refine hK.out _ _ (unhide KS49 _ (unhide T2).bel) ?_
         clear hK K hS TT
         intro hS
         try simp [Act.put]
         refine wpAnyH_take (i := 5) (v := .tuple #[.agg #[.slice q_w0_0 q_w0_1 q_w0_2, .slice q_w0_3 q_w0_4 q_w0_5, .slice q_w0_6 q_w0_7 q_w0_8], .agg #[.slice q_w1_0 q_w1_1 q_w1_2, .slice q_w1_3 q_w1_4 q_w1_5], .int .i64 (gpC d f)]) rfl (by kernel_rfl) (by kernel_rfl) (by kernel_rfl) (fun _ _ _ h => h) (Or.inl ⟨by rfl, ?_⟩) hS ?_
         ·intro X _
          clear hS
          go_simp
          try with_reducible rfl
         try simp [Act.put]
         refine wpAnyH_take (i := 6) (v := .agg #[.slice q_w0_0 q_w0_1 q_w0_2, .slice q_w0_3 q_w0_4 q_w0_5, .slice q_w0_6 q_w0_7 q_w0_8]) rfl (by kernel_rfl) (by kernel_rfl) (by kernel_rfl) (fun _ _ _ h => h) (Or.inl ⟨by rfl, ?_⟩) hS ?_
         ·intro X _
          clear hS
          go_simp
          try with_reducible rfl
         try simp [Act.put]
         refine wpAnyH_take (i := 7) (v := .agg #[.slice q_w1_0 q_w1_1 q_w1_2, .slice q_w1_3 q_w1_4 q_w1_5]) rfl (by kernel_rfl) (by kernel_rfl) (by kernel_rfl) (fun _ _ _ h => h) (Or.inl ⟨by rfl, ?_⟩) hS ?_
         ·intro X _
          clear hS
          go_simp
          try with_reducible rfl
         try simp [Act.put]
         refine wpAnyH_take (i := 8) (v := .int .i64 (gpC d f)) rfl (by kernel_rfl) (by kernel_rfl) (by kernel_rfl) (fun _ _ _ h => h) (Or.inl ⟨by rfl, ?_⟩) hS ?_
         ·intro X _
          clear hS
          go_simp
          try with_reducible rfl
         try simp [Act.put]
         revert hS; revert T2; revert X2; revert gb; revert q_w0_0 q_w0_1 q_w0_2 q_w0_3 q_w0_4 q_w0_5 q_w0_6 q_w0_7 q_w0_8 q_w1_0 q_w1_1 q_w1_2 q_w1_3 q_w1_4 q_w1_5; revert vb; revert va
         exact KEY134B.it
        ·skip
         have T2 := hide (unhide TT).newA
         go_simp
         generalize X.alloc (.cells #[.slice none 0 0, .slice none 0 0, .slice none 0 0] 36) = X2 at *
         generalize X.heap.size = g2 at *
         refine hK.out _ _ (unhide KS49 _ (unhide T2).bel) ?_
         clear hK K hS TT
         intro hS
         try simp [Act.put]
         revert hS; revert T2; revert X2; revert gb; revert g2; revert vb; revert va
         exact KEY13AB.it
       intro va vb ga X TT hS
       refine wpAnyH_ready (rs := [4, 10]) (by kernel_rfl) (by simp) ?_
       refine AllReadyH.cons rfl (fun K hK => ?_) (AllReadyH.cons rfl (fun K hK => ?_) (AllReadyH.nil))
       ·skip
        go_simp
        refine (spec_two d f _ _ _ (unhide HS25) (unhide HS41) (unhide TT).p.1 (unhide TT).p.2).mono ?_
        rintro e X2 ⟨q_w0_0, q_w0_1, q_w0_2, q_w0_3, q_w0_4, q_w0_5, q_w0_6, q_w0_7, q_w0_8, q_w1_0, q_w1_1, q_w1_2, q_w1_3, q_w1_4, q_w1_5, rfl, RR, b2⟩
        have T2 := hide ((unhide TT).three b2 (unhide RR))
        clear RR b2
        refine hK.out _ _ (unhide KS49 _ (unhide T2).bel) ?_
        clear hK K hS TT
        intro hS
        try simp [Act.put]
        refine wpAnyH_take (i := 5) (v := .tuple #[.agg #[.slice q_w0_0 q_w0_1 q_w0_2, .slice q_w0_3 q_w0_4 q_w0_5, .slice q_w0_6 q_w0_7 q_w0_8], .agg #[.slice q_w1_0 q_w1_1 q_w1_2, .slice q_w1_3 q_w1_4 q_w1_5], .int .i64 (gpC d f)]) rfl (by kernel_rfl) (by kernel_rfl) (by kernel_rfl) (fun _ _ _ h => h) (Or.inl ⟨by rfl, ?_⟩) hS ?_
        ·intro X _
         clear hS
         go_simp
         try with_reducible rfl
        try simp [Act.put]
        refine wpAnyH_take (i := 6) (v := .agg #[.slice q_w0_0 q_w0_1 q_w0_2, .slice q_w0_3 q_w0_4 q_w0_5, .slice q_w0_6 q_w0_7 q_w0_8]) rfl (by kernel_rfl) (by kernel_rfl) (by kernel_rfl) (fun _ _ _ h => h) (Or.inl ⟨by rfl, ?_⟩) hS ?_
        ·intro X _
         clear hS
         go_simp
         try with_reducible rfl
        try simp [Act.put]
        refine wpAnyH_take (i := 7) (v := .agg #[.slice q_w1_0 q_w1_1 q_w1_2, .slice q_w1_3 q_w1_4 q_w1_5]) rfl (by kernel_rfl) (by kernel_rfl) (by kernel_rfl) (fun _ _ _ h => h) (Or.inl ⟨by rfl, ?_⟩) hS ?_
        ·intro X _
         clear hS
         go_simp
         try with_reducible rfl
        try simp [Act.put]
        refine wpAnyH_take (i := 8) (v := .int .i64 (gpC d f)) rfl (by kernel_rfl) (by kernel_rfl) (by kernel_rfl) (fun _ _ _ h => h) (Or.inl ⟨by rfl, ?_⟩) hS ?_
        ·intro X _
         clear hS
         go_simp
         try with_reducible rfl
        try simp [Act.put]
        revert hS; revert T2; revert X2; revert ga; revert q_w0_0 q_w0_1 q_w0_2 q_w0_3 q_w0_4 q_w0_5 q_w0_6 q_w0_7 q_w0_8 q_w1_0 q_w1_1 q_w1_2 q_w1_3 q_w1_4 q_w1_5; revert vb; revert va
        exact KEY134A.it
       ·skip
        have T2 := hide (unhide TT).newB
        go_simp
        generalize X.alloc (.cells #[.slice none 0 0, .slice none 0 0] 39) = X2 at *
        generalize X.heap.size = g2 at *
        refine hK.out _ _ (unhide KS49 _ (unhide T2).bel) ?_
        clear hK K hS TT
        intro hS
        try simp [Act.put]
        revert hS; revert T2; revert X2; revert g2; revert ga; revert vb; revert va
        exact KEY13AB.it
      intro va vb q_w0_0 q_w0_1 q_w0_2 q_w0_3 q_w0_4 q_w0_5 q_w0_6 q_w0_7 q_w0_8 q_w1_0 q_w1_1 q_w1_2 q_w1_3 q_w1_4 q_w1_5 X TT hS
      refine wpAnyH_ready (rs := [9, 10]) (by kernel_rfl) (by simp) ?_
      refine AllReadyH.cons rfl (fun K hK => ?_) (AllReadyH.cons rfl (fun K hK => ?_) (AllReadyH.nil))
      ·skip
       have T2 := hide (unhide TT).newA
       go_simp
       generalize X.alloc (.cells #[.slice none 0 0, .slice none 0 0, .slice none 0 0] 36) = X2 at *
       generalize X.heap.size = g2 at *
       refine hK.out _ _ (unhide KS49 _ (unhide T2).bel) ?_
       clear hK K hS TT
       intro hS
       try simp [Act.put]
       revert hS; revert T2; revert X2; revert g2; revert q_w0_0 q_w0_1 q_w0_2 q_w0_3 q_w0_4 q_w0_5 q_w0_6 q_w0_7 q_w0_8 q_w1_0 q_w1_1 q_w1_2 q_w1_3 q_w1_4 q_w1_5; revert vb; revert va
       exact KEY134A.it
      ·skip
       have T2 := hide (unhide TT).newB
       go_simp
       generalize X.alloc (.cells #[.slice none 0 0, .slice none 0 0] 39) = X2 at *
       generalize X.heap.size = g2 at *
       refine hK.out _ _ (unhide KS49 _ (unhide T2).bel) ?_
       clear hK K hS TT
       intro hS
       try simp [Act.put]
       revert hS; revert T2; revert X2; revert g2; revert q_w0_0 q_w0_1 q_w0_2 q_w0_3 q_w0_4 q_w0_5 q_w0_6 q_w0_7 q_w0_8 q_w1_0 q_w1_1 q_w1_2 q_w1_3 q_w1_4 q_w1_5; revert vb; revert va
       exact KEY134B.it
     intro va vb ga gb X TT hS
     refine wpAnyH_ready (rs := [4]) (by kernel_rfl) (by simp) ?_
     refine AllReadyH.cons rfl (fun K hK => ?_) (AllReadyH.nil)
     go_simp
     refine (spec_two d f _ _ _ (unhide HS25) (unhide HS41) (unhide TT).p.1 (unhide TT).p.2).mono ?_
     rintro e X2 ⟨q_w0_0, q_w0_1, q_w0_2, q_w0_3, q_w0_4, q_w0_5, q_w0_6, q_w0_7, q_w0_8, q_w1_0, q_w1_1, q_w1_2, q_w1_3, q_w1_4, q_w1_5, rfl, RR, b2⟩
     have T2 := hide ((unhide TT).three b2 (unhide RR))
     clear RR b2
     refine hK.out _ _ (unhide KS49 _ (unhide T2).bel) ?_
     clear hK K hS TT
     intro hS
     try simp [Act.put]
     refine wpAnyH_take (i := 5) (v := .tuple #[.agg #[.slice q_w0_0 q_w0_1 q_w0_2, .slice q_w0_3 q_w0_4 q_w0_5, .slice q_w0_6 q_w0_7 q_w0_8], .agg #[.slice q_w1_0 q_w1_1 q_w1_2, .slice q_w1_3 q_w1_4 q_w1_5], .int .i64 (gpC d f)]) rfl (by kernel_rfl) (by kernel_rfl) (by kernel_rfl) (fun _ _ _ h => h) (Or.inl ⟨by rfl, ?_⟩) hS ?_
     ·intro X _
      clear hS
      go_simp
      try with_reducible rfl
     try simp [Act.put]
     refine wpAnyH_take (i := 6) (v := .agg #[.slice q_w0_0 q_w0_1 q_w0_2, .slice q_w0_3 q_w0_4 q_w0_5, .slice q_w0_6 q_w0_7 q_w0_8]) rfl (by kernel_rfl) (by kernel_rfl) (by kernel_rfl) (fun _ _ _ h => h) (Or.inl ⟨by rfl, ?_⟩) hS ?_
     ·intro X _
      clear hS
      go_simp
      try with_reducible rfl
     try simp [Act.put]
     refine wpAnyH_take (i := 7) (v := .agg #[.slice q_w1_0 q_w1_1 q_w1_2, .slice q_w1_3 q_w1_4 q_w1_5]) rfl (by kernel_rfl) (by kernel_rfl) (by kernel_rfl) (fun _ _ _ h => h) (Or.inl ⟨by rfl, ?_⟩) hS ?_
     ·intro X _
      clear hS
      go_simp
      try with_reducible rfl
     try simp [Act.put]
     refine wpAnyH_take (i := 8) (v := .int .i64 (gpC d f)) rfl (by kernel_rfl) (by kernel_rfl) (by kernel_rfl) (fun _ _ _ h => h) (Or.inl ⟨by rfl, ?_⟩) hS ?_
     ·intro X _
      clear hS
      go_simp
      try with_reducible rfl
     try simp [Act.put]
     revert hS; revert T2; revert X2; revert gb; revert ga; revert q_w0_0 q_w0_1 q_w0_2 q_w0_3 q_w0_4 q_w0_5 q_w0_6 q_w0_7 q_w0_8 q_w1_0 q_w1_1 q_w1_2 q_w1_3 q_w1_4 q_w1_5; revert vb; revert va
     exact KEY134AB.it
    intro va vb q_w0_0 q_w0_1 q_w0_2 q_w0_3 q_w0_4 q_w0_5 q_w0_6 q_w0_7 q_w0_8 q_w1_0 q_w1_1 q_w1_2 q_w1_3 q_w1_4 q_w1_5 gb X TT hS
    refine wpAnyH_ready (rs := [9]) (by kernel_rfl) (by simp) ?_
    refine AllReadyH.cons rfl (fun K hK => ?_) (AllReadyH.nil)
    have T2 := hide (unhide TT).newA
    go_simp
    generalize X.alloc (.cells #[.slice none 0 0, .slice none 0 0, .slice none 0 0] 36) = X2 at *
    generalize X.heap.size = g2 at *
    refine hK.out _ _ (unhide KS49 _ (unhide T2).bel) ?_
    clear hK K hS TT
    intro hS
    try simp [Act.put]
    revert hS; revert T2; revert X2; revert gb; revert g2; revert q_w0_0 q_w0_1 q_w0_2 q_w0_3 q_w0_4 q_w0_5 q_w0_6 q_w0_7 q_w0_8 q_w1_0 q_w1_1 q_w1_2 q_w1_3 q_w1_4 q_w1_5; revert vb; revert va
    exact KEY134AB.it
   intro va vb q_w0_0 q_w0_1 q_w0_2 q_w0_3 q_w0_4 q_w0_5 q_w0_6 q_w0_7 q_w0_8 q_w1_0 q_w1_1 q_w1_2 q_w1_3 q_w1_4 q_w1_5 ga X TT hS
   refine wpAnyH_ready (rs := [10]) (by kernel_rfl) (by simp) ?_
   refine AllReadyH.cons rfl (fun K hK => ?_) (AllReadyH.nil)
   have T2 := hide (unhide TT).newB
   go_simp
   generalize X.alloc (.cells #[.slice none 0 0, .slice none 0 0] 39) = X2 at *
   generalize X.heap.size = g2 at *
   refine hK.out _ _ (unhide KS49 _ (unhide T2).bel) ?_
   clear hK K hS TT
   intro hS
   try simp [Act.put]
   revert hS; revert T2; revert X2; revert g2; revert ga; revert q_w0_0 q_w0_1 q_w0_2 q_w0_3 q_w0_4 q_w0_5 q_w0_6 q_w0_7 q_w0_8 q_w1_0 q_w1_1 q_w1_2 q_w1_3 q_w1_4 q_w1_5; revert vb; revert va
   exact KEY134AB.it
  intro va vb q_w0_0 q_w0_1 q_w0_2 q_w0_3 q_w0_4 q_w0_5 q_w0_6 q_w0_7 q_w0_8 q_w1_0 q_w1_1 q_w1_2 q_w1_3 q_w1_4 q_w1_5 ga gb X TT hS
  obtain ⟨fa, fb, na, nb, EA, EB, XA, XB, RA, RB⟩ := (unhide TT).done
  obtain ⟨⟨ca0, ca1, ca2⟩, fa0, fa1, fa2⟩ := fa.three
  obtain ⟨⟨cb0, cb1⟩, fb0, fb1⟩ := fb.twoF
  clear fa fb
  refine wpAnyH_ready (rs := [11]) (by kernel_rfl) (by simp) ?_
  refine AllReadyH.cons rfl (fun K hK => ?_) AllReadyH.nil
  go_simp
  refine hK.out _ _ (unhide KS49 _ (unhide EA)) ?_
  clear hK K hS
  intro hS
  try simp [Act.put]
  refine wpAnyH_ready (rs := [12]) (by kernel_rfl) (by simp) ?_
  refine AllReadyH.cons rfl (fun K hK => ?_) AllReadyH.nil
  go_simp
  refine hK.out _ _ (unhide KS49 _ (unhide EB)) ?_
  clear hK K hS
  intro hS
  try simp [Act.put]
  refine wpAnyH_take (i := 13) (v := .int .i64 (gpC d f)) rfl (by kernel_rfl) (by kernel_rfl) (by kernel_rfl) (fun _ _ _ h => h) (Or.inl ⟨by rfl, ?_⟩) hS ?_
  ·intro X _
   clear hS
   go_simp
   try with_reducible rfl
  try simp [Act.put]
  refine wpAnyH_done (by kernel_rfl) ?_ _
  clear hS ca0 ca1 ca2 cb0 cb1 fa0 fa1 fa2 fb0 fb1 na nb
  go_wp2_with fail
  go_meet
  exact ⟨_, _, _, _, _, _, _, _, _, _, _, _, _, _, _, _, _, rfl, rfl, rfl, XA, XB, RA, RB, EB⟩
 case rest =>
  obtain ⟨ga_w, gb_w, q_w0_0, q_w0_1, q_w0_2, q_w0_3, q_w0_4, q_w0_5, q_w0_6, q_w0_7, q_w0_8, q_w1_0, q_w1_1, q_w1_2, q_w1_3, q_w1_4, q_w1_5, rfl, rfl, rfl, BX51, BX52, U53, U54, Bc55⟩ := hcut
  obtain ⟨wc56, rfl⟩ : ∃ X : World, X = wc := ⟨_, rfl⟩
  have B57 := hide ((unhide B37).trans ((unhide Bc55).mono (unhide B37).size))
  clear B37
  have BX58 := hide ((unhide BX38).up (unhide Bc55))
  clear BX38
  have BX59 := hide ((unhide BX39).up (unhide Bc55))
  clear BX39
  have Z60 := hide (show w32.heap.size ≤ wc56.heap.size from (unhide Bc55).size)
  clear Bc55 BD48 KS49
  have Z61 := hide (unhide BX51).1
  have Z62 := hide (unhide BX52).1
  have BU63 := hide (Below.refl wc56.heap.size wc56)
  obtain ⟨x64, x65, x66⟩ := (unhide BX58).three
  obtain ⟨x67, x68, x69⟩ := (unhide BX59).three
  obtain ⟨x70, x71, x72⟩ := (unhide BX51).three
  obtain ⟨x73, x74⟩ := (unhide BX52).two
  go_wp2_with fail
  clear x64 x65 x66 x67 x68 x69 x70 x71 x72 x73 x74
  refine (toGatherP_kit d _ wc56 (unhide HS25) ((unhide HR_d).up (unhide B57))).mono ?_
  rintro e w75 ⟨v76, S77, rfl, O78, L79, b80⟩
  have B81 := hide ((unhide B57).trans (b80.mono (unhide B57).size))
  clear B57
  have BU82 := hide ((unhide BU63).trans (b80.mono (unhide BU63).size))
  clear BU63
  have BX83 := hide ((unhide BX58).up b80)
  clear BX58
  have BX84 := hide ((unhide BX59).up b80)
  clear BX59
  have BX85 := hide ((unhide BX51).up b80)
  clear BX51
  have BX86 := hide ((unhide BX52).up b80)
  clear BX52
  have Z87 := hide (show wc56.heap.size ≤ w75.heap.size from b80.size)
  clear b80
  have H88 := hide (unhide O78).lt
  obtain ⟨r_d0, r_d1, r_d2, r_d3, r_d4, r_d5, r_d6, r_d7, r_d8, rfl⟩ := (unhide O78).rd.form
  obtain ⟨x89, x90, x91⟩ := (unhide BX83).three
  obtain ⟨x92, x93, x94⟩ := (unhide BX84).three
  obtain ⟨x95, x96, x97⟩ := (unhide BX85).three
  obtain ⟨x98, x99⟩ := (unhide BX86).two
  have lt100 : w.heap.size < w75.heap.size := (unhide BX83).1
  have lt101 : w.heap.size + 1 < w75.heap.size := (unhide BX84).1
  have lt102 : ga_w < w75.heap.size := (unhide BX85).1
  have lt103 : gb_w < w75.heap.size := (unhide BX86).1
  obtain ⟨bx104, b105, zz106⟩ := boxNew3 w75 (.slice r_d0 r_d1 r_d2) (.slice r_d3 r_d4 r_d5) (.slice r_d6 r_d7 r_d8) 36
  go_wp2_with fail
  generalize w75.alloc (.cells #[.slice r_d0 r_d1 r_d2, .slice r_d3 r_d4 r_d5, .slice r_d6 r_d7 r_d8] 36) = W107 at *
  have B109 := hide ((unhide B81).trans (b105.mono (unhide B81).size))
  clear B81
  have BU110 := hide ((unhide BU82).trans (b105.mono (unhide BU82).size))
  clear BU82
  have BX111 := hide ((unhide BX83).up b105)
  clear BX83
  have BX112 := hide ((unhide BX84).up b105)
  clear BX84
  have BX113 := hide ((unhide BX85).up b105)
  clear BX85
  have BX114 := hide ((unhide BX86).up b105)
  clear BX86
  have O115 := hide ((unhide O78).up b105)
  clear O78
  have Z116 := hide (show w75.heap.size < W107.heap.size from zz106)
  have BX108 := hide bx104
  clear bx104 b105 zz106
  clear x89 x90 x91 x92 x93 x94 x95 x96 x97 x98 x99 lt100 lt101 lt102 lt103
  refine (toFeed_kit f _ W107 (unhide HS41) ((unhide HR_f).up (unhide B109))).mono ?_
  rintro e w117 ⟨v118, S119, rfl, O120, L121, b122⟩
  have B123 := hide ((unhide B109).trans (b122.mono (unhide B109).size))
  clear B109
  have BU124 := hide ((unhide BU110).trans (b122.mono (unhide BU110).size))
  clear BU110
  have BX125 := hide ((unhide BX111).up b122)
  clear BX111
  have BX126 := hide ((unhide BX112).up b122)
  clear BX112
  have BX127 := hide ((unhide BX113).up b122)
  clear BX113
  have BX128 := hide ((unhide BX114).up b122)
  clear BX114
  have BX129 := hide ((unhide BX108).up b122)
  clear BX108
  have O130 := hide ((unhide O115).up b122)
  clear O115
  have Z131 := hide (show W107.heap.size ≤ w117.heap.size from b122.size)
  clear b122
  have H132 := hide (unhide O120).lt
  obtain ⟨r_f0, r_f1, r_f2, r_f3, r_f4, rfl⟩ := (unhide O120).rd.form
  obtain ⟨x133, x134, x135⟩ := (unhide BX125).three
  obtain ⟨x136, x137, x138⟩ := (unhide BX126).three
  obtain ⟨x139, x140, x141⟩ := (unhide BX127).three
  obtain ⟨x142, x143⟩ := (unhide BX128).two
  obtain ⟨x144, x145, x146⟩ := (unhide BX129).three
  have lt147 : w.heap.size < w117.heap.size := (unhide BX125).1
  have lt148 : w.heap.size + 1 < w117.heap.size := (unhide BX126).1
  have lt149 : ga_w < w117.heap.size := (unhide BX127).1
  have lt150 : gb_w < w117.heap.size := (unhide BX128).1
  have lt151 : w75.heap.size < w117.heap.size := (unhide BX129).1
  obtain ⟨bx152, b153, zz154⟩ := boxNew3 w117 (.int .i64 r_f0) (.int .i64 r_f1) (.slice r_f2 r_f3 r_f4) 46
  go_wp2_with fail
  generalize w117.alloc (.cells #[.int .i64 r_f0, .int .i64 r_f1, .slice r_f2 r_f3 r_f4] 46) = W155 at *
  have B157 := hide ((unhide B123).trans (b153.mono (unhide B123).size))
  clear B123
  have BU158 := hide ((unhide BU124).trans (b153.mono (unhide BU124).size))
  clear BU124
  have BX159 := hide ((unhide BX125).up b153)
  clear BX125
  have BX160 := hide ((unhide BX126).up b153)
  clear BX126
  have BX161 := hide ((unhide BX127).up b153)
  clear BX127
  have BX162 := hide ((unhide BX128).up b153)
  clear BX128
  have BX163 := hide ((unhide BX129).up b153)
  clear BX129
  have O164 := hide ((unhide O130).up b153)
  clear O130
  have O165 := hide ((unhide O120).up b153)
  clear O120
  have Z166 := hide (show w117.heap.size < W155.heap.size from zz154)
  have BX156 := hide bx152
  clear bx152 b153 zz154
  clear x133 x134 x135 x136 x137 x138 x139 x140 x141 x142 x143 x144 x145 x146 lt147 lt148 lt149 lt150 lt151
  refine (impl_kit d _ f _ W155 (unhide HS25) (unhide HS41) (unhide O164) (unhide O165).rd ((unhide HE).up (unhide B157))).mono ?_
  rintro e w167 ⟨v169, S170, v173, S174, rfl, O171, L172, O175, L176, AP177, b168⟩
  have B178 := hide ((unhide B157).trans (b168.mono (unhide B157).size))
  clear B157
  have BU179 := hide ((unhide BU158).trans (b168.mono (unhide BU158).size))
  clear BU158
  have BX180 := hide ((unhide BX159).up b168)
  clear BX159
  have BX181 := hide ((unhide BX160).up b168)
  clear BX160
  have BX182 := hide ((unhide BX161).up b168)
  clear BX161
  have BX183 := hide ((unhide BX162).up b168)
  clear BX162
  have BX184 := hide ((unhide BX163).up b168)
  clear BX163
  have BX185 := hide ((unhide BX156).up b168)
  clear BX156
  have O186 := hide ((unhide O164).up b168)
  clear O164
  have O187 := hide ((unhide O165).up b168)
  clear O165
  have Z188 := hide (show W155.heap.size ≤ w167.heap.size from b168.size)
  clear b168
  obtain ⟨q_g0_0, q_g0_1, q_g0_2, q_g0_3, q_g0_4, q_g0_5, q_g0_6, q_g0_7, q_g0_8, rfl⟩ := (unhide O171).rd.form
  have H189 := hide (unhide O171).lt
  obtain ⟨q_g1_0, q_g1_1, q_g1_2, q_g1_3, q_g1_4, q_g1_5, rfl⟩ := (unhide O175).rd.form
  have H190 := hide (unhide O175).lt
  obtain ⟨x191, x192, x193⟩ := (unhide BX180).three
  obtain ⟨x194, x195, x196⟩ := (unhide BX181).three
  obtain ⟨x197, x198, x199⟩ := (unhide BX182).three
  obtain ⟨x200, x201⟩ := (unhide BX183).two
  obtain ⟨x202, x203, x204⟩ := (unhide BX184).three
  obtain ⟨x205, x206, x207⟩ := (unhide BX185).three
  have lt208 : w.heap.size < w167.heap.size := (unhide BX180).1
  have lt209 : w.heap.size + 1 < w167.heap.size := (unhide BX181).1
  have lt210 : ga_w < w167.heap.size := (unhide BX182).1
  have lt211 : gb_w < w167.heap.size := (unhide BX183).1
  have lt212 : w75.heap.size < w167.heap.size := (unhide BX184).1
  have lt213 : w117.heap.size < w167.heap.size := (unhide BX185).1
  obtain ⟨bx214, b215, zz216⟩ := boxNew3 w167 (.slice q_g0_0 q_g0_1 q_g0_2) (.slice q_g0_3 q_g0_4 q_g0_5) (.slice q_g0_6 q_g0_7 q_g0_8) 36
  obtain ⟨bx218, b219, zz220⟩ := boxNew2 (w167.alloc (.cells #[.slice q_g0_0 q_g0_1 q_g0_2, .slice q_g0_3 q_g0_4 q_g0_5, .slice q_g0_6 q_g0_7 q_g0_8] 36)) (.slice q_g1_0 q_g1_1 q_g1_2) (.slice q_g1_3 q_g1_4 q_g1_5) 39
  rw [World.size_alloc] at bx218
  go_wp2_with fail
  generalize w167.alloc (.cells #[.slice q_g0_0 q_g0_1 q_g0_2, .slice q_g0_3 q_g0_4 q_g0_5, .slice q_g0_6 q_g0_7 q_g0_8] 36) = W217 at *
  have B223 := hide ((unhide B178).trans (b215.mono (unhide B178).size))
  clear B178
  have BU224 := hide ((unhide BU179).trans (b215.mono (unhide BU179).size))
  clear BU179
  have BX225 := hide ((unhide BX180).up b215)
  clear BX180
  have BX226 := hide ((unhide BX181).up b215)
  clear BX181
  have BX227 := hide ((unhide BX182).up b215)
  clear BX182
  have BX228 := hide ((unhide BX183).up b215)
  clear BX183
  have BX229 := hide ((unhide BX184).up b215)
  clear BX184
  have BX230 := hide ((unhide BX185).up b215)
  clear BX185
  have O231 := hide ((unhide O186).up b215)
  clear O186
  have O232 := hide ((unhide O187).up b215)
  clear O187
  have O233 := hide ((unhide O171).up b215)
  clear O171
  have O234 := hide ((unhide O175).up b215)
  clear O175
  have Z235 := hide (show w167.heap.size < W217.heap.size from zz216)
  have BX222 := hide bx214
  clear bx214 b215 zz216
  generalize W217.alloc (.cells #[.slice q_g1_0 q_g1_1 q_g1_2, .slice q_g1_3 q_g1_4 q_g1_5] 39) = W221 at *
  have B237 := hide ((unhide B223).trans (b219.mono (unhide B223).size))
  clear B223
  have BU238 := hide ((unhide BU224).trans (b219.mono (unhide BU224).size))
  clear BU224
  have BX239 := hide ((unhide BX225).up b219)
  clear BX225
  have BX240 := hide ((unhide BX226).up b219)
  clear BX226
  have BX241 := hide ((unhide BX227).up b219)
  clear BX227
  have BX242 := hide ((unhide BX228).up b219)
  clear BX228
  have BX243 := hide ((unhide BX229).up b219)
  clear BX229
  have BX244 := hide ((unhide BX230).up b219)
  clear BX230
  have BX245 := hide ((unhide BX222).up b219)
  clear BX222
  have O246 := hide ((unhide O231).up b219)
  clear O231
  have O247 := hide ((unhide O232).up b219)
  clear O232
  have O248 := hide ((unhide O233).up b219)
  clear O233
  have O249 := hide ((unhide O234).up b219)
  clear O234
  have Z250 := hide (show W217.heap.size < W221.heap.size from zz220)
  have BX236 := hide bx218
  clear bx218 b219 zz220
  clear x191 x192 x193 x194 x195 x196 x197 x198 x199 x200 x201 x202 x203 x204 x205 x206 x207 lt208 lt209 lt210 lt211 lt212 lt213
  refine (eqGatherF_kit (gpG d f) _ _ W221 (unhide HRS0) (unhide O248).rd ((unhide U53).up (unhide BU238))).mono ?_
  rintro e w251 ⟨rfl, b252⟩
  have B253 := hide ((unhide B237).trans (b252.mono (unhide B237).size))
  clear B237
  have BU254 := hide ((unhide BU238).trans (b252.mono (unhide BU238).size))
  clear BU238
  have BX255 := hide ((unhide BX239).up b252)
  clear BX239
  have BX256 := hide ((unhide BX240).up b252)
  clear BX240
  have BX257 := hide ((unhide BX241).up b252)
  clear BX241
  have BX258 := hide ((unhide BX242).up b252)
  clear BX242
  have BX259 := hide ((unhide BX243).up b252)
  clear BX243
  have BX260 := hide ((unhide BX244).up b252)
  clear BX244
  have BX261 := hide ((unhide BX245).up b252)
  clear BX245
  have BX262 := hide ((unhide BX236).up b252)
  clear BX236
  have O263 := hide ((unhide O246).up b252)
  clear O246
  have O264 := hide ((unhide O247).up b252)
  clear O247
  have O265 := hide ((unhide O248).up b252)
  clear O248
  have O266 := hide ((unhide O249).up b252)
  clear O249
  have Z267 := hide (show W221.heap.size ≤ w251.heap.size from b252.size)
  clear b252
  obtain ⟨x268, x269, x270⟩ := (unhide BX255).three
  obtain ⟨x271, x272, x273⟩ := (unhide BX256).three
  obtain ⟨x274, x275, x276⟩ := (unhide BX257).three
  obtain ⟨x277, x278⟩ := (unhide BX258).two
  obtain ⟨x279, x280, x281⟩ := (unhide BX259).three
  obtain ⟨x282, x283, x284⟩ := (unhide BX260).three
  obtain ⟨x285, x286, x287⟩ := (unhide BX261).three
  obtain ⟨x288, x289⟩ := (unhide BX262).two
  go_wp2_with fail
  clear x268 x269 x270 x271 x272 x273 x274 x275 x276 x277 x278 x279 x280 x281 x282 x283 x284 x285 x286 x287 x288 x289
  refine (eqShow_kit (gpS d f) _ _ w251 (unhide HRS1) (unhide O266).rd ((unhide U54).up (unhide BU254))).mono ?_
  rintro e w290 ⟨rfl, b291⟩
  have B292 := hide ((unhide B253).trans (b291.mono (unhide B253).size))
  clear B253
  have BU293 := hide ((unhide BU254).trans (b291.mono (unhide BU254).size))
  clear BU254
  have BX294 := hide ((unhide BX255).up b291)
  clear BX255
  have BX295 := hide ((unhide BX256).up b291)
  clear BX256
  have BX296 := hide ((unhide BX257).up b291)
  clear BX257
  have BX297 := hide ((unhide BX258).up b291)
  clear BX258
  have BX298 := hide ((unhide BX259).up b291)
  clear BX259
  have BX299 := hide ((unhide BX260).up b291)
  clear BX260
  have BX300 := hide ((unhide BX261).up b291)
  clear BX261
  have BX301 := hide ((unhide BX262).up b291)
  clear BX262
  have O302 := hide ((unhide O263).up b291)
  clear O263
  have O303 := hide ((unhide O264).up b291)
  clear O264
  have O304 := hide ((unhide O265).up b291)
  clear O265
  have O305 := hide ((unhide O266).up b291)
  clear O266
  have Z306 := hide (show w251.heap.size ≤ w290.heap.size from b291.size)
  clear b291
  obtain ⟨x307, x308, x309⟩ := (unhide BX294).three
  obtain ⟨x310, x311, x312⟩ := (unhide BX295).three
  obtain ⟨x313, x314, x315⟩ := (unhide BX296).three
  obtain ⟨x316, x317⟩ := (unhide BX297).two
  obtain ⟨x318, x319, x320⟩ := (unhide BX298).three
  obtain ⟨x321, x322, x323⟩ := (unhide BX299).three
  obtain ⟨x324, x325, x326⟩ := (unhide BX300).three
  obtain ⟨x327, x328⟩ := (unhide BX301).two
  go_wp2_with fail
  have KP329 := hide (show ∀ X : World, Below w290.heap.size w290 X → (fun (X : World) => (X.cell? ⟨w.heap.size, 0, none⟩ = some (.slice p_d0 p_d1 p_d2) ∧ X.cell? ⟨w.heap.size, 1, none⟩ = some (.slice p_d3 p_d4 p_d5) ∧ X.cell? ⟨w.heap.size, 2, none⟩ = some (.slice p_d6 p_d7 p_d8)) ∧ (X.cell? ⟨w75.heap.size, 0, none⟩ = some (.slice r_d0 r_d1 r_d2) ∧ X.cell? ⟨w75.heap.size, 1, none⟩ = some (.slice r_d3 r_d4 r_d5) ∧ X.cell? ⟨w75.heap.size, 2, none⟩ = some (.slice r_d6 r_d7 r_d8)) ∧ Hid (Below w290.heap.size w290 X)) X from fun X b => ⟨((unhide BX294).up b).three, ((unhide BX298).up b).three, hide b⟩)
  have BD330 := hide ((Below.refl w290.heap.size w290).drew)
  go_region_held3 (fun (X : World) => (X.cell? ⟨w.heap.size, 0, none⟩ = some (.slice p_d0 p_d1 p_d2) ∧ X.cell? ⟨w.heap.size, 1, none⟩ = some (.slice p_d3 p_d4 p_d5) ∧ X.cell? ⟨w.heap.size, 2, none⟩ = some (.slice p_d6 p_d7 p_d8)) ∧ (X.cell? ⟨w75.heap.size, 0, none⟩ = some (.slice r_d0 r_d1 r_d2) ∧ X.cell? ⟨w75.heap.size, 1, none⟩ = some (.slice r_d3 r_d4 r_d5) ∧ X.cell? ⟨w75.heap.size, 2, none⟩ = some (.slice r_d6 r_d7 r_d8)) ∧ Hid (Below w290.heap.size w290 X)) ((refine unhide KP329 _ ?_; exact unhide (by assumption)))
   (first
    | (go_at_call 10; have _t := BB337; refine (eqGatherP_kit d _ _ _ (unhide HS25) ((unhide O302).up (unhide BB337)).rd (unhide O334).rd).mono ?_; rintro e w338 ⟨rfl, b339⟩; have BB340 := hide ((unhide BB337).trans (b339.mono (unhide BB337).size)); clear b339)
    | (go_at_call 7; refine (toGatherP_kit d _ _ (unhide HS25) ((unhide HR_d).up ((unhide B292).trans ((unhide BD330).mono (unhide B292).size)))).mono ?_; rintro e w331 ⟨v332, S333, rfl, O334, L335, b336⟩; have BB337 := hide ((unhide BD330).trans (b336.mono (unhide BD330).size)); clear b336)
    | fail)
  clear x307 x308 x309 x310 x311 x312 x313 x314 x315 x316 x317 x318 x319 x320 x321 x322 x323 x324 x325 x326 x327 x328
  all_goals
   try clear _t
   have B341 := hide ((unhide B292).trans ((unhide BB340).mono (unhide B292).size))
   clear B292
   have BU342 := hide ((unhide BU293).trans ((unhide BB340).mono (unhide BU293).size))
   clear BU293
   have BX343 := hide ((unhide BX294).up (unhide BB340))
   clear BX294
   have BX344 := hide ((unhide BX295).up (unhide BB340))
   clear BX295
   have BX345 := hide ((unhide BX296).up (unhide BB340))
   clear BX296
   have BX346 := hide ((unhide BX297).up (unhide BB340))
   clear BX297
   have BX347 := hide ((unhide BX298).up (unhide BB340))
   clear BX298
   have BX348 := hide ((unhide BX299).up (unhide BB340))
   clear BX299
   have BX349 := hide ((unhide BX300).up (unhide BB340))
   clear BX300
   have BX350 := hide ((unhide BX301).up (unhide BB340))
   clear BX301
   have O351 := hide ((unhide O302).up (unhide BB340))
   clear O302
   have O352 := hide ((unhide O303).up (unhide BB340))
   clear O303
   have O353 := hide ((unhide O304).up (unhide BB340))
   clear O304
   have O354 := hide ((unhide O305).up (unhide BB340))
   clear O305
   have Z355 := hide (show w290.heap.size ≤ w338.heap.size from (unhide BB340).size)
   clear BB340 BB337 KP329 BD330 O334 L335
   obtain ⟨x356, x357, x358⟩ := (unhide BX343).three
   obtain ⟨x359, x360, x361⟩ := (unhide BX344).three
   obtain ⟨x362, x363, x364⟩ := (unhide BX345).three
   obtain ⟨x365, x366⟩ := (unhide BX346).two
   obtain ⟨x367, x368, x369⟩ := (unhide BX347).three
   obtain ⟨x370, x371, x372⟩ := (unhide BX348).three
   obtain ⟨x373, x374, x375⟩ := (unhide BX349).three
   obtain ⟨x376, x377⟩ := (unhide BX350).two
   go_wp2_with fail
   have KP378 := hide (show ∀ X : World, Below w338.heap.size w338 X → (fun (X : World) => (X.cell? ⟨w.heap.size + 1, 0, none⟩ = some (.int .i64 p_f0) ∧ X.cell? ⟨w.heap.size + 1, 1, none⟩ = some (.int .i64 p_f1) ∧ X.cell? ⟨w.heap.size + 1, 2, none⟩ = some (.slice p_f2 p_f3 p_f4)) ∧ (X.cell? ⟨w117.heap.size, 0, none⟩ = some (.int .i64 r_f0) ∧ X.cell? ⟨w117.heap.size, 1, none⟩ = some (.int .i64 r_f1) ∧ X.cell? ⟨w117.heap.size, 2, none⟩ = some (.slice r_f2 r_f3 r_f4)) ∧ Hid (Below w338.heap.size w338 X)) X from fun X b => ⟨((unhide BX344).up b).three, ((unhide BX348).up b).three, hide b⟩)
   have BD379 := hide ((Below.refl w338.heap.size w338).drew)
   go_region_held3 (fun (X : World) => (X.cell? ⟨w.heap.size + 1, 0, none⟩ = some (.int .i64 p_f0) ∧ X.cell? ⟨w.heap.size + 1, 1, none⟩ = some (.int .i64 p_f1) ∧ X.cell? ⟨w.heap.size + 1, 2, none⟩ = some (.slice p_f2 p_f3 p_f4)) ∧ (X.cell? ⟨w117.heap.size, 0, none⟩ = some (.int .i64 r_f0) ∧ X.cell? ⟨w117.heap.size, 1, none⟩ = some (.int .i64 r_f1) ∧ X.cell? ⟨w117.heap.size, 2, none⟩ = some (.slice r_f2 r_f3 r_f4)) ∧ Hid (Below w338.heap.size w338 X)) ((refine unhide KP378 _ ?_; exact unhide (by assumption)))
    (first
     | (go_at_call 12; have _t := BB386; refine (eqFeed_kit f _ _ _ (unhide HS41) ((unhide O352).up (unhide BB386)).rd (unhide O383).rd).mono ?_; rintro e w387 ⟨rfl, b388⟩; have BB389 := hide ((unhide BB386).trans (b388.mono (unhide BB386).size)); clear b388)
     | (go_at_call 8; refine (toFeed_kit f _ _ (unhide HS41) ((unhide HR_f).up ((unhide B341).trans ((unhide BD379).mono (unhide B341).size)))).mono ?_; rintro e w380 ⟨v381, S382, rfl, O383, L384, b385⟩; have BB386 := hide ((unhide BD379).trans (b385.mono (unhide BD379).size)); clear b385)
     | fail)
   clear x356 x357 x358 x359 x360 x361 x362 x363 x364 x365 x366 x367 x368 x369 x370 x371 x372 x373 x374 x375 x376 x377
   all_goals
    try clear _t
    have B390 := hide ((unhide B341).trans ((unhide BB389).mono (unhide B341).size))
    clear B341
    have BU391 := hide ((unhide BU342).trans ((unhide BB389).mono (unhide BU342).size))
    clear BU342
    have BX392 := hide ((unhide BX343).up (unhide BB389))
    clear BX343
    have BX393 := hide ((unhide BX344).up (unhide BB389))
    clear BX344
    have BX394 := hide ((unhide BX345).up (unhide BB389))
    clear BX345
    have BX395 := hide ((unhide BX346).up (unhide BB389))
    clear BX346
    have BX396 := hide ((unhide BX347).up (unhide BB389))
    clear BX347
    have BX397 := hide ((unhide BX348).up (unhide BB389))
    clear BX348
    have BX398 := hide ((unhide BX349).up (unhide BB389))
    clear BX349
    have BX399 := hide ((unhide BX350).up (unhide BB389))
    clear BX350
    have O400 := hide ((unhide O351).up (unhide BB389))
    clear O351
    have O401 := hide ((unhide O352).up (unhide BB389))
    clear O352
    have O402 := hide ((unhide O353).up (unhide BB389))
    clear O353
    have O403 := hide ((unhide O354).up (unhide BB389))
    clear O354
    have Z404 := hide (show w338.heap.size ≤ w387.heap.size from (unhide BB389).size)
    clear BB389 BB386 KP378 BD379 O383 L384
    obtain ⟨x405, x406, x407⟩ := (unhide BX392).three
    obtain ⟨x408, x409, x410⟩ := (unhide BX393).three
    obtain ⟨x411, x412, x413⟩ := (unhide BX394).three
    obtain ⟨x414, x415⟩ := (unhide BX395).two
    obtain ⟨x416, x417, x418⟩ := (unhide BX396).three
    obtain ⟨x419, x420, x421⟩ := (unhide BX397).three
    obtain ⟨x422, x423, x424⟩ := (unhide BX398).three
    obtain ⟨x425, x426⟩ := (unhide BX399).two
    go_wp2_with fail
    clear x405 x406 x407 x408 x409 x410 x411 x412 x413 x414 x415 x416 x417 x418 x419 x420 x421 x422 x423 x424 x425 x426
    refine (markGatherP_kit S77 (d) _ w387 (1) N_d (1) (by omega) (unhide HN_d) (by omega) (unhide HS25) (unhide O400)).mono ?_
    rintro e w427 ⟨rfl, P428⟩
    have t429 := (unhide P428).2
    have B430 := hide ((unhide B390).trans (t429.below (unhide B390).size (fun k hk => by have z := unhide L79 k hk; have y := unhide H88 k hk; have z0 := unhide Z10; have z1 := unhide Z15; have z2 := unhide Z24; have z3 := unhide Z40; have z4 := unhide Z60; have z5 := unhide Z61; have z6 := unhide Z62; have z7 := unhide Z87; have z8 := unhide Z116; have z9 := unhide Z131; have z10 := unhide Z166; have z11 := unhide Z188; have z12 := unhide Z235; have z13 := unhide Z250; have z14 := unhide Z267; have z15 := unhide Z306; have z16 := unhide Z355; have z17 := unhide Z404; omega)))
    clear B390
    have BU431 := hide ((unhide BU391).trans (t429.below (unhide BU391).size (fun k hk => by have z := unhide L79 k hk; have y := unhide H88 k hk; have z0 := unhide Z10; have z1 := unhide Z15; have z2 := unhide Z24; have z3 := unhide Z40; have z4 := unhide Z60; have z5 := unhide Z61; have z6 := unhide Z62; have z7 := unhide Z87; have z8 := unhide Z116; have z9 := unhide Z131; have z10 := unhide Z166; have z11 := unhide Z188; have z12 := unhide Z235; have z13 := unhide Z250; have z14 := unhide Z267; have z15 := unhide Z306; have z16 := unhide Z355; have z17 := unhide Z404; omega)))
    clear BU391
    have BX432 := hide ((unhide BX392).turn t429 (fun hk => by have z := unhide L79 _ hk; have y := unhide H88 _ hk; have z0 := unhide Z10; have z1 := unhide Z15; have z2 := unhide Z24; have z3 := unhide Z40; have z4 := unhide Z60; have z5 := unhide Z61; have z6 := unhide Z62; have z7 := unhide Z87; have z8 := unhide Z116; have z9 := unhide Z131; have z10 := unhide Z166; have z11 := unhide Z188; have z12 := unhide Z235; have z13 := unhide Z250; have z14 := unhide Z267; have z15 := unhide Z306; have z16 := unhide Z355; have z17 := unhide Z404; omega))
    clear BX392
    have BX433 := hide ((unhide BX393).turn t429 (fun hk => by have z := unhide L79 _ hk; have y := unhide H88 _ hk; have z0 := unhide Z10; have z1 := unhide Z15; have z2 := unhide Z24; have z3 := unhide Z40; have z4 := unhide Z60; have z5 := unhide Z61; have z6 := unhide Z62; have z7 := unhide Z87; have z8 := unhide Z116; have z9 := unhide Z131; have z10 := unhide Z166; have z11 := unhide Z188; have z12 := unhide Z235; have z13 := unhide Z250; have z14 := unhide Z267; have z15 := unhide Z306; have z16 := unhide Z355; have z17 := unhide Z404; omega))
    clear BX393
    have BX434 := hide ((unhide BX394).turn t429 (fun hk => by have z := unhide L79 _ hk; have y := unhide H88 _ hk; have z0 := unhide Z10; have z1 := unhide Z15; have z2 := unhide Z24; have z3 := unhide Z40; have z4 := unhide Z60; have z5 := unhide Z61; have z6 := unhide Z62; have z7 := unhide Z87; have z8 := unhide Z116; have z9 := unhide Z131; have z10 := unhide Z166; have z11 := unhide Z188; have z12 := unhide Z235; have z13 := unhide Z250; have z14 := unhide Z267; have z15 := unhide Z306; have z16 := unhide Z355; have z17 := unhide Z404; omega))
    clear BX394
    have BX435 := hide ((unhide BX395).turn t429 (fun hk => by have z := unhide L79 _ hk; have y := unhide H88 _ hk; have z0 := unhide Z10; have z1 := unhide Z15; have z2 := unhide Z24; have z3 := unhide Z40; have z4 := unhide Z60; have z5 := unhide Z61; have z6 := unhide Z62; have z7 := unhide Z87; have z8 := unhide Z116; have z9 := unhide Z131; have z10 := unhide Z166; have z11 := unhide Z188; have z12 := unhide Z235; have z13 := unhide Z250; have z14 := unhide Z267; have z15 := unhide Z306; have z16 := unhide Z355; have z17 := unhide Z404; omega))
    clear BX395
    have BX436 := hide ((unhide BX396).turn t429 (fun hk => by have z := unhide L79 _ hk; have y := unhide H88 _ hk; have z0 := unhide Z10; have z1 := unhide Z15; have z2 := unhide Z24; have z3 := unhide Z40; have z4 := unhide Z60; have z5 := unhide Z61; have z6 := unhide Z62; have z7 := unhide Z87; have z8 := unhide Z116; have z9 := unhide Z131; have z10 := unhide Z166; have z11 := unhide Z188; have z12 := unhide Z235; have z13 := unhide Z250; have z14 := unhide Z267; have z15 := unhide Z306; have z16 := unhide Z355; have z17 := unhide Z404; omega))
    clear BX396
    have BX437 := hide ((unhide BX397).turn t429 (fun hk => by have z := unhide L79 _ hk; have y := unhide H88 _ hk; have z0 := unhide Z10; have z1 := unhide Z15; have z2 := unhide Z24; have z3 := unhide Z40; have z4 := unhide Z60; have z5 := unhide Z61; have z6 := unhide Z62; have z7 := unhide Z87; have z8 := unhide Z116; have z9 := unhide Z131; have z10 := unhide Z166; have z11 := unhide Z188; have z12 := unhide Z235; have z13 := unhide Z250; have z14 := unhide Z267; have z15 := unhide Z306; have z16 := unhide Z355; have z17 := unhide Z404; omega))
    clear BX397
    have BX438 := hide ((unhide BX398).turn t429 (fun hk => by have z := unhide L79 _ hk; have y := unhide H88 _ hk; have z0 := unhide Z10; have z1 := unhide Z15; have z2 := unhide Z24; have z3 := unhide Z40; have z4 := unhide Z60; have z5 := unhide Z61; have z6 := unhide Z62; have z7 := unhide Z87; have z8 := unhide Z116; have z9 := unhide Z131; have z10 := unhide Z166; have z11 := unhide Z188; have z12 := unhide Z235; have z13 := unhide Z250; have z14 := unhide Z267; have z15 := unhide Z306; have z16 := unhide Z355; have z17 := unhide Z404; omega))
    clear BX398
    have BX439 := hide ((unhide BX399).turn t429 (fun hk => by have z := unhide L79 _ hk; have y := unhide H88 _ hk; have z0 := unhide Z10; have z1 := unhide Z15; have z2 := unhide Z24; have z3 := unhide Z40; have z4 := unhide Z60; have z5 := unhide Z61; have z6 := unhide Z62; have z7 := unhide Z87; have z8 := unhide Z116; have z9 := unhide Z131; have z10 := unhide Z166; have z11 := unhide Z188; have z12 := unhide Z235; have z13 := unhide Z250; have z14 := unhide Z267; have z15 := unhide Z306; have z16 := unhide Z355; have z17 := unhide Z404; omega))
    clear BX399
    have O440 := hide ((unhide O401).turn t429 (fun k hk hm => by have z := unhide L79 k hm; have y := unhide H88 k hm; have u := unhide L121 k hk; have v := unhide H132 k hk; have z0 := unhide Z10; have z1 := unhide Z15; have z2 := unhide Z24; have z3 := unhide Z40; have z4 := unhide Z60; have z5 := unhide Z61; have z6 := unhide Z62; have z7 := unhide Z87; have z8 := unhide Z116; have z9 := unhide Z131; have z10 := unhide Z166; have z11 := unhide Z188; have z12 := unhide Z235; have z13 := unhide Z250; have z14 := unhide Z267; have z15 := unhide Z306; have z16 := unhide Z355; have z17 := unhide Z404; omega))
    clear O401
    have O441 := hide ((unhide O402).turn t429 (fun k hk hm => by have z := unhide L79 k hm; have y := unhide H88 k hm; have u := unhide L172 k hk; have v := unhide H189 k hk; have z0 := unhide Z10; have z1 := unhide Z15; have z2 := unhide Z24; have z3 := unhide Z40; have z4 := unhide Z60; have z5 := unhide Z61; have z6 := unhide Z62; have z7 := unhide Z87; have z8 := unhide Z116; have z9 := unhide Z131; have z10 := unhide Z166; have z11 := unhide Z188; have z12 := unhide Z235; have z13 := unhide Z250; have z14 := unhide Z267; have z15 := unhide Z306; have z16 := unhide Z355; have z17 := unhide Z404; omega))
    clear O402
    have O442 := hide ((unhide O403).turn t429 (fun k hk hm => by have z := unhide L79 k hm; have y := unhide H88 k hm; have u := unhide L176 k hk; have v := unhide H190 k hk; have z0 := unhide Z10; have z1 := unhide Z15; have z2 := unhide Z24; have z3 := unhide Z40; have z4 := unhide Z60; have z5 := unhide Z61; have z6 := unhide Z62; have z7 := unhide Z87; have z8 := unhide Z116; have z9 := unhide Z131; have z10 := unhide Z166; have z11 := unhide Z188; have z12 := unhide Z235; have z13 := unhide Z250; have z14 := unhide Z267; have z15 := unhide Z306; have z16 := unhide Z355; have z17 := unhide Z404; omega))
    clear O403
    have Z443 := hide (show w387.heap.size ≤ w427.heap.size from t429.size)
    have O444 := hide (unhide P428).1
    clear P428 t429
    have nf444 : ¬ (1 + (N_d : Int)) < 0 := by omega
    obtain ⟨x445, x446, x447⟩ := (unhide BX432).three
    obtain ⟨x448, x449, x450⟩ := (unhide BX433).three
    obtain ⟨x451, x452, x453⟩ := (unhide BX434).three
    obtain ⟨x454, x455⟩ := (unhide BX435).two
    obtain ⟨x456, x457, x458⟩ := (unhide BX436).three
    obtain ⟨x459, x460, x461⟩ := (unhide BX437).three
    obtain ⟨x462, x463, x464⟩ := (unhide BX438).three
    obtain ⟨x465, x466⟩ := (unhide BX439).two
    go_wp2_with fail
    clear x445 x446 x447 x448 x449 x450 x451 x452 x453 x454 x455 x456 x457 x458 x459 x460 x461 x462 x463 x464 x465 x466
    refine (markFeed_kit S119 (f) _ w427 (1 + N_d) N_f (1 + (N_d : Int)) (by omega) (unhide HN_f) (by omega) (unhide HS41) (unhide O440)).mono ?_
    rintro e w467 ⟨rfl, P468⟩
    have t469 := (unhide P468).2
    have B470 := hide ((unhide B430).trans (t469.below (unhide B430).size (fun k hk => by have z := unhide L121 k hk; have y := unhide H132 k hk; have z0 := unhide Z10; have z1 := unhide Z15; have z2 := unhide Z24; have z3 := unhide Z40; have z4 := unhide Z60; have z5 := unhide Z61; have z6 := unhide Z62; have z7 := unhide Z87; have z8 := unhide Z116; have z9 := unhide Z131; have z10 := unhide Z166; have z11 := unhide Z188; have z12 := unhide Z235; have z13 := unhide Z250; have z14 := unhide Z267; have z15 := unhide Z306; have z16 := unhide Z355; have z17 := unhide Z404; have z18 := unhide Z443; omega)))
    clear B430
    have BU471 := hide ((unhide BU431).trans (t469.below (unhide BU431).size (fun k hk => by have z := unhide L121 k hk; have y := unhide H132 k hk; have z0 := unhide Z10; have z1 := unhide Z15; have z2 := unhide Z24; have z3 := unhide Z40; have z4 := unhide Z60; have z5 := unhide Z61; have z6 := unhide Z62; have z7 := unhide Z87; have z8 := unhide Z116; have z9 := unhide Z131; have z10 := unhide Z166; have z11 := unhide Z188; have z12 := unhide Z235; have z13 := unhide Z250; have z14 := unhide Z267; have z15 := unhide Z306; have z16 := unhide Z355; have z17 := unhide Z404; have z18 := unhide Z443; omega)))
    clear BU431
    have BX472 := hide ((unhide BX432).turn t469 (fun hk => by have z := unhide L121 _ hk; have y := unhide H132 _ hk; have z0 := unhide Z10; have z1 := unhide Z15; have z2 := unhide Z24; have z3 := unhide Z40; have z4 := unhide Z60; have z5 := unhide Z61; have z6 := unhide Z62; have z7 := unhide Z87; have z8 := unhide Z116; have z9 := unhide Z131; have z10 := unhide Z166; have z11 := unhide Z188; have z12 := unhide Z235; have z13 := unhide Z250; have z14 := unhide Z267; have z15 := unhide Z306; have z16 := unhide Z355; have z17 := unhide Z404; have z18 := unhide Z443; omega))
    clear BX432
    have BX473 := hide ((unhide BX433).turn t469 (fun hk => by have z := unhide L121 _ hk; have y := unhide H132 _ hk; have z0 := unhide Z10; have z1 := unhide Z15; have z2 := unhide Z24; have z3 := unhide Z40; have z4 := unhide Z60; have z5 := unhide Z61; have z6 := unhide Z62; have z7 := unhide Z87; have z8 := unhide Z116; have z9 := unhide Z131; have z10 := unhide Z166; have z11 := unhide Z188; have z12 := unhide Z235; have z13 := unhide Z250; have z14 := unhide Z267; have z15 := unhide Z306; have z16 := unhide Z355; have z17 := unhide Z404; have z18 := unhide Z443; omega))
    clear BX433
    have BX474 := hide ((unhide BX434).turn t469 (fun hk => by have z := unhide L121 _ hk; have y := unhide H132 _ hk; have z0 := unhide Z10; have z1 := unhide Z15; have z2 := unhide Z24; have z3 := unhide Z40; have z4 := unhide Z60; have z5 := unhide Z61; have z6 := unhide Z62; have z7 := unhide Z87; have z8 := unhide Z116; have z9 := unhide Z131; have z10 := unhide Z166; have z11 := unhide Z188; have z12 := unhide Z235; have z13 := unhide Z250; have z14 := unhide Z267; have z15 := unhide Z306; have z16 := unhide Z355; have z17 := unhide Z404; have z18 := unhide Z443; omega))
    clear BX434
    have BX475 := hide ((unhide BX435).turn t469 (fun hk => by have z := unhide L121 _ hk; have y := unhide H132 _ hk; have z0 := unhide Z10; have z1 := unhide Z15; have z2 := unhide Z24; have z3 := unhide Z40; have z4 := unhide Z60; have z5 := unhide Z61; have z6 := unhide Z62; have z7 := unhide Z87; have z8 := unhide Z116; have z9 := unhide Z131; have z10 := unhide Z166; have z11 := unhide Z188; have z12 := unhide Z235; have z13 := unhide Z250; have z14 := unhide Z267; have z15 := unhide Z306; have z16 := unhide Z355; have z17 := unhide Z404; have z18 := unhide Z443; omega))
    clear BX435
    have BX476 := hide ((unhide BX436).turn t469 (fun hk => by have z := unhide L121 _ hk; have y := unhide H132 _ hk; have z0 := unhide Z10; have z1 := unhide Z15; have z2 := unhide Z24; have z3 := unhide Z40; have z4 := unhide Z60; have z5 := unhide Z61; have z6 := unhide Z62; have z7 := unhide Z87; have z8 := unhide Z116; have z9 := unhide Z131; have z10 := unhide Z166; have z11 := unhide Z188; have z12 := unhide Z235; have z13 := unhide Z250; have z14 := unhide Z267; have z15 := unhide Z306; have z16 := unhide Z355; have z17 := unhide Z404; have z18 := unhide Z443; omega))
    clear BX436
    have BX477 := hide ((unhide BX437).turn t469 (fun hk => by have z := unhide L121 _ hk; have y := unhide H132 _ hk; have z0 := unhide Z10; have z1 := unhide Z15; have z2 := unhide Z24; have z3 := unhide Z40; have z4 := unhide Z60; have z5 := unhide Z61; have z6 := unhide Z62; have z7 := unhide Z87; have z8 := unhide Z116; have z9 := unhide Z131; have z10 := unhide Z166; have z11 := unhide Z188; have z12 := unhide Z235; have z13 := unhide Z250; have z14 := unhide Z267; have z15 := unhide Z306; have z16 := unhide Z355; have z17 := unhide Z404; have z18 := unhide Z443; omega))
    clear BX437
    have BX478 := hide ((unhide BX438).turn t469 (fun hk => by have z := unhide L121 _ hk; have y := unhide H132 _ hk; have z0 := unhide Z10; have z1 := unhide Z15; have z2 := unhide Z24; have z3 := unhide Z40; have z4 := unhide Z60; have z5 := unhide Z61; have z6 := unhide Z62; have z7 := unhide Z87; have z8 := unhide Z116; have z9 := unhide Z131; have z10 := unhide Z166; have z11 := unhide Z188; have z12 := unhide Z235; have z13 := unhide Z250; have z14 := unhide Z267; have z15 := unhide Z306; have z16 := unhide Z355; have z17 := unhide Z404; have z18 := unhide Z443; omega))
    clear BX438
    have BX479 := hide ((unhide BX439).turn t469 (fun hk => by have z := unhide L121 _ hk; have y := unhide H132 _ hk; have z0 := unhide Z10; have z1 := unhide Z15; have z2 := unhide Z24; have z3 := unhide Z40; have z4 := unhide Z60; have z5 := unhide Z61; have z6 := unhide Z62; have z7 := unhide Z87; have z8 := unhide Z116; have z9 := unhide Z131; have z10 := unhide Z166; have z11 := unhide Z188; have z12 := unhide Z235; have z13 := unhide Z250; have z14 := unhide Z267; have z15 := unhide Z306; have z16 := unhide Z355; have z17 := unhide Z404; have z18 := unhide Z443; omega))
    clear BX439
    have O480 := hide ((unhide O444).turn t469 (fun k hk hm => by have z := unhide L121 k hm; have y := unhide H132 k hm; have u := unhide L79 k hk; have v := unhide H88 k hk; have z0 := unhide Z10; have z1 := unhide Z15; have z2 := unhide Z24; have z3 := unhide Z40; have z4 := unhide Z60; have z5 := unhide Z61; have z6 := unhide Z62; have z7 := unhide Z87; have z8 := unhide Z116; have z9 := unhide Z131; have z10 := unhide Z166; have z11 := unhide Z188; have z12 := unhide Z235; have z13 := unhide Z250; have z14 := unhide Z267; have z15 := unhide Z306; have z16 := unhide Z355; have z17 := unhide Z404; have z18 := unhide Z443; omega))
    clear O444
    have O481 := hide ((unhide O441).turn t469 (fun k hk hm => by have z := unhide L121 k hm; have y := unhide H132 k hm; have u := unhide L172 k hk; have v := unhide H189 k hk; have z0 := unhide Z10; have z1 := unhide Z15; have z2 := unhide Z24; have z3 := unhide Z40; have z4 := unhide Z60; have z5 := unhide Z61; have z6 := unhide Z62; have z7 := unhide Z87; have z8 := unhide Z116; have z9 := unhide Z131; have z10 := unhide Z166; have z11 := unhide Z188; have z12 := unhide Z235; have z13 := unhide Z250; have z14 := unhide Z267; have z15 := unhide Z306; have z16 := unhide Z355; have z17 := unhide Z404; have z18 := unhide Z443; omega))
    clear O441
    have O482 := hide ((unhide O442).turn t469 (fun k hk hm => by have z := unhide L121 k hm; have y := unhide H132 k hm; have u := unhide L176 k hk; have v := unhide H190 k hk; have z0 := unhide Z10; have z1 := unhide Z15; have z2 := unhide Z24; have z3 := unhide Z40; have z4 := unhide Z60; have z5 := unhide Z61; have z6 := unhide Z62; have z7 := unhide Z87; have z8 := unhide Z116; have z9 := unhide Z131; have z10 := unhide Z166; have z11 := unhide Z188; have z12 := unhide Z235; have z13 := unhide Z250; have z14 := unhide Z267; have z15 := unhide Z306; have z16 := unhide Z355; have z17 := unhide Z404; have z18 := unhide Z443; omega))
    clear O442
    have Z483 := hide (show w427.heap.size ≤ w467.heap.size from t469.size)
    have O484 := hide (unhide P468).1
    clear P468 t469
    have nf484 : ¬ (1 + (N_d : Int) + (N_f : Int)) < 0 := by omega
    obtain ⟨x485, x486, x487⟩ := (unhide BX472).three
    obtain ⟨x488, x489, x490⟩ := (unhide BX473).three
    obtain ⟨x491, x492, x493⟩ := (unhide BX474).three
    obtain ⟨x494, x495⟩ := (unhide BX475).two
    obtain ⟨x496, x497, x498⟩ := (unhide BX476).three
    obtain ⟨x499, x500, x501⟩ := (unhide BX477).three
    obtain ⟨x502, x503, x504⟩ := (unhide BX478).three
    obtain ⟨x505, x506⟩ := (unhide BX479).two
    go_wp2_with fail
    clear x485 x486 x487 x488 x489 x490 x491 x492 x493 x494 x495 x496 x497 x498 x499 x500 x501 x502 x503 x504 x505 x506
    refine (eqGatherF_kit (gpG d f) _ _ w467 (unhide HRS0) (unhide O481).rd ((unhide U53).up (unhide BU471))).mono ?_
    rintro e w507 ⟨rfl, b508⟩
    have B509 := hide ((unhide B470).trans (b508.mono (unhide B470).size))
    clear B470
    have BU510 := hide ((unhide BU471).trans (b508.mono (unhide BU471).size))
    clear BU471
    have BX511 := hide ((unhide BX472).up b508)
    clear BX472
    have BX512 := hide ((unhide BX473).up b508)
    clear BX473
    have BX513 := hide ((unhide BX474).up b508)
    clear BX474
    have BX514 := hide ((unhide BX475).up b508)
    clear BX475
    have BX515 := hide ((unhide BX476).up b508)
    clear BX476
    have BX516 := hide ((unhide BX477).up b508)
    clear BX477
    have BX517 := hide ((unhide BX478).up b508)
    clear BX478
    have BX518 := hide ((unhide BX479).up b508)
    clear BX479
    have O519 := hide ((unhide O480).up b508)
    clear O480
    have O520 := hide ((unhide O484).up b508)
    clear O484
    have O521 := hide ((unhide O481).up b508)
    clear O481
    have O522 := hide ((unhide O482).up b508)
    clear O482
    have Z523 := hide (show w467.heap.size ≤ w507.heap.size from b508.size)
    clear b508
    obtain ⟨x524, x525, x526⟩ := (unhide BX511).three
    obtain ⟨x527, x528, x529⟩ := (unhide BX512).three
    obtain ⟨x530, x531, x532⟩ := (unhide BX513).three
    obtain ⟨x533, x534⟩ := (unhide BX514).two
    obtain ⟨x535, x536, x537⟩ := (unhide BX515).three
    obtain ⟨x538, x539, x540⟩ := (unhide BX516).three
    obtain ⟨x541, x542, x543⟩ := (unhide BX517).three
    obtain ⟨x544, x545⟩ := (unhide BX518).two
    go_wp2_with fail
    clear x524 x525 x526 x527 x528 x529 x530 x531 x532 x533 x534 x535 x536 x537 x538 x539 x540 x541 x542 x543 x544 x545
    refine (eqShow_kit (gpS d f) _ _ w507 (unhide HRS1) (unhide O522).rd ((unhide U54).up (unhide BU510))).mono ?_
    rintro e w546 ⟨rfl, b547⟩
    have B548 := hide ((unhide B509).trans (b547.mono (unhide B509).size))
    clear B509
    have BU549 := hide ((unhide BU510).trans (b547.mono (unhide BU510).size))
    clear BU510
    have BX550 := hide ((unhide BX511).up b547)
    clear BX511
    have BX551 := hide ((unhide BX512).up b547)
    clear BX512
    have BX552 := hide ((unhide BX513).up b547)
    clear BX513
    have BX553 := hide ((unhide BX514).up b547)
    clear BX514
    have BX554 := hide ((unhide BX515).up b547)
    clear BX515
    have BX555 := hide ((unhide BX516).up b547)
    clear BX516
    have BX556 := hide ((unhide BX517).up b547)
    clear BX517
    have BX557 := hide ((unhide BX518).up b547)
    clear BX518
    have O558 := hide ((unhide O519).up b547)
    clear O519
    have O559 := hide ((unhide O520).up b547)
    clear O520
    have O560 := hide ((unhide O521).up b547)
    clear O521
    have O561 := hide ((unhide O522).up b547)
    clear O522
    have Z562 := hide (show w507.heap.size ≤ w546.heap.size from b547.size)
    clear b547
    obtain ⟨x563, x564, x565⟩ := (unhide BX550).three
    obtain ⟨x566, x567, x568⟩ := (unhide BX551).three
    obtain ⟨x569, x570, x571⟩ := (unhide BX552).three
    obtain ⟨x572, x573⟩ := (unhide BX553).two
    obtain ⟨x574, x575, x576⟩ := (unhide BX554).three
    obtain ⟨x577, x578, x579⟩ := (unhide BX555).three
    obtain ⟨x580, x581, x582⟩ := (unhide BX556).three
    obtain ⟨x583, x584⟩ := (unhide BX557).two
    go_wp2_with fail
    clear x563 x564 x565 x566 x567 x568 x569 x570 x571 x572 x573 x574 x575 x576 x577 x578 x579 x580 x581 x582 x583 x584
    refine (markGatherF_kit S170 (gpG d f) _ w546 (1) M_0 (1) (by omega) (unhide HM_0) (by omega) (unhide HRS0) (unhide O560)).mono ?_
    rintro e w585 ⟨rfl, P586⟩
    have t587 := (unhide P586).2
    have B588 := hide ((unhide B548).trans (t587.below (unhide B548).size (fun k hk => by have z := unhide L172 k hk; have y := unhide H189 k hk; have z0 := unhide Z10; have z1 := unhide Z15; have z2 := unhide Z24; have z3 := unhide Z40; have z4 := unhide Z60; have z5 := unhide Z61; have z6 := unhide Z62; have z7 := unhide Z87; have z8 := unhide Z116; have z9 := unhide Z131; have z10 := unhide Z166; have z11 := unhide Z188; have z12 := unhide Z235; have z13 := unhide Z250; have z14 := unhide Z267; have z15 := unhide Z306; have z16 := unhide Z355; have z17 := unhide Z404; have z18 := unhide Z443; have z19 := unhide Z483; have z20 := unhide Z523; have z21 := unhide Z562; omega)))
    clear B548
    have BU589 := hide ((unhide BU549).trans (t587.below (unhide BU549).size (fun k hk => by have z := unhide L172 k hk; have y := unhide H189 k hk; have z0 := unhide Z10; have z1 := unhide Z15; have z2 := unhide Z24; have z3 := unhide Z40; have z4 := unhide Z60; have z5 := unhide Z61; have z6 := unhide Z62; have z7 := unhide Z87; have z8 := unhide Z116; have z9 := unhide Z131; have z10 := unhide Z166; have z11 := unhide Z188; have z12 := unhide Z235; have z13 := unhide Z250; have z14 := unhide Z267; have z15 := unhide Z306; have z16 := unhide Z355; have z17 := unhide Z404; have z18 := unhide Z443; have z19 := unhide Z483; have z20 := unhide Z523; have z21 := unhide Z562; omega)))
    clear BU549
    have BX590 := hide ((unhide BX550).turn t587 (fun hk => by have z := unhide L172 _ hk; have y := unhide H189 _ hk; have z0 := unhide Z10; have z1 := unhide Z15; have z2 := unhide Z24; have z3 := unhide Z40; have z4 := unhide Z60; have z5 := unhide Z61; have z6 := unhide Z62; have z7 := unhide Z87; have z8 := unhide Z116; have z9 := unhide Z131; have z10 := unhide Z166; have z11 := unhide Z188; have z12 := unhide Z235; have z13 := unhide Z250; have z14 := unhide Z267; have z15 := unhide Z306; have z16 := unhide Z355; have z17 := unhide Z404; have z18 := unhide Z443; have z19 := unhide Z483; have z20 := unhide Z523; have z21 := unhide Z562; omega))
    clear BX550
    have BX591 := hide ((unhide BX551).turn t587 (fun hk => by have z := unhide L172 _ hk; have y := unhide H189 _ hk; have z0 := unhide Z10; have z1 := unhide Z15; have z2 := unhide Z24; have z3 := unhide Z40; have z4 := unhide Z60; have z5 := unhide Z61; have z6 := unhide Z62; have z7 := unhide Z87; have z8 := unhide Z116; have z9 := unhide Z131; have z10 := unhide Z166; have z11 := unhide Z188; have z12 := unhide Z235; have z13 := unhide Z250; have z14 := unhide Z267; have z15 := unhide Z306; have z16 := unhide Z355; have z17 := unhide Z404; have z18 := unhide Z443; have z19 := unhide Z483; have z20 := unhide Z523; have z21 := unhide Z562; omega))
    clear BX551
    have BX592 := hide ((unhide BX552).turn t587 (fun hk => by have z := unhide L172 _ hk; have y := unhide H189 _ hk; have z0 := unhide Z10; have z1 := unhide Z15; have z2 := unhide Z24; have z3 := unhide Z40; have z4 := unhide Z60; have z5 := unhide Z61; have z6 := unhide Z62; have z7 := unhide Z87; have z8 := unhide Z116; have z9 := unhide Z131; have z10 := unhide Z166; have z11 := unhide Z188; have z12 := unhide Z235; have z13 := unhide Z250; have z14 := unhide Z267; have z15 := unhide Z306; have z16 := unhide Z355; have z17 := unhide Z404; have z18 := unhide Z443; have z19 := unhide Z483; have z20 := unhide Z523; have z21 := unhide Z562; omega))
    clear BX552
    have BX593 := hide ((unhide BX553).turn t587 (fun hk => by have z := unhide L172 _ hk; have y := unhide H189 _ hk; have z0 := unhide Z10; have z1 := unhide Z15; have z2 := unhide Z24; have z3 := unhide Z40; have z4 := unhide Z60; have z5 := unhide Z61; have z6 := unhide Z62; have z7 := unhide Z87; have z8 := unhide Z116; have z9 := unhide Z131; have z10 := unhide Z166; have z11 := unhide Z188; have z12 := unhide Z235; have z13 := unhide Z250; have z14 := unhide Z267; have z15 := unhide Z306; have z16 := unhide Z355; have z17 := unhide Z404; have z18 := unhide Z443; have z19 := unhide Z483; have z20 := unhide Z523; have z21 := unhide Z562; omega))
    clear BX553
    have BX594 := hide ((unhide BX554).turn t587 (fun hk => by have z := unhide L172 _ hk; have y := unhide H189 _ hk; have z0 := unhide Z10; have z1 := unhide Z15; have z2 := unhide Z24; have z3 := unhide Z40; have z4 := unhide Z60; have z5 := unhide Z61; have z6 := unhide Z62; have z7 := unhide Z87; have z8 := unhide Z116; have z9 := unhide Z131; have z10 := unhide Z166; have z11 := unhide Z188; have z12 := unhide Z235; have z13 := unhide Z250; have z14 := unhide Z267; have z15 := unhide Z306; have z16 := unhide Z355; have z17 := unhide Z404; have z18 := unhide Z443; have z19 := unhide Z483; have z20 := unhide Z523; have z21 := unhide Z562; omega))
    clear BX554
    have BX595 := hide ((unhide BX555).turn t587 (fun hk => by have z := unhide L172 _ hk; have y := unhide H189 _ hk; have z0 := unhide Z10; have z1 := unhide Z15; have z2 := unhide Z24; have z3 := unhide Z40; have z4 := unhide Z60; have z5 := unhide Z61; have z6 := unhide Z62; have z7 := unhide Z87; have z8 := unhide Z116; have z9 := unhide Z131; have z10 := unhide Z166; have z11 := unhide Z188; have z12 := unhide Z235; have z13 := unhide Z250; have z14 := unhide Z267; have z15 := unhide Z306; have z16 := unhide Z355; have z17 := unhide Z404; have z18 := unhide Z443; have z19 := unhide Z483; have z20 := unhide Z523; have z21 := unhide Z562; omega))
    clear BX555
    have BX596 := hide ((unhide BX556).turn t587 (fun hk => by have z := unhide L172 _ hk; have y := unhide H189 _ hk; have z0 := unhide Z10; have z1 := unhide Z15; have z2 := unhide Z24; have z3 := unhide Z40; have z4 := unhide Z60; have z5 := unhide Z61; have z6 := unhide Z62; have z7 := unhide Z87; have z8 := unhide Z116; have z9 := unhide Z131; have z10 := unhide Z166; have z11 := unhide Z188; have z12 := unhide Z235; have z13 := unhide Z250; have z14 := unhide Z267; have z15 := unhide Z306; have z16 := unhide Z355; have z17 := unhide Z404; have z18 := unhide Z443; have z19 := unhide Z483; have z20 := unhide Z523; have z21 := unhide Z562; omega))
    clear BX556
    have BX597 := hide ((unhide BX557).turn t587 (fun hk => by have z := unhide L172 _ hk; have y := unhide H189 _ hk; have z0 := unhide Z10; have z1 := unhide Z15; have z2 := unhide Z24; have z3 := unhide Z40; have z4 := unhide Z60; have z5 := unhide Z61; have z6 := unhide Z62; have z7 := unhide Z87; have z8 := unhide Z116; have z9 := unhide Z131; have z10 := unhide Z166; have z11 := unhide Z188; have z12 := unhide Z235; have z13 := unhide Z250; have z14 := unhide Z267; have z15 := unhide Z306; have z16 := unhide Z355; have z17 := unhide Z404; have z18 := unhide Z443; have z19 := unhide Z483; have z20 := unhide Z523; have z21 := unhide Z562; omega))
    clear BX557
    have O598 := hide ((unhide O558).turn t587 (fun k hk hm => by have z := unhide L172 k hm; have y := unhide H189 k hm; have u := unhide L79 k hk; have v := unhide H88 k hk; have z0 := unhide Z10; have z1 := unhide Z15; have z2 := unhide Z24; have z3 := unhide Z40; have z4 := unhide Z60; have z5 := unhide Z61; have z6 := unhide Z62; have z7 := unhide Z87; have z8 := unhide Z116; have z9 := unhide Z131; have z10 := unhide Z166; have z11 := unhide Z188; have z12 := unhide Z235; have z13 := unhide Z250; have z14 := unhide Z267; have z15 := unhide Z306; have z16 := unhide Z355; have z17 := unhide Z404; have z18 := unhide Z443; have z19 := unhide Z483; have z20 := unhide Z523; have z21 := unhide Z562; omega))
    clear O558
    have O599 := hide ((unhide O559).turn t587 (fun k hk hm => by have z := unhide L172 k hm; have y := unhide H189 k hm; have u := unhide L121 k hk; have v := unhide H132 k hk; have z0 := unhide Z10; have z1 := unhide Z15; have z2 := unhide Z24; have z3 := unhide Z40; have z4 := unhide Z60; have z5 := unhide Z61; have z6 := unhide Z62; have z7 := unhide Z87; have z8 := unhide Z116; have z9 := unhide Z131; have z10 := unhide Z166; have z11 := unhide Z188; have z12 := unhide Z235; have z13 := unhide Z250; have z14 := unhide Z267; have z15 := unhide Z306; have z16 := unhide Z355; have z17 := unhide Z404; have z18 := unhide Z443; have z19 := unhide Z483; have z20 := unhide Z523; have z21 := unhide Z562; omega))
    clear O559
    have O600 := hide ((unhide O561).turn t587 (fun k hk hm => unhide AP177 k hm hk))
    clear O561
    have Z601 := hide (show w546.heap.size ≤ w585.heap.size from t587.size)
    have O602 := hide (unhide P586).1
    clear P586 t587
    have nf602 : ¬ (1 + (M_0 : Int)) < 0 := by omega
    obtain ⟨x603, x604, x605⟩ := (unhide BX590).three
    obtain ⟨x606, x607, x608⟩ := (unhide BX591).three
    obtain ⟨x609, x610, x611⟩ := (unhide BX592).three
    obtain ⟨x612, x613⟩ := (unhide BX593).two
    obtain ⟨x614, x615, x616⟩ := (unhide BX594).three
    obtain ⟨x617, x618, x619⟩ := (unhide BX595).three
    obtain ⟨x620, x621, x622⟩ := (unhide BX596).three
    obtain ⟨x623, x624⟩ := (unhide BX597).two
    go_wp2_with fail
    clear x603 x604 x605 x606 x607 x608 x609 x610 x611 x612 x613 x614 x615 x616 x617 x618 x619 x620 x621 x622 x623 x624
    refine (markShow_kit S174 (gpS d f) _ w585 (1 + M_0) M_1 (1 + (M_0 : Int)) (by omega) (unhide HM_1) (by omega) (unhide HRS1) (unhide O600)).mono ?_
    rintro e w625 ⟨rfl, P626⟩
    have t627 := (unhide P626).2
    have B628 := hide ((unhide B588).trans (t627.below (unhide B588).size (fun k hk => by have z := unhide L176 k hk; have y := unhide H190 k hk; have z0 := unhide Z10; have z1 := unhide Z15; have z2 := unhide Z24; have z3 := unhide Z40; have z4 := unhide Z60; have z5 := unhide Z61; have z6 := unhide Z62; have z7 := unhide Z87; have z8 := unhide Z116; have z9 := unhide Z131; have z10 := unhide Z166; have z11 := unhide Z188; have z12 := unhide Z235; have z13 := unhide Z250; have z14 := unhide Z267; have z15 := unhide Z306; have z16 := unhide Z355; have z17 := unhide Z404; have z18 := unhide Z443; have z19 := unhide Z483; have z20 := unhide Z523; have z21 := unhide Z562; have z22 := unhide Z601; omega)))
    clear B588
    have BU629 := hide ((unhide BU589).trans (t627.below (unhide BU589).size (fun k hk => by have z := unhide L176 k hk; have y := unhide H190 k hk; have z0 := unhide Z10; have z1 := unhide Z15; have z2 := unhide Z24; have z3 := unhide Z40; have z4 := unhide Z60; have z5 := unhide Z61; have z6 := unhide Z62; have z7 := unhide Z87; have z8 := unhide Z116; have z9 := unhide Z131; have z10 := unhide Z166; have z11 := unhide Z188; have z12 := unhide Z235; have z13 := unhide Z250; have z14 := unhide Z267; have z15 := unhide Z306; have z16 := unhide Z355; have z17 := unhide Z404; have z18 := unhide Z443; have z19 := unhide Z483; have z20 := unhide Z523; have z21 := unhide Z562; have z22 := unhide Z601; omega)))
    clear BU589
    have BX630 := hide ((unhide BX590).turn t627 (fun hk => by have z := unhide L176 _ hk; have y := unhide H190 _ hk; have z0 := unhide Z10; have z1 := unhide Z15; have z2 := unhide Z24; have z3 := unhide Z40; have z4 := unhide Z60; have z5 := unhide Z61; have z6 := unhide Z62; have z7 := unhide Z87; have z8 := unhide Z116; have z9 := unhide Z131; have z10 := unhide Z166; have z11 := unhide Z188; have z12 := unhide Z235; have z13 := unhide Z250; have z14 := unhide Z267; have z15 := unhide Z306; have z16 := unhide Z355; have z17 := unhide Z404; have z18 := unhide Z443; have z19 := unhide Z483; have z20 := unhide Z523; have z21 := unhide Z562; have z22 := unhide Z601; omega))
    clear BX590
    have BX631 := hide ((unhide BX591).turn t627 (fun hk => by have z := unhide L176 _ hk; have y := unhide H190 _ hk; have z0 := unhide Z10; have z1 := unhide Z15; have z2 := unhide Z24; have z3 := unhide Z40; have z4 := unhide Z60; have z5 := unhide Z61; have z6 := unhide Z62; have z7 := unhide Z87; have z8 := unhide Z116; have z9 := unhide Z131; have z10 := unhide Z166; have z11 := unhide Z188; have z12 := unhide Z235; have z13 := unhide Z250; have z14 := unhide Z267; have z15 := unhide Z306; have z16 := unhide Z355; have z17 := unhide Z404; have z18 := unhide Z443; have z19 := unhide Z483; have z20 := unhide Z523; have z21 := unhide Z562; have z22 := unhide Z601; omega))
    clear BX591
    have BX632 := hide ((unhide BX592).turn t627 (fun hk => by have z := unhide L176 _ hk; have y := unhide H190 _ hk; have z0 := unhide Z10; have z1 := unhide Z15; have z2 := unhide Z24; have z3 := unhide Z40; have z4 := unhide Z60; have z5 := unhide Z61; have z6 := unhide Z62; have z7 := unhide Z87; have z8 := unhide Z116; have z9 := unhide Z131; have z10 := unhide Z166; have z11 := unhide Z188; have z12 := unhide Z235; have z13 := unhide Z250; have z14 := unhide Z267; have z15 := unhide Z306; have z16 := unhide Z355; have z17 := unhide Z404; have z18 := unhide Z443; have z19 := unhide Z483; have z20 := unhide Z523; have z21 := unhide Z562; have z22 := unhide Z601; omega))
    clear BX592
    have BX633 := hide ((unhide BX593).turn t627 (fun hk => by have z := unhide L176 _ hk; have y := unhide H190 _ hk; have z0 := unhide Z10; have z1 := unhide Z15; have z2 := unhide Z24; have z3 := unhide Z40; have z4 := unhide Z60; have z5 := unhide Z61; have z6 := unhide Z62; have z7 := unhide Z87; have z8 := unhide Z116; have z9 := unhide Z131; have z10 := unhide Z166; have z11 := unhide Z188; have z12 := unhide Z235; have z13 := unhide Z250; have z14 := unhide Z267; have z15 := unhide Z306; have z16 := unhide Z355; have z17 := unhide Z404; have z18 := unhide Z443; have z19 := unhide Z483; have z20 := unhide Z523; have z21 := unhide Z562; have z22 := unhide Z601; omega))
    clear BX593
    have BX634 := hide ((unhide BX594).turn t627 (fun hk => by have z := unhide L176 _ hk; have y := unhide H190 _ hk; have z0 := unhide Z10; have z1 := unhide Z15; have z2 := unhide Z24; have z3 := unhide Z40; have z4 := unhide Z60; have z5 := unhide Z61; have z6 := unhide Z62; have z7 := unhide Z87; have z8 := unhide Z116; have z9 := unhide Z131; have z10 := unhide Z166; have z11 := unhide Z188; have z12 := unhide Z235; have z13 := unhide Z250; have z14 := unhide Z267; have z15 := unhide Z306; have z16 := unhide Z355; have z17 := unhide Z404; have z18 := unhide Z443; have z19 := unhide Z483; have z20 := unhide Z523; have z21 := unhide Z562; have z22 := unhide Z601; omega))
    clear BX594
    have BX635 := hide ((unhide BX595).turn t627 (fun hk => by have z := unhide L176 _ hk; have y := unhide H190 _ hk; have z0 := unhide Z10; have z1 := unhide Z15; have z2 := unhide Z24; have z3 := unhide Z40; have z4 := unhide Z60; have z5 := unhide Z61; have z6 := unhide Z62; have z7 := unhide Z87; have z8 := unhide Z116; have z9 := unhide Z131; have z10 := unhide Z166; have z11 := unhide Z188; have z12 := unhide Z235; have z13 := unhide Z250; have z14 := unhide Z267; have z15 := unhide Z306; have z16 := unhide Z355; have z17 := unhide Z404; have z18 := unhide Z443; have z19 := unhide Z483; have z20 := unhide Z523; have z21 := unhide Z562; have z22 := unhide Z601; omega))
    clear BX595
    have BX636 := hide ((unhide BX596).turn t627 (fun hk => by have z := unhide L176 _ hk; have y := unhide H190 _ hk; have z0 := unhide Z10; have z1 := unhide Z15; have z2 := unhide Z24; have z3 := unhide Z40; have z4 := unhide Z60; have z5 := unhide Z61; have z6 := unhide Z62; have z7 := unhide Z87; have z8 := unhide Z116; have z9 := unhide Z131; have z10 := unhide Z166; have z11 := unhide Z188; have z12 := unhide Z235; have z13 := unhide Z250; have z14 := unhide Z267; have z15 := unhide Z306; have z16 := unhide Z355; have z17 := unhide Z404; have z18 := unhide Z443; have z19 := unhide Z483; have z20 := unhide Z523; have z21 := unhide Z562; have z22 := unhide Z601; omega))
    clear BX596
    have BX637 := hide ((unhide BX597).turn t627 (fun hk => by have z := unhide L176 _ hk; have y := unhide H190 _ hk; have z0 := unhide Z10; have z1 := unhide Z15; have z2 := unhide Z24; have z3 := unhide Z40; have z4 := unhide Z60; have z5 := unhide Z61; have z6 := unhide Z62; have z7 := unhide Z87; have z8 := unhide Z116; have z9 := unhide Z131; have z10 := unhide Z166; have z11 := unhide Z188; have z12 := unhide Z235; have z13 := unhide Z250; have z14 := unhide Z267; have z15 := unhide Z306; have z16 := unhide Z355; have z17 := unhide Z404; have z18 := unhide Z443; have z19 := unhide Z483; have z20 := unhide Z523; have z21 := unhide Z562; have z22 := unhide Z601; omega))
    clear BX597
    have O638 := hide ((unhide O598).turn t627 (fun k hk hm => by have z := unhide L176 k hm; have y := unhide H190 k hm; have u := unhide L79 k hk; have v := unhide H88 k hk; have z0 := unhide Z10; have z1 := unhide Z15; have z2 := unhide Z24; have z3 := unhide Z40; have z4 := unhide Z60; have z5 := unhide Z61; have z6 := unhide Z62; have z7 := unhide Z87; have z8 := unhide Z116; have z9 := unhide Z131; have z10 := unhide Z166; have z11 := unhide Z188; have z12 := unhide Z235; have z13 := unhide Z250; have z14 := unhide Z267; have z15 := unhide Z306; have z16 := unhide Z355; have z17 := unhide Z404; have z18 := unhide Z443; have z19 := unhide Z483; have z20 := unhide Z523; have z21 := unhide Z562; have z22 := unhide Z601; omega))
    clear O598
    have O639 := hide ((unhide O599).turn t627 (fun k hk hm => by have z := unhide L176 k hm; have y := unhide H190 k hm; have u := unhide L121 k hk; have v := unhide H132 k hk; have z0 := unhide Z10; have z1 := unhide Z15; have z2 := unhide Z24; have z3 := unhide Z40; have z4 := unhide Z60; have z5 := unhide Z61; have z6 := unhide Z62; have z7 := unhide Z87; have z8 := unhide Z116; have z9 := unhide Z131; have z10 := unhide Z166; have z11 := unhide Z188; have z12 := unhide Z235; have z13 := unhide Z250; have z14 := unhide Z267; have z15 := unhide Z306; have z16 := unhide Z355; have z17 := unhide Z404; have z18 := unhide Z443; have z19 := unhide Z483; have z20 := unhide Z523; have z21 := unhide Z562; have z22 := unhide Z601; omega))
    clear O599
    have O640 := hide ((unhide O602).turn t627 (fun k hk hm => unhide AP177 k hk hm))
    clear O602
    have Z641 := hide (show w585.heap.size ≤ w625.heap.size from t627.size)
    have O642 := hide (unhide P626).1
    clear P626 t627
    have nf642 : ¬ (1 + (M_0 : Int) + (M_1 : Int)) < 0 := by omega
    obtain ⟨x643, x644, x645⟩ := (unhide BX630).three
    obtain ⟨x646, x647, x648⟩ := (unhide BX631).three
    obtain ⟨x649, x650, x651⟩ := (unhide BX632).three
    obtain ⟨x652, x653⟩ := (unhide BX633).two
    obtain ⟨x654, x655, x656⟩ := (unhide BX634).three
    obtain ⟨x657, x658, x659⟩ := (unhide BX635).three
    obtain ⟨x660, x661, x662⟩ := (unhide BX636).three
    obtain ⟨x663, x664⟩ := (unhide BX637).two
    go_wp2_with fail
    clear x643 x644 x645 x646 x647 x648 x649 x650 x651 x652 x653 x654 x655 x656 x657 x658 x659 x660 x661 x662 x663 x664
    refine (heldGatherF_kit (gpG d f) _ w625 (1) M_0 (1) (by omega) (unhide HM_0) (by omega) (unhide HRS0) (unhide O640).rd).mono ?_
    rintro e w665 ⟨rfl, b666⟩
    have B667 := hide ((unhide B628).trans (b666.mono (unhide B628).size))
    clear B628
    have BU668 := hide ((unhide BU629).trans (b666.mono (unhide BU629).size))
    clear BU629
    have BX669 := hide ((unhide BX630).up b666)
    clear BX630
    have BX670 := hide ((unhide BX631).up b666)
    clear BX631
    have BX671 := hide ((unhide BX632).up b666)
    clear BX632
    have BX672 := hide ((unhide BX633).up b666)
    clear BX633
    have BX673 := hide ((unhide BX634).up b666)
    clear BX634
    have BX674 := hide ((unhide BX635).up b666)
    clear BX635
    have BX675 := hide ((unhide BX636).up b666)
    clear BX636
    have BX676 := hide ((unhide BX637).up b666)
    clear BX637
    have O677 := hide ((unhide O638).up b666)
    clear O638
    have O678 := hide ((unhide O639).up b666)
    clear O639
    have O679 := hide ((unhide O640).up b666)
    clear O640
    have O680 := hide ((unhide O642).up b666)
    clear O642
    have Z681 := hide (show w625.heap.size ≤ w665.heap.size from b666.size)
    clear b666
    obtain ⟨x682, x683, x684⟩ := (unhide BX669).three
    obtain ⟨x685, x686, x687⟩ := (unhide BX670).three
    obtain ⟨x688, x689, x690⟩ := (unhide BX671).three
    obtain ⟨x691, x692⟩ := (unhide BX672).two
    obtain ⟨x693, x694, x695⟩ := (unhide BX673).three
    obtain ⟨x696, x697, x698⟩ := (unhide BX674).three
    obtain ⟨x699, x700, x701⟩ := (unhide BX675).three
    obtain ⟨x702, x703⟩ := (unhide BX676).two
    go_wp2_with fail
    clear x682 x683 x684 x685 x686 x687 x688 x689 x690 x691 x692 x693 x694 x695 x696 x697 x698 x699 x700 x701 x702 x703
    refine (heldShow_kit (gpS d f) _ w665 (1 + M_0) M_1 (1 + (M_0 : Int)) (by omega) (unhide HM_1) (by omega) (unhide HRS1) (unhide O680).rd).mono ?_
    rintro e w704 ⟨rfl, b705⟩
    have B706 := hide ((unhide B667).trans (b705.mono (unhide B667).size))
    clear B667
    have BU707 := hide ((unhide BU668).trans (b705.mono (unhide BU668).size))
    clear BU668
    have BX708 := hide ((unhide BX669).up b705)
    clear BX669
    have BX709 := hide ((unhide BX670).up b705)
    clear BX670
    have BX710 := hide ((unhide BX671).up b705)
    clear BX671
    have BX711 := hide ((unhide BX672).up b705)
    clear BX672
    have BX712 := hide ((unhide BX673).up b705)
    clear BX673
    have BX713 := hide ((unhide BX674).up b705)
    clear BX674
    have BX714 := hide ((unhide BX675).up b705)
    clear BX675
    have BX715 := hide ((unhide BX676).up b705)
    clear BX676
    have O716 := hide ((unhide O677).up b705)
    clear O677
    have O717 := hide ((unhide O678).up b705)
    clear O678
    have O718 := hide ((unhide O679).up b705)
    clear O679
    have O719 := hide ((unhide O680).up b705)
    clear O680
    have Z720 := hide (show w665.heap.size ≤ w704.heap.size from b705.size)
    clear b705
    obtain ⟨x721, x722, x723⟩ := (unhide BX708).three
    obtain ⟨x724, x725, x726⟩ := (unhide BX709).three
    obtain ⟨x727, x728, x729⟩ := (unhide BX710).three
    obtain ⟨x730, x731⟩ := (unhide BX711).two
    obtain ⟨x732, x733, x734⟩ := (unhide BX712).three
    obtain ⟨x735, x736, x737⟩ := (unhide BX713).three
    obtain ⟨x738, x739, x740⟩ := (unhide BX714).three
    obtain ⟨x741, x742⟩ := (unhide BX715).two
    go_wp2_with fail
    clear x721 x722 x723 x724 x725 x726 x727 x728 x729 x730 x731 x732 x733 x734 x735 x736 x737 x738 x739 x740 x741 x742
    have BD743 := hide ((Below.refl w704.heap.size w704).drew)
    have KS744 := hide (show ∀ X : World, Below w704.heap.size w704 X → (fun (X : World) => (X.cell? ⟨w.heap.size, 0, none⟩ = some (.slice p_d0 p_d1 p_d2) ∧ X.cell? ⟨w.heap.size, 1, none⟩ = some (.slice p_d3 p_d4 p_d5) ∧ X.cell? ⟨w.heap.size, 2, none⟩ = some (.slice p_d6 p_d7 p_d8)) ∧ (X.cell? ⟨w.heap.size + 1, 0, none⟩ = some (.int .i64 p_f0) ∧ X.cell? ⟨w.heap.size + 1, 1, none⟩ = some (.int .i64 p_f1) ∧ X.cell? ⟨w.heap.size + 1, 2, none⟩ = some (.slice p_f2 p_f3 p_f4))) X from fun X b => ⟨((unhide BX708).up b).three, ((unhide BX709).up b).three⟩)
    go_cut [17, 18, 19] (fun sa sb sc wx => ∃ ga_h gb_h q_h0_0 q_h0_1 q_h0_2 q_h0_3 q_h0_4 q_h0_5 q_h0_6 q_h0_7 q_h0_8 q_h1_0 q_h1_1 q_h1_2 q_h1_3 q_h1_4 q_h1_5, sa = .pointer (some ⟨ga_h, 0, none⟩) ∧ sb = .pointer (some ⟨gb_h, 0, none⟩) ∧ sc = .int .i64 (gpC d f) ∧ Hid (BoxIs wx ga_h [.slice q_h0_0 q_h0_1 q_h0_2, .slice q_h0_3 q_h0_4 q_h0_5, .slice q_h0_6 q_h0_7 q_h0_8]) ∧ Hid (BoxIs wx gb_h [.slice q_h1_0 q_h1_1 q_h1_2, .slice q_h1_3 q_h1_4 q_h1_5]) ∧ Hid (GatherRd wx (.agg #[.slice q_h0_0 q_h0_1 q_h0_2, .slice q_h0_3 q_h0_4 q_h0_5, .slice q_h0_6 q_h0_7 q_h0_8]) (gpG d f)) ∧ Hid (ShowRd wx (.agg #[.slice q_h1_0 q_h1_1 q_h1_2, .slice q_h1_3 q_h1_4 q_h1_5]) (gpS d f)) ∧ Hid (Below w704.heap.size w704 wx))
    case first =>
     have hS := unhide KS744 _ (unhide BD743)
     refine wp_region_held_drew (S := fun (X : World) => (X.cell? ⟨w.heap.size, 0, none⟩ = some (.slice p_d0 p_d1 p_d2) ∧ X.cell? ⟨w.heap.size, 1, none⟩ = some (.slice p_d3 p_d4 p_d5) ∧ X.cell? ⟨w.heap.size, 2, none⟩ = some (.slice p_d6 p_d7 p_d8)) ∧ (X.cell? ⟨w.heap.size + 1, 0, none⟩ = some (.int .i64 p_f0) ∧ X.cell? ⟨w.heap.size + 1, 1, none⟩ = some (.int .i64 p_f1) ∧ X.cell? ⟨w.heap.size + 1, 2, none⟩ = some (.slice p_f2 p_f3 p_f4))) (by kernel_rfl) hS ?_
     clear hS
     intro hS
     generalize w704.drew = WX at *
     refine wpAnyH_take (i := 0) (v := .agg #[.slice p_d0 p_d1 p_d2, .slice p_d3 p_d4 p_d5, .slice p_d6 p_d7 p_d8]) rfl (by kernel_rfl) (by kernel_rfl) (by kernel_rfl) (fun _ _ _ h => h) (Or.inl ⟨by rfl, ?_⟩) hS ?_
     ·intro X hX
      obtain ⟨⟨hxa0, hxa1, hxa2⟩, ⟨hxb0, hxb1, hxb2⟩⟩ := hX
      clear hS
      go_simp
      try with_reducible rfl
     try simp [Act.put]
     refine wpAnyH_take (i := 2) (v := .agg #[.int .i64 p_f0, .int .i64 p_f1, .slice p_f2 p_f3 p_f4]) rfl (by kernel_rfl) (by kernel_rfl) (by kernel_rfl) (fun _ _ _ h => h) (Or.inl ⟨by rfl, ?_⟩) hS ?_
     ·intro X hX
      obtain ⟨⟨hxa0, hxa1, hxa2⟩, ⟨hxb0, hxb1, hxb2⟩⟩ := hX
      clear hS
      go_simp
      try with_reducible rfl
     try simp [Act.put]
     have T745 := hide (TS.start (unhide BD743))
     apply key_at
     ·intro KEY134AB
      apply key_at
      ·intro KEY134A
       apply key_at
       ·intro KEY134B
        apply key_at
        ·intro KEY13AB
         apply key_at
         ·intro KEY134
          apply key_at
          ·intro KEY13A
           apply key_at
           ·intro KEY13B
            apply key_at
            ·intro KEY1AB
             apply key_at
             ·intro KEY13
              apply key_at
              ·intro KEY1A
               apply key_at
               ·intro KEY1B
                apply key_at
                ·intro KEYAB
                 apply key_at
                 ·intro KEY1
                  apply key_at
                  ·intro KEYA
                   apply key_at
                   ·intro KEYB
                    refine wpAnyH_ready (rs := [1, 9, 10]) (by kernel_rfl) (by simp) ?_
                    refine AllReadyH.cons rfl (fun K hK => ?_) (AllReadyH.cons rfl (fun K hK => ?_) (AllReadyH.cons rfl (fun K hK => ?_) (AllReadyH.nil)))
                    ·skip
                     go_simp
                     refine (toGatherP_kit d _ _ (unhide HS25) ((unhide HR_d).up ((unhide B706).trans ((unhide T745).bel.mono (unhide B706).size)))).mono ?_
                     rintro e X2 ⟨v2, S2, rfl, O2, L2, b2⟩
                     have T2 := hide ((unhide T745).one b2 (unhide O2))
                     clear L2 O2 b2
                     refine hK.out _ _ (unhide KS744 _ (unhide T2).bel) ?_
                     clear hK K
                     intro hS
                     try simp [Act.put]
                     revert hS; revert T2; revert X2; revert v2
                     exact KEY1.it
                    ·skip
                     have T2 := hide (unhide T745).newA
                     go_simp
                     generalize WX.alloc (.cells #[.slice none 0 0, .slice none 0 0, .slice none 0 0] 36) = X2 at *
                     generalize WX.heap.size = g2 at *
                     refine hK.out _ _ (unhide KS744 _ (unhide T2).bel) ?_
                     clear hK K
                     intro hS
                     try simp [Act.put]
                     revert hS; revert T2; revert X2; revert g2
                     exact KEYA.it
                    ·skip
                     have T2 := hide (unhide T745).newB
                     go_simp
                     generalize WX.alloc (.cells #[.slice none 0 0, .slice none 0 0] 39) = X2 at *
                     generalize WX.heap.size = g2 at *
                     refine hK.out _ _ (unhide KS744 _ (unhide T2).bel) ?_
                     clear hK K
                     intro hS
                     try simp [Act.put]
                     revert hS; revert T2; revert X2; revert g2
                     exact KEYB.it
                   intro gb X TT hS
                   refine wpAnyH_ready (rs := [1, 9]) (by kernel_rfl) (by simp) ?_
                   refine AllReadyH.cons rfl (fun K hK => ?_) (AllReadyH.cons rfl (fun K hK => ?_) (AllReadyH.nil))
                   ·skip
                    go_simp
                    refine (toGatherP_kit d _ _ (unhide HS25) ((unhide HR_d).up ((unhide B706).trans ((unhide TT).bel.mono (unhide B706).size)))).mono ?_
                    rintro e X2 ⟨v2, S2, rfl, O2, L2, b2⟩
                    have T2 := hide ((unhide TT).one b2 (unhide O2))
                    clear L2 O2 b2
                    refine hK.out _ _ (unhide KS744 _ (unhide T2).bel) ?_
                    clear hK K hS TT
                    intro hS
                    try simp [Act.put]
                    revert hS; revert T2; revert X2; revert gb; revert v2
                    exact KEY1B.it
                   ·skip
                    have T2 := hide (unhide TT).newA
                    go_simp
                    generalize X.alloc (.cells #[.slice none 0 0, .slice none 0 0, .slice none 0 0] 36) = X2 at *
                    generalize X.heap.size = g2 at *
                    refine hK.out _ _ (unhide KS744 _ (unhide T2).bel) ?_
                    clear hK K hS TT
                    intro hS
                    try simp [Act.put]
                    revert hS; revert T2; revert X2; revert gb; revert g2
                    exact KEYAB.it
                  intro ga X TT hS
                  refine wpAnyH_ready (rs := [1, 10]) (by kernel_rfl) (by simp) ?_
                  refine AllReadyH.cons rfl (fun K hK => ?_) (AllReadyH.cons rfl (fun K hK => ?_) (AllReadyH.nil))
                  ·skip
                   go_simp
                   refine (toGatherP_kit d _ _ (unhide HS25) ((unhide HR_d).up ((unhide B706).trans ((unhide TT).bel.mono (unhide B706).size)))).mono ?_
                   rintro e X2 ⟨v2, S2, rfl, O2, L2, b2⟩
                   have T2 := hide ((unhide TT).one b2 (unhide O2))
                   clear L2 O2 b2
                   refine hK.out _ _ (unhide KS744 _ (unhide T2).bel) ?_
                   clear hK K hS TT
                   intro hS
                   try simp [Act.put]
                   revert hS; revert T2; revert X2; revert ga; revert v2
                   exact KEY1A.it
                  ·skip
                   have T2 := hide (unhide TT).newB
                   go_simp
                   generalize X.alloc (.cells #[.slice none 0 0, .slice none 0 0] 39) = X2 at *
                   generalize X.heap.size = g2 at *
                   refine hK.out _ _ (unhide KS744 _ (unhide T2).bel) ?_
                   clear hK K hS TT
                   intro hS
                   try simp [Act.put]
                   revert hS; revert T2; revert X2; revert g2; revert ga
                   exact KEYAB.it
                 intro va X TT hS
                 refine wpAnyH_ready (rs := [3, 9, 10]) (by kernel_rfl) (by simp) ?_
                 refine AllReadyH.cons rfl (fun K hK => ?_) (AllReadyH.cons rfl (fun K hK => ?_) (AllReadyH.cons rfl (fun K hK => ?_) (AllReadyH.nil)))
                 ·skip
                  go_simp
                  refine (toFeed_kit f _ _ (unhide HS41) ((unhide HR_f).up ((unhide B706).trans ((unhide TT).bel.mono (unhide B706).size)))).mono ?_
                  rintro e X2 ⟨v2, S2, rfl, O2, L2, b2⟩
                  have T2 := hide ((unhide TT).two b2 (unhide O2))
                  clear L2 O2 b2
                  refine hK.out _ _ (unhide KS744 _ (unhide T2).bel) ?_
                  clear hK K hS TT
                  intro hS
                  try simp [Act.put]
                  revert hS; revert T2; revert X2; revert v2; revert va
                  exact KEY13.it
                 ·skip
                  have T2 := hide (unhide TT).newA
                  go_simp
                  generalize X.alloc (.cells #[.slice none 0 0, .slice none 0 0, .slice none 0 0] 36) = X2 at *
                  generalize X.heap.size = g2 at *
                  refine hK.out _ _ (unhide KS744 _ (unhide T2).bel) ?_
                  clear hK K hS TT
                  intro hS
                  try simp [Act.put]
                  revert hS; revert T2; revert X2; revert g2; revert va
                  exact KEY1A.it
                 ·skip
                  have T2 := hide (unhide TT).newB
                  go_simp
                  generalize X.alloc (.cells #[.slice none 0 0, .slice none 0 0] 39) = X2 at *
                  generalize X.heap.size = g2 at *
                  refine hK.out _ _ (unhide KS744 _ (unhide T2).bel) ?_
                  clear hK K hS TT
                  intro hS
                  try simp [Act.put]
                  revert hS; revert T2; revert X2; revert g2; revert va
                  exact KEY1B.it
                intro ga gb X TT hS
                refine wpAnyH_ready (rs := [1]) (by kernel_rfl) (by simp) ?_
                refine AllReadyH.cons rfl (fun K hK => ?_) (AllReadyH.nil)
                go_simp
                refine (toGatherP_kit d _ _ (unhide HS25) ((unhide HR_d).up ((unhide B706).trans ((unhide TT).bel.mono (unhide B706).size)))).mono ?_
                rintro e X2 ⟨v2, S2, rfl, O2, L2, b2⟩
                have T2 := hide ((unhide TT).one b2 (unhide O2))
                clear L2 O2 b2
                refine hK.out _ _ (unhide KS744 _ (unhide T2).bel) ?_
                clear hK K hS TT
                intro hS
                try simp [Act.put]
                revert hS; revert T2; revert X2; revert gb; revert ga; revert v2
                exact KEY1AB.it
               intro va gb X TT hS
               refine wpAnyH_ready (rs := [3, 9]) (by kernel_rfl) (by simp) ?_
               refine AllReadyH.cons rfl (fun K hK => ?_) (AllReadyH.cons rfl (fun K hK => ?_) (AllReadyH.nil))
               ·skip
                go_simp
                refine (toFeed_kit f _ _ (unhide HS41) ((unhide HR_f).up ((unhide B706).trans ((unhide TT).bel.mono (unhide B706).size)))).mono ?_
                rintro e X2 ⟨v2, S2, rfl, O2, L2, b2⟩
                have T2 := hide ((unhide TT).two b2 (unhide O2))
                clear L2 O2 b2
                refine hK.out _ _ (unhide KS744 _ (unhide T2).bel) ?_
                clear hK K hS TT
                intro hS
                try simp [Act.put]
                revert hS; revert T2; revert X2; revert gb; revert v2; revert va
                exact KEY13B.it
               ·skip
                have T2 := hide (unhide TT).newA
                go_simp
                generalize X.alloc (.cells #[.slice none 0 0, .slice none 0 0, .slice none 0 0] 36) = X2 at *
                generalize X.heap.size = g2 at *
                refine hK.out _ _ (unhide KS744 _ (unhide T2).bel) ?_
                clear hK K hS TT
                intro hS
                try simp [Act.put]
                revert hS; revert T2; revert X2; revert gb; revert g2; revert va
                exact KEY1AB.it
              intro va ga X TT hS
              refine wpAnyH_ready (rs := [3, 10]) (by kernel_rfl) (by simp) ?_
              refine AllReadyH.cons rfl (fun K hK => ?_) (AllReadyH.cons rfl (fun K hK => ?_) (AllReadyH.nil))
              ·skip
               go_simp
               refine (toFeed_kit f _ _ (unhide HS41) ((unhide HR_f).up ((unhide B706).trans ((unhide TT).bel.mono (unhide B706).size)))).mono ?_
               rintro e X2 ⟨v2, S2, rfl, O2, L2, b2⟩
               have T2 := hide ((unhide TT).two b2 (unhide O2))
               clear L2 O2 b2
               refine hK.out _ _ (unhide KS744 _ (unhide T2).bel) ?_
               clear hK K hS TT
               intro hS
               try simp [Act.put]
               revert hS; revert T2; revert X2; revert ga; revert v2; revert va
               exact KEY13A.it
              ·skip
               have T2 := hide (unhide TT).newB
               go_simp
               generalize X.alloc (.cells #[.slice none 0 0, .slice none 0 0] 39) = X2 at *
               generalize X.heap.size = g2 at *
               refine hK.out _ _ (unhide KS744 _ (unhide T2).bel) ?_
               clear hK K hS TT
               intro hS
               try simp [Act.put]
               revert hS; revert T2; revert X2; revert g2; revert ga; revert va
               exact KEY1AB.it
             intro va vb X TT hS
             refine wpAnyH_ready (rs := [4, 9, 10]) (by kernel_rfl) (by simp) ?_
             refine AllReadyH.cons rfl (fun K hK => ?_) (AllReadyH.cons rfl (fun K hK => ?_) (AllReadyH.cons rfl (fun K hK => ?_) (AllReadyH.nil)))
             ·skip
              go_simp
              refine (impl_two d f _ _ _ (unhide HS25) (unhide HS41) (unhide TT).p.1 (unhide TT).p.2 ((unhide HE).up ((unhide B706).trans ((unhide TT).bel.mono (unhide B706).size)))).mono ?_
              rintro e X2 ⟨q_h0_0, q_h0_1, q_h0_2, q_h0_3, q_h0_4, q_h0_5, q_h0_6, q_h0_7, q_h0_8, q_h1_0, q_h1_1, q_h1_2, q_h1_3, q_h1_4, q_h1_5, rfl, RR, b2⟩
              have T2 := hide ((unhide TT).three b2 (unhide RR))
              clear RR b2
              refine hK.out _ _ (unhide KS744 _ (unhide T2).bel) ?_
              clear hK K hS TT
              intro hS
              try simp [Act.put]
              refine wpAnyH_take (i := 5) (v := .tuple #[.agg #[.slice q_h0_0 q_h0_1 q_h0_2, .slice q_h0_3 q_h0_4 q_h0_5, .slice q_h0_6 q_h0_7 q_h0_8], .agg #[.slice q_h1_0 q_h1_1 q_h1_2, .slice q_h1_3 q_h1_4 q_h1_5], .int .i64 (gpC d f)]) rfl (by kernel_rfl) (by kernel_rfl) (by kernel_rfl) (fun _ _ _ h => h) (Or.inl ⟨by rfl, ?_⟩) hS ?_
              ·intro X _
               clear hS
               go_simp
               try with_reducible rfl
              try simp [Act.put]
              refine wpAnyH_take (i := 6) (v := .agg #[.slice q_h0_0 q_h0_1 q_h0_2, .slice q_h0_3 q_h0_4 q_h0_5, .slice q_h0_6 q_h0_7 q_h0_8]) rfl (by kernel_rfl) (by kernel_rfl) (by kernel_rfl) (fun _ _ _ h => h) (Or.inl ⟨by rfl, ?_⟩) hS ?_
              ·intro X _
               clear hS
               go_simp
               try with_reducible rfl
              try simp [Act.put]
              refine wpAnyH_take (i := 7) (v := .agg #[.slice q_h1_0 q_h1_1 q_h1_2, .slice q_h1_3 q_h1_4 q_h1_5]) rfl (by kernel_rfl) (by kernel_rfl) (by kernel_rfl) (fun _ _ _ h => h) (Or.inl ⟨by rfl, ?_⟩) hS ?_
              ·intro X _
               clear hS
               go_simp
               try with_reducible rfl
              try simp [Act.put]
              refine wpAnyH_take (i := 8) (v := .int .i64 (gpC d f)) rfl (by kernel_rfl) (by kernel_rfl) (by kernel_rfl) (fun _ _ _ h => h) (Or.inl ⟨by rfl, ?_⟩) hS ?_
              ·intro X _
               clear hS
               go_simp
               try with_reducible rfl
              try simp [Act.put]
              revert hS; revert T2; revert X2; revert q_h0_0 q_h0_1 q_h0_2 q_h0_3 q_h0_4 q_h0_5 q_h0_6 q_h0_7 q_h0_8 q_h1_0 q_h1_1 q_h1_2 q_h1_3 q_h1_4 q_h1_5; revert vb; revert va
              exact KEY134.it
             ·skip
              have T2 := hide (unhide TT).newA
              go_simp
              generalize X.alloc (.cells #[.slice none 0 0, .slice none 0 0, .slice none 0 0] 36) = X2 at *
              generalize X.heap.size = g2 at *
              refine hK.out _ _ (unhide KS744 _ (unhide T2).bel) ?_
              clear hK K hS TT
              intro hS
              try simp [Act.put]
              revert hS; revert T2; revert X2; revert g2; revert vb; revert va
              exact KEY13A.it
             ·skip
              have T2 := hide (unhide TT).newB
              go_simp
              generalize X.alloc (.cells #[.slice none 0 0, .slice none 0 0] 39) = X2 at *
              generalize X.heap.size = g2 at *
              refine hK.out _ _ (unhide KS744 _ (unhide T2).bel) ?_
              clear hK K hS TT
              intro hS
              try simp [Act.put]
              revert hS; revert T2; revert X2; revert g2; revert vb; revert va
              exact KEY13B.it
            intro va ga gb X TT hS
            refine wpAnyH_ready (rs := [3]) (by kernel_rfl) (by simp) ?_
            refine AllReadyH.cons rfl (fun K hK => ?_) (AllReadyH.nil)
            go_simp
            refine (toFeed_kit f _ _ (unhide HS41) ((unhide HR_f).up ((unhide B706).trans ((unhide TT).bel.mono (unhide B706).size)))).mono ?_
            rintro e X2 ⟨v2, S2, rfl, O2, L2, b2⟩
            have T2 := hide ((unhide TT).two b2 (unhide O2))
            clear L2 O2 b2
            refine hK.out _ _ (unhide KS744 _ (unhide T2).bel) ?_
            clear hK K hS TT
            intro hS
            try simp [Act.put]
            revert hS; revert T2; revert X2; revert gb; revert ga; revert v2; revert va
            exact KEY13AB.it
           intro va vb gb X TT hS
           refine wpAnyH_ready (rs := [4, 9]) (by kernel_rfl) (by simp) ?_
           refine AllReadyH.cons rfl (fun K hK => ?_) (AllReadyH.cons rfl (fun K hK => ?_) (AllReadyH.nil))
           ·skip
            go_simp
            refine (impl_two d f _ _ _ (unhide HS25) (unhide HS41) (unhide TT).p.1 (unhide TT).p.2 ((unhide HE).up ((unhide B706).trans ((unhide TT).bel.mono (unhide B706).size)))).mono ?_
            rintro e X2 ⟨q_h0_0, q_h0_1, q_h0_2, q_h0_3, q_h0_4, q_h0_5, q_h0_6, q_h0_7, q_h0_8, q_h1_0, q_h1_1, q_h1_2, q_h1_3, q_h1_4, q_h1_5, rfl, RR, b2⟩
            have T2 := hide ((unhide TT).three b2 (unhide RR))
            clear RR b2
            refine hK.out _ _ (unhide KS744 _ (unhide T2).bel) ?_
            clear hK K hS TT
            intro hS
            try simp [Act.put]
            refine wpAnyH_take (i := 5) (v := .tuple #[.agg #[.slice q_h0_0 q_h0_1 q_h0_2, .slice q_h0_3 q_h0_4 q_h0_5, .slice q_h0_6 q_h0_7 q_h0_8], .agg #[.slice q_h1_0 q_h1_1 q_h1_2, .slice q_h1_3 q_h1_4 q_h1_5], .int .i64 (gpC d f)]) rfl (by kernel_rfl) (by kernel_rfl) (by kernel_rfl) (fun _ _ _ h => h) (Or.inl ⟨by rfl, ?_⟩) hS ?_
            ·intro X _
             clear hS
             go_simp
             try with_reducible rfl
            try simp [Act.put]
            refine wpAnyH_take (i := 6) (v := .agg #[.slice q_h0_0 q_h0_1 q_h0_2, .slice q_h0_3 q_h0_4 q_h0_5, .slice q_h0_6 q_h0_7 q_h0_8]) rfl (by kernel_rfl) (by kernel_rfl) (by kernel_rfl) (fun _ _ _ h => h) (Or.inl ⟨by rfl, ?_⟩) hS ?_
            ·intro X _
             clear hS
             go_simp
             try with_reducible rfl
            try simp [Act.put]
            refine wpAnyH_take (i := 7) (v := .agg #[.slice q_h1_0 q_h1_1 q_h1_2, .slice q_h1_3 q_h1_4 q_h1_5]) rfl (by kernel_rfl) (by kernel_rfl) (by kernel_rfl) (fun _ _ _ h => h) (Or.inl ⟨by rfl, ?_⟩) hS ?_
            ·intro X _
             clear hS
             go_simp
             try with_reducible rfl
            try simp [Act.put]
            refine wpAnyH_take (i := 8) (v := .int .i64 (gpC d f)) rfl (by kernel_rfl) (by kernel_rfl) (by kernel_rfl) (fun _ _ _ h => h) (Or.inl ⟨by rfl, ?_⟩) hS ?_
            ·intro X _
             clear hS
             go_simp
             try with_reducible rfl
            try simp [Act.put]
            revert hS; revert T2; revert X2; revert gb; revert q_h0_0 q_h0_1 q_h0_2 q_h0_3 q_h0_4 q_h0_5 q_h0_6 q_h0_7 q_h0_8 q_h1_0 q_h1_1 q_h1_2 q_h1_3 q_h1_4 q_h1_5; revert vb; revert va
            exact KEY134B.it
           ·skip
            have T2 := hide (unhide TT).newA
            go_simp
            generalize X.alloc (.cells #[.slice none 0 0, .slice none 0 0, .slice none 0 0] 36) = X2 at *
            generalize X.heap.size = g2 at *
            refine hK.out _ _ (unhide KS744 _ (unhide T2).bel) ?_
            clear hK K hS TT
            intro hS
            try simp [Act.put]
            revert hS; revert T2; revert X2; revert gb; revert g2; revert vb; revert va
            exact KEY13AB.it
          intro va vb ga X TT hS
          refine wpAnyH_ready (rs := [4, 10]) (by kernel_rfl) (by simp) ?_
          refine AllReadyH.cons rfl (fun K hK => ?_) (AllReadyH.cons rfl (fun K hK => ?_) (AllReadyH.nil))
          ·skip
           go_simp
           refine (impl_two d f _ _ _ (unhide HS25) (unhide HS41) (unhide TT).p.1 (unhide TT).p.2 ((unhide HE).up ((unhide B706).trans ((unhide TT).bel.mono (unhide B706).size)))).mono ?_
           rintro e X2 ⟨q_h0_0, q_h0_1, q_h0_2, q_h0_3, q_h0_4, q_h0_5, q_h0_6, q_h0_7, q_h0_8, q_h1_0, q_h1_1, q_h1_2, q_h1_3, q_h1_4, q_h1_5, rfl, RR, b2⟩
           have T2 := hide ((unhide TT).three b2 (unhide RR))
           clear RR b2
           refine hK.out _ _ (unhide KS744 _ (unhide T2).bel) ?_
           clear hK K hS TT
           intro hS
           try simp [Act.put]
           refine wpAnyH_take (i := 5) (v := .tuple #[.agg #[.slice q_h0_0 q_h0_1 q_h0_2, .slice q_h0_3 q_h0_4 q_h0_5, .slice q_h0_6 q_h0_7 q_h0_8], .agg #[.slice q_h1_0 q_h1_1 q_h1_2, .slice q_h1_3 q_h1_4 q_h1_5], .int .i64 (gpC d f)]) rfl (by kernel_rfl) (by kernel_rfl) (by kernel_rfl) (fun _ _ _ h => h) (Or.inl ⟨by rfl, ?_⟩) hS ?_
           ·intro X _
            clear hS
            go_simp
            try with_reducible rfl
           try simp [Act.put]
           refine wpAnyH_take (i := 6) (v := .agg #[.slice q_h0_0 q_h0_1 q_h0_2, .slice q_h0_3 q_h0_4 q_h0_5, .slice q_h0_6 q_h0_7 q_h0_8]) rfl (by kernel_rfl) (by kernel_rfl) (by kernel_rfl) (fun _ _ _ h => h) (Or.inl ⟨by rfl, ?_⟩) hS ?_
           ·intro X _
            clear hS
            go_simp
            try with_reducible rfl
           try simp [Act.put]
           refine wpAnyH_take (i := 7) (v := .agg #[.slice q_h1_0 q_h1_1 q_h1_2, .slice q_h1_3 q_h1_4 q_h1_5]) rfl (by kernel_rfl) (by kernel_rfl) (by kernel_rfl) (fun _ _ _ h => h) (Or.inl ⟨by rfl, ?_⟩) hS ?_
           ·intro X _
            clear hS
            go_simp
            try with_reducible rfl
           try simp [Act.put]
           refine wpAnyH_take (i := 8) (v := .int .i64 (gpC d f)) rfl (by kernel_rfl) (by kernel_rfl) (by kernel_rfl) (fun _ _ _ h => h) (Or.inl ⟨by rfl, ?_⟩) hS ?_
           ·intro X _
            clear hS
            go_simp
            try with_reducible rfl
           try simp [Act.put]
           revert hS; revert T2; revert X2; revert ga; revert q_h0_0 q_h0_1 q_h0_2 q_h0_3 q_h0_4 q_h0_5 q_h0_6 q_h0_7 q_h0_8 q_h1_0 q_h1_1 q_h1_2 q_h1_3 q_h1_4 q_h1_5; revert vb; revert va
           exact KEY134A.it
          ·skip
           have T2 := hide (unhide TT).newB
           go_simp
           generalize X.alloc (.cells #[.slice none 0 0, .slice none 0 0] 39) = X2 at *
           generalize X.heap.size = g2 at *
           refine hK.out _ _ (unhide KS744 _ (unhide T2).bel) ?_
           clear hK K hS TT
           intro hS
           try simp [Act.put]
           revert hS; revert T2; revert X2; revert g2; revert ga; revert vb; revert va
           exact KEY13AB.it
         intro va vb q_h0_0 q_h0_1 q_h0_2 q_h0_3 q_h0_4 q_h0_5 q_h0_6 q_h0_7 q_h0_8 q_h1_0 q_h1_1 q_h1_2 q_h1_3 q_h1_4 q_h1_5 X TT hS
         refine wpAnyH_ready (rs := [9, 10]) (by kernel_rfl) (by simp) ?_
         refine AllReadyH.cons rfl (fun K hK => ?_) (AllReadyH.cons rfl (fun K hK => ?_) (AllReadyH.nil))
         ·skip
          have T2 := hide (unhide TT).newA
          go_simp
          generalize X.alloc (.cells #[.slice none 0 0, .slice none 0 0, .slice none 0 0] 36) = X2 at *
          generalize X.heap.size = g2 at *
          refine hK.out _ _ (unhide KS744 _ (unhide T2).bel) ?_
          clear hK K hS TT
          intro hS
          try simp [Act.put]
          revert hS; revert T2; revert X2; revert g2; revert q_h0_0 q_h0_1 q_h0_2 q_h0_3 q_h0_4 q_h0_5 q_h0_6 q_h0_7 q_h0_8 q_h1_0 q_h1_1 q_h1_2 q_h1_3 q_h1_4 q_h1_5; revert vb; revert va
          exact KEY134A.it
         ·skip
          have T2 := hide (unhide TT).newB
          go_simp
          generalize X.alloc (.cells #[.slice none 0 0, .slice none 0 0] 39) = X2 at *
          generalize X.heap.size = g2 at *
          refine hK.out _ _ (unhide KS744 _ (unhide T2).bel) ?_
          clear hK K hS TT
          intro hS
          try simp [Act.put]
          revert hS; revert T2; revert X2; revert g2; revert q_h0_0 q_h0_1 q_h0_2 q_h0_3 q_h0_4 q_h0_5 q_h0_6 q_h0_7 q_h0_8 q_h1_0 q_h1_1 q_h1_2 q_h1_3 q_h1_4 q_h1_5; revert vb; revert va
          exact KEY134B.it
        intro va vb ga gb X TT hS
        refine wpAnyH_ready (rs := [4]) (by kernel_rfl) (by simp) ?_
        refine AllReadyH.cons rfl (fun K hK => ?_) (AllReadyH.nil)
        go_simp
        refine (impl_two d f _ _ _ (unhide HS25) (unhide HS41) (unhide TT).p.1 (unhide TT).p.2 ((unhide HE).up ((unhide B706).trans ((unhide TT).bel.mono (unhide B706).size)))).mono ?_
        rintro e X2 ⟨q_h0_0, q_h0_1, q_h0_2, q_h0_3, q_h0_4, q_h0_5, q_h0_6, q_h0_7, q_h0_8, q_h1_0, q_h1_1, q_h1_2, q_h1_3, q_h1_4, q_h1_5, rfl, RR, b2⟩
        have T2 := hide ((unhide TT).three b2 (unhide RR))
        clear RR b2
        refine hK.out _ _ (unhide KS744 _ (unhide T2).bel) ?_
        clear hK K hS TT
        intro hS
        try simp [Act.put]
        refine wpAnyH_take (i := 5) (v := .tuple #[.agg #[.slice q_h0_0 q_h0_1 q_h0_2, .slice q_h0_3 q_h0_4 q_h0_5, .slice q_h0_6 q_h0_7 q_h0_8], .agg #[.slice q_h1_0 q_h1_1 q_h1_2, .slice q_h1_3 q_h1_4 q_h1_5], .int .i64 (gpC d f)]) rfl (by kernel_rfl) (by kernel_rfl) (by kernel_rfl) (fun _ _ _ h => h) (Or.inl ⟨by rfl, ?_⟩) hS ?_
        ·intro X _
         clear hS
         go_simp
         try with_reducible rfl
        try simp [Act.put]
        refine wpAnyH_take (i := 6) (v := .agg #[.slice q_h0_0 q_h0_1 q_h0_2, .slice q_h0_3 q_h0_4 q_h0_5, .slice q_h0_6 q_h0_7 q_h0_8]) rfl (by kernel_rfl) (by kernel_rfl) (by kernel_rfl) (fun _ _ _ h => h) (Or.inl ⟨by rfl, ?_⟩) hS ?_
        ·intro X _
         clear hS
         go_simp
         try with_reducible rfl
        try simp [Act.put]
        refine wpAnyH_take (i := 7) (v := .agg #[.slice q_h1_0 q_h1_1 q_h1_2, .slice q_h1_3 q_h1_4 q_h1_5]) rfl (by kernel_rfl) (by kernel_rfl) (by kernel_rfl) (fun _ _ _ h => h) (Or.inl ⟨by rfl, ?_⟩) hS ?_
        ·intro X _
         clear hS
         go_simp
         try with_reducible rfl
        try simp [Act.put]
        refine wpAnyH_take (i := 8) (v := .int .i64 (gpC d f)) rfl (by kernel_rfl) (by kernel_rfl) (by kernel_rfl) (fun _ _ _ h => h) (Or.inl ⟨by rfl, ?_⟩) hS ?_
        ·intro X _
         clear hS
         go_simp
         try with_reducible rfl
        try simp [Act.put]
        revert hS; revert T2; revert X2; revert gb; revert ga; revert q_h0_0 q_h0_1 q_h0_2 q_h0_3 q_h0_4 q_h0_5 q_h0_6 q_h0_7 q_h0_8 q_h1_0 q_h1_1 q_h1_2 q_h1_3 q_h1_4 q_h1_5; revert vb; revert va
        exact KEY134AB.it
       intro va vb q_h0_0 q_h0_1 q_h0_2 q_h0_3 q_h0_4 q_h0_5 q_h0_6 q_h0_7 q_h0_8 q_h1_0 q_h1_1 q_h1_2 q_h1_3 q_h1_4 q_h1_5 gb X TT hS
       refine wpAnyH_ready (rs := [9]) (by kernel_rfl) (by simp) ?_
       refine AllReadyH.cons rfl (fun K hK => ?_) (AllReadyH.nil)
       have T2 := hide (unhide TT).newA
       go_simp
       generalize X.alloc (.cells #[.slice none 0 0, .slice none 0 0, .slice none 0 0] 36) = X2 at *
       generalize X.heap.size = g2 at *
       refine hK.out _ _ (unhide KS744 _ (unhide T2).bel) ?_
       clear hK K hS TT
       intro hS
       try simp [Act.put]
       revert hS; revert T2; revert X2; revert gb; revert g2; revert q_h0_0 q_h0_1 q_h0_2 q_h0_3 q_h0_4 q_h0_5 q_h0_6 q_h0_7 q_h0_8 q_h1_0 q_h1_1 q_h1_2 q_h1_3 q_h1_4 q_h1_5; revert vb; revert va
       exact KEY134AB.it
      intro va vb q_h0_0 q_h0_1 q_h0_2 q_h0_3 q_h0_4 q_h0_5 q_h0_6 q_h0_7 q_h0_8 q_h1_0 q_h1_1 q_h1_2 q_h1_3 q_h1_4 q_h1_5 ga X TT hS
      refine wpAnyH_ready (rs := [10]) (by kernel_rfl) (by simp) ?_
      refine AllReadyH.cons rfl (fun K hK => ?_) (AllReadyH.nil)
      have T2 := hide (unhide TT).newB
      go_simp
      generalize X.alloc (.cells #[.slice none 0 0, .slice none 0 0] 39) = X2 at *
      generalize X.heap.size = g2 at *
      refine hK.out _ _ (unhide KS744 _ (unhide T2).bel) ?_
      clear hK K hS TT
      intro hS
      try simp [Act.put]
      revert hS; revert T2; revert X2; revert g2; revert ga; revert q_h0_0 q_h0_1 q_h0_2 q_h0_3 q_h0_4 q_h0_5 q_h0_6 q_h0_7 q_h0_8 q_h1_0 q_h1_1 q_h1_2 q_h1_3 q_h1_4 q_h1_5; revert vb; revert va
      exact KEY134AB.it
     intro va vb q_h0_0 q_h0_1 q_h0_2 q_h0_3 q_h0_4 q_h0_5 q_h0_6 q_h0_7 q_h0_8 q_h1_0 q_h1_1 q_h1_2 q_h1_3 q_h1_4 q_h1_5 ga gb X TT hS
     obtain ⟨fa, fb, na, nb, EA, EB, XA, XB, RA, RB⟩ := (unhide TT).done
     obtain ⟨⟨ca0, ca1, ca2⟩, fa0, fa1, fa2⟩ := fa.three
     obtain ⟨⟨cb0, cb1⟩, fb0, fb1⟩ := fb.twoF
     clear fa fb
     refine wpAnyH_ready (rs := [11]) (by kernel_rfl) (by simp) ?_
     refine AllReadyH.cons rfl (fun K hK => ?_) AllReadyH.nil
     go_simp
     refine hK.out _ _ (unhide KS744 _ (unhide EA)) ?_
     clear hK K hS
     intro hS
     try simp [Act.put]
     refine wpAnyH_ready (rs := [12]) (by kernel_rfl) (by simp) ?_
     refine AllReadyH.cons rfl (fun K hK => ?_) AllReadyH.nil
     go_simp
     refine hK.out _ _ (unhide KS744 _ (unhide EB)) ?_
     clear hK K hS
     intro hS
     try simp [Act.put]
     refine wpAnyH_take (i := 13) (v := .int .i64 (gpC d f)) rfl (by kernel_rfl) (by kernel_rfl) (by kernel_rfl) (fun _ _ _ h => h) (Or.inl ⟨by rfl, ?_⟩) hS ?_
     ·intro X _
      clear hS
      go_simp
      try with_reducible rfl
     try simp [Act.put]
     refine wpAnyH_done (by kernel_rfl) ?_ _
     clear hS ca0 ca1 ca2 cb0 cb1 fa0 fa1 fa2 fb0 fb1 na nb
     go_wp2_with fail
     go_meet
     exact ⟨_, _, _, _, _, _, _, _, _, _, _, _, _, _, _, _, _, rfl, rfl, rfl, XA, XB, RA, RB, EB⟩
    case rest =>
     obtain ⟨ga_h, gb_h, q_h0_0, q_h0_1, q_h0_2, q_h0_3, q_h0_4, q_h0_5, q_h0_6, q_h0_7, q_h0_8, q_h1_0, q_h1_1, q_h1_2, q_h1_3, q_h1_4, q_h1_5, rfl, rfl, rfl, BX746, BX747, U748, U749, Bc750⟩ := hcut
     obtain ⟨wc751, rfl⟩ : ∃ X : World, X = wc := ⟨_, rfl⟩
     have B752 := hide ((unhide B706).trans ((unhide Bc750).mono (unhide B706).size))
     clear B706
     have BU753 := hide ((unhide BU707).trans ((unhide Bc750).mono (unhide BU707).size))
     clear BU707
     have BX754 := hide ((unhide BX708).up (unhide Bc750))
     clear BX708
     have BX755 := hide ((unhide BX709).up (unhide Bc750))
     clear BX709
     have BX756 := hide ((unhide BX710).up (unhide Bc750))
     clear BX710
     have BX757 := hide ((unhide BX711).up (unhide Bc750))
     clear BX711
     have BX758 := hide ((unhide BX712).up (unhide Bc750))
     clear BX712
     have BX759 := hide ((unhide BX713).up (unhide Bc750))
     clear BX713
     have BX760 := hide ((unhide BX714).up (unhide Bc750))
     clear BX714
     have BX761 := hide ((unhide BX715).up (unhide Bc750))
     clear BX715
     have O762 := hide ((unhide O716).up (unhide Bc750))
     clear O716
     have O763 := hide ((unhide O717).up (unhide Bc750))
     clear O717
     have O764 := hide ((unhide O718).up (unhide Bc750))
     clear O718
     have O765 := hide ((unhide O719).up (unhide Bc750))
     clear O719
     have Z766 := hide (show w704.heap.size ≤ wc751.heap.size from (unhide Bc750).size)
     clear Bc750 BD743 KS744
     have Z767 := hide (unhide BX746).1
     have Z768 := hide (unhide BX747).1
     obtain ⟨x769, x770, x771⟩ := (unhide BX754).three
     obtain ⟨x772, x773, x774⟩ := (unhide BX755).three
     obtain ⟨x775, x776, x777⟩ := (unhide BX756).three
     obtain ⟨x778, x779⟩ := (unhide BX757).two
     obtain ⟨x780, x781, x782⟩ := (unhide BX758).three
     obtain ⟨x783, x784, x785⟩ := (unhide BX759).three
     obtain ⟨x786, x787, x788⟩ := (unhide BX760).three
     obtain ⟨x789, x790⟩ := (unhide BX761).two
     obtain ⟨x791, x792, x793⟩ := (unhide BX746).three
     obtain ⟨x794, x795⟩ := (unhide BX747).two
     go_wp2_with fail
     clear x769 x770 x771 x772 x773 x774 x775 x776 x777 x778 x779 x780 x781 x782 x783 x784 x785 x786 x787 x788 x789 x790 x791 x792 x793 x794 x795
     refine (eqGatherF_kit (gpG d f) _ _ wc751 (unhide HRS0) (unhide U748).rd ((unhide U53).up (unhide BU753))).mono ?_
     rintro e w796 ⟨rfl, b797⟩
     have B798 := hide ((unhide B752).trans (b797.mono (unhide B752).size))
     clear B752
     have BU799 := hide ((unhide BU753).trans (b797.mono (unhide BU753).size))
     clear BU753
     have BX800 := hide ((unhide BX754).up b797)
     clear BX754
     have BX801 := hide ((unhide BX755).up b797)
     clear BX755
     have BX802 := hide ((unhide BX756).up b797)
     clear BX756
     have BX803 := hide ((unhide BX757).up b797)
     clear BX757
     have BX804 := hide ((unhide BX758).up b797)
     clear BX758
     have BX805 := hide ((unhide BX759).up b797)
     clear BX759
     have BX806 := hide ((unhide BX760).up b797)
     clear BX760
     have BX807 := hide ((unhide BX761).up b797)
     clear BX761
     have BX808 := hide ((unhide BX746).up b797)
     clear BX746
     have BX809 := hide ((unhide BX747).up b797)
     clear BX747
     have O810 := hide ((unhide O762).up b797)
     clear O762
     have O811 := hide ((unhide O763).up b797)
     clear O763
     have O812 := hide ((unhide O764).up b797)
     clear O764
     have O813 := hide ((unhide O765).up b797)
     clear O765
     have O814 := hide ((unhide U748).up b797)
     clear U748
     have O815 := hide ((unhide U749).up b797)
     clear U749
     have Z816 := hide (show wc751.heap.size ≤ w796.heap.size from b797.size)
     clear b797
     obtain ⟨x817, x818, x819⟩ := (unhide BX800).three
     obtain ⟨x820, x821, x822⟩ := (unhide BX801).three
     obtain ⟨x823, x824, x825⟩ := (unhide BX802).three
     obtain ⟨x826, x827⟩ := (unhide BX803).two
     obtain ⟨x828, x829, x830⟩ := (unhide BX804).three
     obtain ⟨x831, x832, x833⟩ := (unhide BX805).three
     obtain ⟨x834, x835, x836⟩ := (unhide BX806).three
     obtain ⟨x837, x838⟩ := (unhide BX807).two
     obtain ⟨x839, x840, x841⟩ := (unhide BX808).three
     obtain ⟨x842, x843⟩ := (unhide BX809).two
     go_wp2_with fail
     clear x817 x818 x819 x820 x821 x822 x823 x824 x825 x826 x827 x828 x829 x830 x831 x832 x833 x834 x835 x836 x837 x838 x839 x840 x841 x842 x843
     refine (eqShow_kit (gpS d f) _ _ w796 (unhide HRS1) (unhide O815).rd ((unhide U54).up (unhide BU799))).mono ?_
     rintro e w844 ⟨rfl, b845⟩
     have B846 := hide ((unhide B798).trans (b845.mono (unhide B798).size))
     clear B798
     have BU847 := hide ((unhide BU799).trans (b845.mono (unhide BU799).size))
     clear BU799
     have BX848 := hide ((unhide BX800).up b845)
     clear BX800
     have BX849 := hide ((unhide BX801).up b845)
     clear BX801
     have BX850 := hide ((unhide BX802).up b845)
     clear BX802
     have BX851 := hide ((unhide BX803).up b845)
     clear BX803
     have BX852 := hide ((unhide BX804).up b845)
     clear BX804
     have BX853 := hide ((unhide BX805).up b845)
     clear BX805
     have BX854 := hide ((unhide BX806).up b845)
     clear BX806
     have BX855 := hide ((unhide BX807).up b845)
     clear BX807
     have BX856 := hide ((unhide BX808).up b845)
     clear BX808
     have BX857 := hide ((unhide BX809).up b845)
     clear BX809
     have O858 := hide ((unhide O810).up b845)
     clear O810
     have O859 := hide ((unhide O811).up b845)
     clear O811
     have O860 := hide ((unhide O812).up b845)
     clear O812
     have O861 := hide ((unhide O813).up b845)
     clear O813
     have O862 := hide ((unhide O814).up b845)
     clear O814
     have O863 := hide ((unhide O815).up b845)
     clear O815
     have Z864 := hide (show w796.heap.size ≤ w844.heap.size from b845.size)
     clear b845
     obtain ⟨x865, x866, x867⟩ := (unhide BX848).three
     obtain ⟨x868, x869, x870⟩ := (unhide BX849).three
     obtain ⟨x871, x872, x873⟩ := (unhide BX850).three
     obtain ⟨x874, x875⟩ := (unhide BX851).two
     obtain ⟨x876, x877, x878⟩ := (unhide BX852).three
     obtain ⟨x879, x880, x881⟩ := (unhide BX853).three
     obtain ⟨x882, x883, x884⟩ := (unhide BX854).three
     obtain ⟨x885, x886⟩ := (unhide BX855).two
     obtain ⟨x887, x888, x889⟩ := (unhide BX856).three
     obtain ⟨x890, x891⟩ := (unhide BX857).two
     go_wp2_with fail
     clear x865 x866 x867 x868 x869 x870 x871 x872 x873 x874 x875 x876 x877 x878 x879 x880 x881 x882 x883 x884 x885 x886 x887 x888 x889 x890 x891
     refine (heldGatherF_kit (gpG d f) _ w844 (1) M_0 (1) (by omega) (unhide HM_0) (by omega) (unhide HRS0) (unhide O860).rd).mono ?_
     rintro e w892 ⟨rfl, b893⟩
     have B894 := hide ((unhide B846).trans (b893.mono (unhide B846).size))
     clear B846
     have BU895 := hide ((unhide BU847).trans (b893.mono (unhide BU847).size))
     clear BU847
     have BX896 := hide ((unhide BX848).up b893)
     clear BX848
     have BX897 := hide ((unhide BX849).up b893)
     clear BX849
     have BX898 := hide ((unhide BX850).up b893)
     clear BX850
     have BX899 := hide ((unhide BX851).up b893)
     clear BX851
     have BX900 := hide ((unhide BX852).up b893)
     clear BX852
     have BX901 := hide ((unhide BX853).up b893)
     clear BX853
     have BX902 := hide ((unhide BX854).up b893)
     clear BX854
     have BX903 := hide ((unhide BX855).up b893)
     clear BX855
     have BX904 := hide ((unhide BX856).up b893)
     clear BX856
     have BX905 := hide ((unhide BX857).up b893)
     clear BX857
     have O906 := hide ((unhide O858).up b893)
     clear O858
     have O907 := hide ((unhide O859).up b893)
     clear O859
     have O908 := hide ((unhide O860).up b893)
     clear O860
     have O909 := hide ((unhide O861).up b893)
     clear O861
     have O910 := hide ((unhide O862).up b893)
     clear O862
     have O911 := hide ((unhide O863).up b893)
     clear O863
     have Z912 := hide (show w844.heap.size ≤ w892.heap.size from b893.size)
     clear b893
     obtain ⟨x913, x914, x915⟩ := (unhide BX896).three
     obtain ⟨x916, x917, x918⟩ := (unhide BX897).three
     obtain ⟨x919, x920, x921⟩ := (unhide BX898).three
     obtain ⟨x922, x923⟩ := (unhide BX899).two
     obtain ⟨x924, x925, x926⟩ := (unhide BX900).three
     obtain ⟨x927, x928, x929⟩ := (unhide BX901).three
     obtain ⟨x930, x931, x932⟩ := (unhide BX902).three
     obtain ⟨x933, x934⟩ := (unhide BX903).two
     obtain ⟨x935, x936, x937⟩ := (unhide BX904).three
     obtain ⟨x938, x939⟩ := (unhide BX905).two
     go_wp2_with fail
     clear x913 x914 x915 x916 x917 x918 x919 x920 x921 x922 x923 x924 x925 x926 x927 x928 x929 x930 x931 x932 x933 x934 x935 x936 x937 x938 x939
     refine (heldShow_kit (gpS d f) _ w892 (1 + M_0) M_1 (1 + (M_0 : Int)) (by omega) (unhide HM_1) (by omega) (unhide HRS1) (unhide O909).rd).mono ?_
     rintro e w940 ⟨rfl, b941⟩
     have B942 := hide ((unhide B894).trans (b941.mono (unhide B894).size))
     clear B894
     have BU943 := hide ((unhide BU895).trans (b941.mono (unhide BU895).size))
     clear BU895
     have BX944 := hide ((unhide BX896).up b941)
     clear BX896
     have BX945 := hide ((unhide BX897).up b941)
     clear BX897
     have BX946 := hide ((unhide BX898).up b941)
     clear BX898
     have BX947 := hide ((unhide BX899).up b941)
     clear BX899
     have BX948 := hide ((unhide BX900).up b941)
     clear BX900
     have BX949 := hide ((unhide BX901).up b941)
     clear BX901
     have BX950 := hide ((unhide BX902).up b941)
     clear BX902
     have BX951 := hide ((unhide BX903).up b941)
     clear BX903
     have BX952 := hide ((unhide BX904).up b941)
     clear BX904
     have BX953 := hide ((unhide BX905).up b941)
     clear BX905
     have O954 := hide ((unhide O906).up b941)
     clear O906
     have O955 := hide ((unhide O907).up b941)
     clear O907
     have O956 := hide ((unhide O908).up b941)
     clear O908
     have O957 := hide ((unhide O909).up b941)
     clear O909
     have O958 := hide ((unhide O910).up b941)
     clear O910
     have O959 := hide ((unhide O911).up b941)
     clear O911
     have Z960 := hide (show w892.heap.size ≤ w940.heap.size from b941.size)
     clear b941
     obtain ⟨x961, x962, x963⟩ := (unhide BX944).three
     obtain ⟨x964, x965, x966⟩ := (unhide BX945).three
     obtain ⟨x967, x968, x969⟩ := (unhide BX946).three
     obtain ⟨x970, x971⟩ := (unhide BX947).two
     obtain ⟨x972, x973, x974⟩ := (unhide BX948).three
     obtain ⟨x975, x976, x977⟩ := (unhide BX949).three
     obtain ⟨x978, x979, x980⟩ := (unhide BX950).three
     obtain ⟨x981, x982⟩ := (unhide BX951).two
     obtain ⟨x983, x984, x985⟩ := (unhide BX952).three
     obtain ⟨x986, x987⟩ := (unhide BX953).two
     go_wp2_with fail
     go_ret
     exact ⟨rfl, unhide B942⟩

end Go.Proofs.YtknkdbfgfcgkiaaGreatDoor
