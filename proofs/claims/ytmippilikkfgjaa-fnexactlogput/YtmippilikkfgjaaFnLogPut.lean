/-
  Proved: at every argument the law on LogPut answers true, and the arguments read afterwards as before: the program puts a record behind a log as the specification does, and its answer owns its memory. No condition.
-/
import Derived.Test.YtmippilikkfgjaaLogPutS
import Derived.Test.YtmippilikkfgjaaLogPutJ
import Derived.Test.YtmippilikkfgjaaMerged6
import Derived.Test.YtmippilikkfgjaaMerged2
import Derived.Test.YtmippilikkfgjaaRows
import Derived.WalkKit
import Derived.ProofKit
import Derived.OpenShut
import Derived.Handy
namespace Go.Proofs.Ytmippilikkfgjaa.fnExactLogPut
open Go.ChangeShapes Go.WideShapes Go.ChangeAt Go.RowKit Go.Deep Go.Maps
set_option linter.unusedVariables false

theorem spec_kit (d : DiskV) (v : Value) (r : RecV) (w : World) (hs : SmallDisk d) (hf : RecFit r) (h : DiskRd w v d) :
    Calls Try.prog 7 #[v, .agg #[.int .i64 r.kind, .string r.name, .int .i64 r.num, .string r.text]] w fun e w' => ∃ v S, e = .returned (.tuple #[v, .int .i64 (lpI d r)]) ∧ Hid (DiskOwn S w' v (lpV d r)) ∧ Hid (∀ k ∈ S, w.heap.size ≤ k) ∧ Below w.heap.size w w' := specLogPut_any d v r w hs hf h
theorem impl_kit (d : DiskV) (v : Value) (r : RecV) (w : World) (hs : SmallDisk d) (hf : RecFit r) (h : DiskRd w v d) :
    Calls Try.prog 10 #[v, .agg #[.int .i64 r.kind, .string r.name, .int .i64 r.num, .string r.text]] w fun e w' => ∃ v S, e = .returned (.tuple #[v, .int .i64 (lpI d r)]) ∧ Hid (DiskOwn S w' v (lpV d r)) ∧ Hid (∀ k ∈ S, w.heap.size ≤ k) ∧ Below w.heap.size w w' := implLogPut_any d v r w hs hf h

set_option maxHeartbeats 12800000 in
theorem walk (d : DiskV) (v_d : Value) (r : RecV) (w : World) (hf_d : DiskFit d) (hr_d : DiskRd w v_d d) (hf_r : RecFit r) :
    Calls Try.prog 3 #[v_d, recVal r] w fun e w' => e = .returned (.bool true) ∧ Below w.heap.size w w' := by
  have HF_d := hide hf_d
  clear hf_d
  have HR_d := hide hr_d
  obtain ⟨p_d0, p_d1, p_d2, p_d3, p_d4, p_d5, p_d6, p_d7, rfl⟩ := hr_d.form
  clear hr_d
  have HF_r := hide hf_r
  clear hf_r
  unfold recVal
  go_enter Try.func3, Try.ntmps3
  obtain ⟨bx1, b2, zz3⟩ := boxNew4 w (.slice p_d0 p_d1 p_d2) (.slice p_d3 p_d4 p_d5) (.int .i64 p_d6) (.bool p_d7) 24
  obtain ⟨bx4, b5, zz6⟩ := boxNew4 (w.alloc (.cells #[.slice p_d0 p_d1 p_d2, .slice p_d3 p_d4 p_d5, .int .i64 p_d6, .bool p_d7] 24)) (.int .i64 r.kind) (.string r.name) (.int .i64 r.num) (.string r.text) 26
  rw [World.size_alloc] at bx4
  go_wp2_with fail
  generalize w.alloc (.cells #[.slice p_d0 p_d1 p_d2, .slice p_d3 p_d4 p_d5, .int .i64 p_d6, .bool p_d7] 24) = W7 at *
  have B9 := hide b2
  have Z10 := hide (show w.heap.size < W7.heap.size from zz3)
  have BX8 := hide bx1
  clear bx1 b2 zz3
  generalize W7.alloc (.cells #[.int .i64 r.kind, .string r.name, .int .i64 r.num, .string r.text] 26) = W11 at *
  have B13 := hide ((unhide B9).trans (b5.mono (unhide B9).size))
  clear B9
  have BX14 := hide ((unhide BX8).up b5)
  clear BX8
  have Z15 := hide (show W7.heap.size < W11.heap.size from zz6)
  have BX12 := hide bx4
  clear bx4 b5 zz6
  refine (szDisk_kitL d _ 1048576 W11 (by omega) (by omega) (unhide HF_d) ((unhide HR_d).up (unhide B13))).mono ?_
  rintro e w16 ⟨q17, rfl, ql20, HQ18, b19⟩
  have B21 := hide ((unhide B13).trans (b19.mono (unhide B13).size))
  clear B13
  have BX22 := hide ((unhide BX14).up b19)
  clear BX14
  have BX23 := hide ((unhide BX12).up b19)
  clear BX12
  have Z24 := hide (show W11.heap.size ≤ w16.heap.size from b19.size)
  clear b19
  by_cases hnegq17 : q17 < 0
  · go_wp2_with fail
    go_ret
    exact ⟨rfl, unhide B21⟩
  have HS25 := hide (unhide HQ18 (by omega))
  obtain ⟨x26, x27, x28, x29⟩ := (unhide BX22).four
  obtain ⟨x30, x31, x32, x33⟩ := (unhide BX23).four
  go_wp2_with fail
  clear x26 x27 x28 x29 x30 x31 x32 x33
  refine (szRec_kitL r q17 w16 (by omega) (by omega) (unhide HF_r)).mono ?_
  rintro e w34 ⟨q35, rfl, ql38, HQ36, b37⟩
  have B39 := hide ((unhide B21).trans (b37.mono (unhide B21).size))
  clear B21
  have BX40 := hide ((unhide BX22).up b37)
  clear BX22
  have BX41 := hide ((unhide BX23).up b37)
  clear BX23
  have Z42 := hide (show w16.heap.size ≤ w34.heap.size from b37.size)
  clear b37
  by_cases hnegq35 : q35 < 0
  · go_wp2_with fail
    go_ret
    exact ⟨rfl, unhide B39⟩
  have HS43 := hide (unhide HQ36 (by omega))
  obtain ⟨N_d, HN_d⟩ : ∃ N, Hid (nDisk d = N) := ⟨_, rfl⟩
  have NL_d : N_d ≤ 100000000 := by rw [← unhide HN_d]; exact nDisk_le (unhide HS25)
  have HRS0 := hide (show SmallDisk (lpV d r) from small_lpV (unhide HS25) r)
  obtain ⟨M_0, HM_0⟩ : ∃ N, Hid (nDisk (lpV d r) = N) := ⟨_, rfl⟩
  have ML_0 : M_0 ≤ 100000000 := by rw [← unhide HM_0]; exact nDisk_le (unhide HRS0)
  obtain ⟨x44, x45, x46, x47⟩ := (unhide BX40).four
  obtain ⟨x48, x49, x50, x51⟩ := (unhide BX41).four
  go_wp2_with fail
  have KP52 := hide (show ∀ X : World, Below w34.heap.size w34 X → (fun (X : World) => (X.cell? ⟨w.heap.size, 0, none⟩ = some (.slice p_d0 p_d1 p_d2) ∧ X.cell? ⟨w.heap.size, 1, none⟩ = some (.slice p_d3 p_d4 p_d5) ∧ X.cell? ⟨w.heap.size, 2, none⟩ = some (.int .i64 p_d6) ∧ X.cell? ⟨w.heap.size, 3, none⟩ = some (.bool p_d7)) ∧ (X.cell? ⟨w.heap.size + 1, 0, none⟩ = some (.int .i64 r.kind) ∧ X.cell? ⟨w.heap.size + 1, 1, none⟩ = some (.string r.name) ∧ X.cell? ⟨w.heap.size + 1, 2, none⟩ = some (.int .i64 r.num) ∧ X.cell? ⟨w.heap.size + 1, 3, none⟩ = some (.string r.text)) ∧ Hid (Below w34.heap.size w34 X)) X from fun X b => ⟨((unhide BX40).up b).four, ((unhide BX41).up b).four, hide b⟩)
  have BD53 := hide ((Below.refl w34.heap.size w34).drew)
  apply key_of
  · intro KEY
    go_region_held3 (fun (X : World) => (X.cell? ⟨w.heap.size, 0, none⟩ = some (.slice p_d0 p_d1 p_d2) ∧ X.cell? ⟨w.heap.size, 1, none⟩ = some (.slice p_d3 p_d4 p_d5) ∧ X.cell? ⟨w.heap.size, 2, none⟩ = some (.int .i64 p_d6) ∧ X.cell? ⟨w.heap.size, 3, none⟩ = some (.bool p_d7)) ∧ (X.cell? ⟨w.heap.size + 1, 0, none⟩ = some (.int .i64 r.kind) ∧ X.cell? ⟨w.heap.size + 1, 1, none⟩ = some (.string r.name) ∧ X.cell? ⟨w.heap.size + 1, 2, none⟩ = some (.int .i64 r.num) ∧ X.cell? ⟨w.heap.size + 1, 3, none⟩ = some (.string r.text)) ∧ Hid (Below w34.heap.size w34 X)) ((first | (refine unhide KP52 _ ?_; exact unhide (by assumption)) | (refine unhide KP52 _ ?_; exact (unhide BB67).alloc (unhide BB67).size _) | (refine unhide KP52 _ ?_; exact (unhide BB63).alloc (unhide BB63).size _) | (refine unhide KP52 _ ?_; exact (unhide BB60).alloc (unhide BB60).size _) | (refine unhide KP52 _ ?_; exact (unhide BD53).alloc (unhide BD53).size _) | (refine unhide KP52 _ ?_; exact below_set4 (unhide BB67) (by first | exact Nat.le_refl _ | exact (unhide BB60).size | exact (unhide BB63).size | exact (unhide BB67).size) _ _ _ _) | (refine unhide KP52 _ ?_; exact below_set4 ((unhide BB67).alloc (unhide BB67).size _) (by first | exact Nat.le_refl _ | exact (unhide BB60).size | exact (unhide BB63).size | exact (unhide BB67).size) _ _ _ _)))
      (first
        | (go_at_call 7; with_reducible show Calls _ _ _ (w61.alloc _) _; have _tBB63 := BB63; refine (spec_kit d _ r _ (unhide HS25) (unhide HF_r) ((unhide O64).up ((Below.refl _ _).alloc (Nat.le_refl _) (.cells #[.slice none 0 0, .slice none 0 0, .int .i64 0, .bool false] 29))).rd).mono ?_; rintro e w65 ⟨v68, S69, rfl, O70, L71, b66⟩; have BB67 := hide (((unhide BB63).alloc (unhide BB63).size (.cells #[.slice none 0 0, .slice none 0 0, .int .i64 0, .bool false] 29)).trans (b66.mono ((unhide BB63).alloc (unhide BB63).size (.cells #[.slice none 0 0, .slice none 0 0, .int .i64 0, .bool false] 29)).size)); have NS := hide (boxF_notin (boxF_new w61 [.slice none 0 0, .slice none 0 0, .int .i64 0, .bool false] 29) (unhide L71)); obtain ⟨q_w0_0, q_w0_1, q_w0_2, q_w0_3, q_w0_4, q_w0_5, q_w0_6, q_w0_7, rfl⟩ := (unhide O70).rd.form; have NB := hide ((boxF_new w61 [.slice none 0 0, .slice none 0 0, .int .i64 0, .bool false] 29).up b66); have NBL := hide (show w34.heap.size ≤ w61.heap.size from (unhide BB63).size); (try obtain ⟨⟨nc0, nc1, nc2, nc3⟩, nf0, nf1, nf2, nf3⟩ := (unhide NB).four); clear b66)
        | (go_at_call 7; with_reducible show Calls _ _ _ w61 _; have _tBB63 := BB63; refine (spec_kit d _ r _ (unhide HS25) (unhide HF_r) (unhide O64).rd).mono ?_; rintro e w65 ⟨v68, S69, rfl, O70, L71, b66⟩; have BB67 := hide ((unhide BB63).trans (b66.mono (unhide BB63).size)); (try have NS := hide (boxF_notin (unhide NB) (unhide L71))); obtain ⟨q_w0_0, q_w0_1, q_w0_2, q_w0_3, q_w0_4, q_w0_5, q_w0_6, q_w0_7, rfl⟩ := (unhide O70).rd.form; (try have NB := hide ((unhide NB).up b66)); (try obtain ⟨⟨nc0, nc1, nc2, nc3⟩, nf0, nf1, nf2, nf3⟩ := (unhide NB).four); clear b66)
        | (go_at_call 9; with_reducible show Calls _ _ _ (w54.alloc _) _; have _tBB60 := BB60; refine (toRec_kit r _).mono ?_; rintro e w61 ⟨rfl, b62⟩; have O64 := hide (((unhide O57).up ((Below.refl _ _).alloc (Nat.le_refl _) (.cells #[.slice none 0 0, .slice none 0 0, .int .i64 0, .bool false] 29))).up b62); have BB63 := hide (((unhide BB60).alloc (unhide BB60).size (.cells #[.slice none 0 0, .slice none 0 0, .int .i64 0, .bool false] 29)).trans (b62.mono ((unhide BB60).alloc (unhide BB60).size (.cells #[.slice none 0 0, .slice none 0 0, .int .i64 0, .bool false] 29)).size)); have NB := hide ((boxF_new w54 [.slice none 0 0, .slice none 0 0, .int .i64 0, .bool false] 29).up b62); have NBL := hide (show w34.heap.size ≤ w54.heap.size from (unhide BB60).size); clear b62)
        | (go_at_call 9; with_reducible show Calls _ _ _ w54 _; have _tBB60 := BB60; refine (toRec_kit r _).mono ?_; rintro e w61 ⟨rfl, b62⟩; have O64 := hide ((unhide O57).up b62); have BB63 := hide ((unhide BB60).trans (b62.mono (unhide BB60).size)); (try have NB := hide ((unhide NB).up b62)); clear b62)
        | (go_at_call 8; with_reducible show Calls _ _ _ ((w34.alloc _).drew) _; refine (toDisk_kit d _ _ (unhide HS25) ((unhide HR_d).up ((unhide B39).trans ((((Below.refl w34.heap.size w34).alloc (Nat.le_refl _) (.cells #[.slice none 0 0, .slice none 0 0, .int .i64 0, .bool false] 29)).drew).mono (unhide B39).size)))).mono ?_; rintro e w54 ⟨v55, S56, rfl, O57, L58, b59⟩; have BB60 := hide ((((Below.refl w34.heap.size w34).alloc (Nat.le_refl _) (.cells #[.slice none 0 0, .slice none 0 0, .int .i64 0, .bool false] 29)).drew).trans (b59.mono (((Below.refl w34.heap.size w34).alloc (Nat.le_refl _) (.cells #[.slice none 0 0, .slice none 0 0, .int .i64 0, .bool false] 29)).drew).size)); have NB := hide (((boxF_new w34 [.slice none 0 0, .slice none 0 0, .int .i64 0, .bool false] 29).up ((Below.refl _ _).drew)).up b59); have NBL := hide (show w34.heap.size ≤ w34.heap.size from Nat.le_refl _); clear b59)
        | (go_at_call 8; with_reducible show Calls _ _ _ w34.drew _; refine (toDisk_kit d _ _ (unhide HS25) ((unhide HR_d).up ((unhide B39).trans ((unhide BD53).mono (unhide B39).size)))).mono ?_; rintro e w54 ⟨v55, S56, rfl, O57, L58, b59⟩; have BB60 := hide ((unhide BD53).trans (b59.mono (unhide BD53).size)); (try have NB := hide ((unhide NB).up b59)); clear b59)
        | fail)
    all_goals
      refine ‹∀ (a : Act) (w : World), Code.wp _ _ _ _ _ → _› _ _ ?_
      first
        | (have FE := hide (ended_alloc4 (unhide BB67) (unhide O70) (unhide L71) (unhide BB63).size (.slice q_w0_0 q_w0_1 q_w0_2) (.slice q_w0_3 q_w0_4 q_w0_5) (.int .i64 q_w0_6) (.bool q_w0_7) 29); generalize w65.alloc (.cells #[.slice q_w0_0 q_w0_1 q_w0_2, .slice q_w0_3 q_w0_4 q_w0_5, .int .i64 q_w0_6, .bool q_w0_7] 29) = YY at FE ⊢; generalize w65.heap.size = nb at FE ⊢; rename_i hHeld; clear hHeld; (try clear NS); clear L71 O70 O64 O57; revert v55 q_w0_0 q_w0_1 q_w0_2 q_w0_3 q_w0_4 q_w0_5 q_w0_6 q_w0_7 S69 nb YY FE; exact KEY.it)
        | (have FE := hide (ended_set4 (unhide BB67) (unhide NB) (unhide NBL) (unhide NS) (unhide O70) (unhide L71) (by first | exact (unhide BB63).size | exact Nat.le_trans (unhide BB63).size (by simp)) (.slice q_w0_0 q_w0_1 q_w0_2) (.slice q_w0_3 q_w0_4 q_w0_5) (.int .i64 q_w0_6) (.bool q_w0_7)); generalize (((w65.setCell ⟨w34.heap.size, 0, none⟩ (.slice q_w0_0 q_w0_1 q_w0_2)).setCell ⟨w34.heap.size, 1, none⟩ (.slice q_w0_3 q_w0_4 q_w0_5)).setCell ⟨w34.heap.size, 2, none⟩ (.int .i64 q_w0_6)).setCell ⟨w34.heap.size, 3, none⟩ (.bool q_w0_7) = YY at FE ⊢; generalize w34.heap.size = nb at FE ⊢; rename_i hHeld; clear hHeld; (try clear NS); clear L71 O70 O64 O57; revert v55 q_w0_0 q_w0_1 q_w0_2 q_w0_3 q_w0_4 q_w0_5 q_w0_6 q_w0_7 S69 nb YY FE; exact KEY.it)
        | (have FE := hide (ended_set4 (unhide BB67) (unhide NB) (unhide NBL) (unhide NS) (unhide O70) (unhide L71) (by first | exact (unhide BB63).size | exact Nat.le_trans (unhide BB63).size (by simp)) (.slice q_w0_0 q_w0_1 q_w0_2) (.slice q_w0_3 q_w0_4 q_w0_5) (.int .i64 q_w0_6) (.bool q_w0_7)); generalize (((w65.setCell ⟨w54.heap.size, 0, none⟩ (.slice q_w0_0 q_w0_1 q_w0_2)).setCell ⟨w54.heap.size, 1, none⟩ (.slice q_w0_3 q_w0_4 q_w0_5)).setCell ⟨w54.heap.size, 2, none⟩ (.int .i64 q_w0_6)).setCell ⟨w54.heap.size, 3, none⟩ (.bool q_w0_7) = YY at FE ⊢; generalize w54.heap.size = nb at FE ⊢; rename_i hHeld; clear hHeld; (try clear NS); clear L71 O70 O64 O57; revert v55 q_w0_0 q_w0_1 q_w0_2 q_w0_3 q_w0_4 q_w0_5 q_w0_6 q_w0_7 S69 nb YY FE; exact KEY.it)
        | (have FE := hide (ended_set4 (unhide BB67) (unhide NB) (unhide NBL) (unhide NS) (unhide O70) (unhide L71) (by first | exact (unhide BB63).size | exact Nat.le_trans (unhide BB63).size (by simp)) (.slice q_w0_0 q_w0_1 q_w0_2) (.slice q_w0_3 q_w0_4 q_w0_5) (.int .i64 q_w0_6) (.bool q_w0_7)); generalize (((w65.setCell ⟨w61.heap.size, 0, none⟩ (.slice q_w0_0 q_w0_1 q_w0_2)).setCell ⟨w61.heap.size, 1, none⟩ (.slice q_w0_3 q_w0_4 q_w0_5)).setCell ⟨w61.heap.size, 2, none⟩ (.int .i64 q_w0_6)).setCell ⟨w61.heap.size, 3, none⟩ (.bool q_w0_7) = YY at FE ⊢; generalize w61.heap.size = nb at FE ⊢; rename_i hHeld; clear hHeld; (try clear NS); clear L71 O70 O64 O57; revert v55 q_w0_0 q_w0_1 q_w0_2 q_w0_3 q_w0_4 q_w0_5 q_w0_6 q_w0_7 S69 nb YY FE; exact KEY.it)
        | (trace_state; fail)
  clear x44 x45 x46 x47 x48 x49 x50 x51
  intro v55 S69 q_w0_0 q_w0_1 q_w0_2 q_w0_3 q_w0_4 q_w0_5 q_w0_6 q_w0_7 w73 nb74 FE75
  obtain ⟨b76, bx77, Z81, O78, L79, NS80⟩ := unhide FE75
  clear FE75
  have B82 := hide ((unhide B39).trans (b76.mono (unhide B39).size))
  clear B39
  have BX83 := hide ((unhide BX40).up b76)
  clear BX40
  have BX84 := hide ((unhide BX41).up b76)
  clear BX41
  have Z85 := hide (show w34.heap.size ≤ w73.heap.size from b76.size)
  have Z86 := hide Z81
  have Z87 := hide bx77.1
  have O88 := hide O78
  have L89 := hide L79
  have NS90 := hide NS80
  have BX91 := hide bx77
  clear b76 bx77 O78 L79 NS80 Z81 KP52 BD53
  have H92 := hide (unhide O88).lt
  have U93 := hide (unhide O88).rd
  clear O88
  have BU94 := hide (Below.refl w73.heap.size w73)
  obtain ⟨x95, x96, x97, x98⟩ := (unhide BX83).four
  obtain ⟨x99, x100, x101, x102⟩ := (unhide BX84).four
  obtain ⟨x103, x104, x105, x106⟩ := (unhide BX91).four
  go_wp2_with fail
  clear x95 x96 x97 x98 x99 x100 x101 x102 x103 x104 x105 x106
  refine (toDisk_kit d _ w73 (unhide HS25) ((unhide HR_d).up (unhide B82))).mono ?_
  rintro e w107 ⟨v108, S109, rfl, O110, L111, b112⟩
  have B113 := hide ((unhide B82).trans (b112.mono (unhide B82).size))
  clear B82
  have BU114 := hide ((unhide BU94).trans (b112.mono (unhide BU94).size))
  clear BU94
  have BX115 := hide ((unhide BX83).up b112)
  clear BX83
  have BX116 := hide ((unhide BX84).up b112)
  clear BX84
  have BX117 := hide ((unhide BX91).up b112)
  clear BX91
  have Z118 := hide (show w73.heap.size ≤ w107.heap.size from b112.size)
  clear b112
  have H119 := hide (unhide O110).lt
  obtain ⟨r_d0, r_d1, r_d2, r_d3, r_d4, r_d5, r_d6, r_d7, rfl⟩ := (unhide O110).rd.form
  obtain ⟨x120, x121, x122, x123⟩ := (unhide BX115).four
  obtain ⟨x124, x125, x126, x127⟩ := (unhide BX116).four
  obtain ⟨x128, x129, x130, x131⟩ := (unhide BX117).four
  have lt132 : w.heap.size < w107.heap.size := (unhide BX115).1
  have lt133 : w.heap.size + 1 < w107.heap.size := (unhide BX116).1
  have lt134 : nb74 < w107.heap.size := (unhide BX117).1
  obtain ⟨bx135, b136, zz137⟩ := boxNew4 w107 (.slice r_d0 r_d1 r_d2) (.slice r_d3 r_d4 r_d5) (.int .i64 r_d6) (.bool r_d7) 29
  go_wp2_with fail
  generalize w107.alloc (.cells #[.slice r_d0 r_d1 r_d2, .slice r_d3 r_d4 r_d5, .int .i64 r_d6, .bool r_d7] 29) = W138 at *
  have B140 := hide ((unhide B113).trans (b136.mono (unhide B113).size))
  clear B113
  have BU141 := hide ((unhide BU114).trans (b136.mono (unhide BU114).size))
  clear BU114
  have BX142 := hide ((unhide BX115).up b136)
  clear BX115
  have BX143 := hide ((unhide BX116).up b136)
  clear BX116
  have BX144 := hide ((unhide BX117).up b136)
  clear BX117
  have O145 := hide ((unhide O110).up b136)
  clear O110
  have Z146 := hide (show w107.heap.size < W138.heap.size from zz137)
  have BX139 := hide bx135
  clear bx135 b136 zz137
  clear x120 x121 x122 x123 x124 x125 x126 x127 x128 x129 x130 x131 lt132 lt133 lt134
  obtain ⟨x147, x148, x149, x150⟩ := (unhide BX142).four
  obtain ⟨x151, x152, x153, x154⟩ := (unhide BX143).four
  obtain ⟨x155, x156, x157, x158⟩ := (unhide BX144).four
  obtain ⟨x159, x160, x161, x162⟩ := (unhide BX139).four
  have KP163 := hide (show ∀ X : World, Below W138.heap.size W138 X → (fun (X : World) => (X.cell? ⟨w107.heap.size, 0, none⟩ = some (.slice r_d0 r_d1 r_d2) ∧ X.cell? ⟨w107.heap.size, 1, none⟩ = some (.slice r_d3 r_d4 r_d5) ∧ X.cell? ⟨w107.heap.size, 2, none⟩ = some (.int .i64 r_d6) ∧ X.cell? ⟨w107.heap.size, 3, none⟩ = some (.bool r_d7)) ∧ (X.cell? ⟨w.heap.size + 1, 0, none⟩ = some (.int .i64 r.kind) ∧ X.cell? ⟨w.heap.size + 1, 1, none⟩ = some (.string r.name) ∧ X.cell? ⟨w.heap.size + 1, 2, none⟩ = some (.int .i64 r.num) ∧ X.cell? ⟨w.heap.size + 1, 3, none⟩ = some (.string r.text)) ∧ Hid (Below W138.heap.size W138 X)) X from fun X b => ⟨((unhide BX139).up b).four, ((unhide BX143).up b).four, hide b⟩)
  have BD164 := hide ((Below.refl W138.heap.size W138).drew)
  apply key_of
  · intro KEY
    go_region_held3 (fun (X : World) => (X.cell? ⟨w107.heap.size, 0, none⟩ = some (.slice r_d0 r_d1 r_d2) ∧ X.cell? ⟨w107.heap.size, 1, none⟩ = some (.slice r_d3 r_d4 r_d5) ∧ X.cell? ⟨w107.heap.size, 2, none⟩ = some (.int .i64 r_d6) ∧ X.cell? ⟨w107.heap.size, 3, none⟩ = some (.bool r_d7)) ∧ (X.cell? ⟨w.heap.size + 1, 0, none⟩ = some (.int .i64 r.kind) ∧ X.cell? ⟨w.heap.size + 1, 1, none⟩ = some (.string r.name) ∧ X.cell? ⟨w.heap.size + 1, 2, none⟩ = some (.int .i64 r.num) ∧ X.cell? ⟨w.heap.size + 1, 3, none⟩ = some (.string r.text)) ∧ Hid (Below W138.heap.size W138 X)) ((first | (refine unhide KP163 _ ?_; exact unhide (by assumption)) | (refine unhide KP163 _ ?_; exact (unhide BB170).alloc (unhide BB170).size _) | (refine unhide KP163 _ ?_; exact (unhide BB167).alloc (unhide BB167).size _) | (refine unhide KP163 _ ?_; exact (unhide BD164).alloc (unhide BD164).size _) | (refine unhide KP163 _ ?_; exact below_set4 (unhide BB170) (by first | exact Nat.le_refl _ | exact (unhide BB167).size | exact (unhide BB170).size) _ _ _ _) | (refine unhide KP163 _ ?_; exact below_set4 ((unhide BB170).alloc (unhide BB170).size _) (by first | exact Nat.le_refl _ | exact (unhide BB167).size | exact (unhide BB170).size) _ _ _ _)))
      (first
        | (go_at_call 10; with_reducible show Calls _ _ _ (w165.alloc _) _; have _tBB167 := BB167; refine (impl_kit d _ r _ (unhide HS25) (unhide HF_r) ((unhide O145).up ((unhide BB167).alloc (unhide BB167).size (.cells #[.slice none 0 0, .slice none 0 0, .int .i64 0, .bool false] 29))).rd).mono ?_; rintro e w168 ⟨v171, S172, rfl, O173, L174, b169⟩; have BB170 := hide (((unhide BB167).alloc (unhide BB167).size (.cells #[.slice none 0 0, .slice none 0 0, .int .i64 0, .bool false] 29)).trans (b169.mono ((unhide BB167).alloc (unhide BB167).size (.cells #[.slice none 0 0, .slice none 0 0, .int .i64 0, .bool false] 29)).size)); have NS := hide (boxF_notin (boxF_new w165 [.slice none 0 0, .slice none 0 0, .int .i64 0, .bool false] 29) (unhide L174)); obtain ⟨q_g0_0, q_g0_1, q_g0_2, q_g0_3, q_g0_4, q_g0_5, q_g0_6, q_g0_7, rfl⟩ := (unhide O173).rd.form; have NB := hide ((boxF_new w165 [.slice none 0 0, .slice none 0 0, .int .i64 0, .bool false] 29).up b169); have NBL := hide (show W138.heap.size ≤ w165.heap.size from (unhide BB167).size); (try obtain ⟨⟨nc0, nc1, nc2, nc3⟩, nf0, nf1, nf2, nf3⟩ := (unhide NB).four); clear b169)
        | (go_at_call 10; with_reducible show Calls _ _ _ w165 _; have _tBB167 := BB167; refine (impl_kit d _ r _ (unhide HS25) (unhide HF_r) ((unhide O145).up (unhide BB167)).rd).mono ?_; rintro e w168 ⟨v171, S172, rfl, O173, L174, b169⟩; have BB170 := hide ((unhide BB167).trans (b169.mono (unhide BB167).size)); (try have NS := hide (boxF_notin (unhide NB) (unhide L174))); obtain ⟨q_g0_0, q_g0_1, q_g0_2, q_g0_3, q_g0_4, q_g0_5, q_g0_6, q_g0_7, rfl⟩ := (unhide O173).rd.form; (try have NB := hide ((unhide NB).up b169)); (try obtain ⟨⟨nc0, nc1, nc2, nc3⟩, nf0, nf1, nf2, nf3⟩ := (unhide NB).four); clear b169)
        | (go_at_call 9; with_reducible show Calls _ _ _ ((W138.alloc _).drew) _; refine (toRec_kit r _).mono ?_; rintro e w165 ⟨rfl, b166⟩; have BB167 := hide ((((Below.refl W138.heap.size W138).alloc (Nat.le_refl _) (.cells #[.slice none 0 0, .slice none 0 0, .int .i64 0, .bool false] 29)).drew).trans (b166.mono (((Below.refl W138.heap.size W138).alloc (Nat.le_refl _) (.cells #[.slice none 0 0, .slice none 0 0, .int .i64 0, .bool false] 29)).drew).size)); have NB := hide (((boxF_new W138 [.slice none 0 0, .slice none 0 0, .int .i64 0, .bool false] 29).up ((Below.refl _ _).drew)).up b166); have NBL := hide (show W138.heap.size ≤ W138.heap.size from Nat.le_refl _); clear b166)
        | (go_at_call 9; with_reducible show Calls _ _ _ W138.drew _; refine (toRec_kit r _).mono ?_; rintro e w165 ⟨rfl, b166⟩; have BB167 := hide ((unhide BD164).trans (b166.mono (unhide BD164).size)); (try have NB := hide ((unhide NB).up b166)); clear b166)
        | fail)
    all_goals
      refine ‹∀ (a : Act) (w : World), Code.wp _ _ _ _ _ → _› _ _ ?_
      first
        | (have FE := hide (ended_alloc4 (unhide BB170) (unhide O173) (unhide L174) (unhide BB167).size (.slice q_g0_0 q_g0_1 q_g0_2) (.slice q_g0_3 q_g0_4 q_g0_5) (.int .i64 q_g0_6) (.bool q_g0_7) 29); generalize w168.alloc (.cells #[.slice q_g0_0 q_g0_1 q_g0_2, .slice q_g0_3 q_g0_4 q_g0_5, .int .i64 q_g0_6, .bool q_g0_7] 29) = YY at FE ⊢; generalize w168.heap.size = nb at FE ⊢; rename_i hHeld; clear hHeld; (try clear NS); clear L174 O173; revert  q_g0_0 q_g0_1 q_g0_2 q_g0_3 q_g0_4 q_g0_5 q_g0_6 q_g0_7 S172 nb YY FE; exact KEY.it)
        | (have FE := hide (ended_set4 (unhide BB170) (unhide NB) (unhide NBL) (unhide NS) (unhide O173) (unhide L174) (by first | exact (unhide BB167).size | exact Nat.le_trans (unhide BB167).size (by simp)) (.slice q_g0_0 q_g0_1 q_g0_2) (.slice q_g0_3 q_g0_4 q_g0_5) (.int .i64 q_g0_6) (.bool q_g0_7)); generalize (((w168.setCell ⟨W138.heap.size, 0, none⟩ (.slice q_g0_0 q_g0_1 q_g0_2)).setCell ⟨W138.heap.size, 1, none⟩ (.slice q_g0_3 q_g0_4 q_g0_5)).setCell ⟨W138.heap.size, 2, none⟩ (.int .i64 q_g0_6)).setCell ⟨W138.heap.size, 3, none⟩ (.bool q_g0_7) = YY at FE ⊢; generalize W138.heap.size = nb at FE ⊢; rename_i hHeld; clear hHeld; (try clear NS); clear L174 O173; revert  q_g0_0 q_g0_1 q_g0_2 q_g0_3 q_g0_4 q_g0_5 q_g0_6 q_g0_7 S172 nb YY FE; exact KEY.it)
        | (have FE := hide (ended_set4 (unhide BB170) (unhide NB) (unhide NBL) (unhide NS) (unhide O173) (unhide L174) (by first | exact (unhide BB167).size | exact Nat.le_trans (unhide BB167).size (by simp)) (.slice q_g0_0 q_g0_1 q_g0_2) (.slice q_g0_3 q_g0_4 q_g0_5) (.int .i64 q_g0_6) (.bool q_g0_7)); generalize (((w168.setCell ⟨w165.heap.size, 0, none⟩ (.slice q_g0_0 q_g0_1 q_g0_2)).setCell ⟨w165.heap.size, 1, none⟩ (.slice q_g0_3 q_g0_4 q_g0_5)).setCell ⟨w165.heap.size, 2, none⟩ (.int .i64 q_g0_6)).setCell ⟨w165.heap.size, 3, none⟩ (.bool q_g0_7) = YY at FE ⊢; generalize w165.heap.size = nb at FE ⊢; rename_i hHeld; clear hHeld; (try clear NS); clear L174 O173; revert  q_g0_0 q_g0_1 q_g0_2 q_g0_3 q_g0_4 q_g0_5 q_g0_6 q_g0_7 S172 nb YY FE; exact KEY.it)
        | (trace_state; fail)
  clear x147 x148 x149 x150 x151 x152 x153 x154 x155 x156 x157 x158 x159 x160 x161 x162
  intro  S172 q_g0_0 q_g0_1 q_g0_2 q_g0_3 q_g0_4 q_g0_5 q_g0_6 q_g0_7 w176 nb177 FE178
  obtain ⟨b179, bx180, Z184, O181, L182, NS183⟩ := unhide FE178
  clear FE178
  have B185 := hide ((unhide B140).trans (b179.mono (unhide B140).size))
  clear B140
  have BU186 := hide ((unhide BU141).trans (b179.mono (unhide BU141).size))
  clear BU141
  have BX187 := hide ((unhide BX142).up b179)
  clear BX142
  have BX188 := hide ((unhide BX143).up b179)
  clear BX143
  have BX189 := hide ((unhide BX144).up b179)
  clear BX144
  have BX190 := hide ((unhide BX139).up b179)
  clear BX139
  have O191 := hide ((unhide O145).up b179)
  clear O145
  have Z192 := hide (show W138.heap.size ≤ w176.heap.size from b179.size)
  have Z193 := hide Z184
  have Z194 := hide bx180.1
  have O195 := hide O181
  have L196 := hide L182
  have NS197 := hide NS183
  have BX198 := hide bx180
  clear b179 bx180 O181 L182 NS183 Z184 KP163 BD164
  have H199 := hide (unhide O195).lt
  obtain ⟨x200, x201, x202, x203⟩ := (unhide BX187).four
  obtain ⟨x204, x205, x206, x207⟩ := (unhide BX188).four
  obtain ⟨x208, x209, x210, x211⟩ := (unhide BX189).four
  obtain ⟨x212, x213, x214, x215⟩ := (unhide BX190).four
  obtain ⟨x216, x217, x218, x219⟩ := (unhide BX198).four
  go_wp2_with fail
  clear x200 x201 x202 x203 x204 x205 x206 x207 x208 x209 x210 x211 x212 x213 x214 x215 x216 x217 x218 x219
  refine (eqDisk_kit (lpV d r) _ _ w176 (unhide HRS0) (unhide O195).rd ((unhide U93).up (unhide BU186))).mono ?_
  rintro e w220 ⟨rfl, b221⟩
  have B222 := hide ((unhide B185).trans (b221.mono (unhide B185).size))
  clear B185
  have BU223 := hide ((unhide BU186).trans (b221.mono (unhide BU186).size))
  clear BU186
  have BX224 := hide ((unhide BX187).up b221)
  clear BX187
  have BX225 := hide ((unhide BX188).up b221)
  clear BX188
  have BX226 := hide ((unhide BX189).up b221)
  clear BX189
  have BX227 := hide ((unhide BX190).up b221)
  clear BX190
  have BX228 := hide ((unhide BX198).up b221)
  clear BX198
  have O229 := hide ((unhide O191).up b221)
  clear O191
  have O230 := hide ((unhide O195).up b221)
  clear O195
  have Z231 := hide (show w176.heap.size ≤ w220.heap.size from b221.size)
  clear b221
  obtain ⟨x232, x233, x234, x235⟩ := (unhide BX224).four
  obtain ⟨x236, x237, x238, x239⟩ := (unhide BX225).four
  obtain ⟨x240, x241, x242, x243⟩ := (unhide BX226).four
  obtain ⟨x244, x245, x246, x247⟩ := (unhide BX227).four
  obtain ⟨x248, x249, x250, x251⟩ := (unhide BX228).four
  go_wp2_with fail
  have KP252 := hide (show ∀ X : World, Below w220.heap.size w220 X → (fun (X : World) => (X.cell? ⟨w.heap.size, 0, none⟩ = some (.slice p_d0 p_d1 p_d2) ∧ X.cell? ⟨w.heap.size, 1, none⟩ = some (.slice p_d3 p_d4 p_d5) ∧ X.cell? ⟨w.heap.size, 2, none⟩ = some (.int .i64 p_d6) ∧ X.cell? ⟨w.heap.size, 3, none⟩ = some (.bool p_d7)) ∧ (X.cell? ⟨w107.heap.size, 0, none⟩ = some (.slice r_d0 r_d1 r_d2) ∧ X.cell? ⟨w107.heap.size, 1, none⟩ = some (.slice r_d3 r_d4 r_d5) ∧ X.cell? ⟨w107.heap.size, 2, none⟩ = some (.int .i64 r_d6) ∧ X.cell? ⟨w107.heap.size, 3, none⟩ = some (.bool r_d7)) ∧ Hid (Below w220.heap.size w220 X)) X from fun X b => ⟨((unhide BX224).up b).four, ((unhide BX227).up b).four, hide b⟩)
  have BD253 := hide ((Below.refl w220.heap.size w220).drew)
  go_region_held3 (fun (X : World) => (X.cell? ⟨w.heap.size, 0, none⟩ = some (.slice p_d0 p_d1 p_d2) ∧ X.cell? ⟨w.heap.size, 1, none⟩ = some (.slice p_d3 p_d4 p_d5) ∧ X.cell? ⟨w.heap.size, 2, none⟩ = some (.int .i64 p_d6) ∧ X.cell? ⟨w.heap.size, 3, none⟩ = some (.bool p_d7)) ∧ (X.cell? ⟨w107.heap.size, 0, none⟩ = some (.slice r_d0 r_d1 r_d2) ∧ X.cell? ⟨w107.heap.size, 1, none⟩ = some (.slice r_d3 r_d4 r_d5) ∧ X.cell? ⟨w107.heap.size, 2, none⟩ = some (.int .i64 r_d6) ∧ X.cell? ⟨w107.heap.size, 3, none⟩ = some (.bool r_d7)) ∧ Hid (Below w220.heap.size w220 X)) ((refine unhide KP252 _ ?_; exact unhide (by assumption)))
    (first
      | (go_at_call 11; have _t := BB260; refine (eqDisk_kit d _ _ _ (unhide HS25) ((unhide O229).up (unhide BB260)).rd (unhide O257).rd).mono ?_; rintro e w261 ⟨rfl, b262⟩; have BB263 := hide ((unhide BB260).trans (b262.mono (unhide BB260).size)); clear b262)
      | (go_at_call 8; refine (toDisk_kit d _ _ (unhide HS25) ((unhide HR_d).up ((unhide B222).trans ((unhide BD253).mono (unhide B222).size)))).mono ?_; rintro e w254 ⟨v255, S256, rfl, O257, L258, b259⟩; have BB260 := hide ((unhide BD253).trans (b259.mono (unhide BD253).size)); clear b259)
      | fail)
  clear x232 x233 x234 x235 x236 x237 x238 x239 x240 x241 x242 x243 x244 x245 x246 x247 x248 x249 x250 x251
  all_goals
    try clear _t
    have B264 := hide ((unhide B222).trans ((unhide BB263).mono (unhide B222).size))
    clear B222
    have BU265 := hide ((unhide BU223).trans ((unhide BB263).mono (unhide BU223).size))
    clear BU223
    have BX266 := hide ((unhide BX224).up (unhide BB263))
    clear BX224
    have BX267 := hide ((unhide BX225).up (unhide BB263))
    clear BX225
    have BX268 := hide ((unhide BX226).up (unhide BB263))
    clear BX226
    have BX269 := hide ((unhide BX227).up (unhide BB263))
    clear BX227
    have BX270 := hide ((unhide BX228).up (unhide BB263))
    clear BX228
    have O271 := hide ((unhide O229).up (unhide BB263))
    clear O229
    have O272 := hide ((unhide O230).up (unhide BB263))
    clear O230
    have Z273 := hide (show w220.heap.size ≤ w261.heap.size from (unhide BB263).size)
    clear BB263 BB260 KP252 BD253 O257 L258
    obtain ⟨x274, x275, x276, x277⟩ := (unhide BX266).four
    obtain ⟨x278, x279, x280, x281⟩ := (unhide BX267).four
    obtain ⟨x282, x283, x284, x285⟩ := (unhide BX268).four
    obtain ⟨x286, x287, x288, x289⟩ := (unhide BX269).four
    obtain ⟨x290, x291, x292, x293⟩ := (unhide BX270).four
    go_wp2_with fail
    clear x274 x275 x276 x277 x278 x279 x280 x281 x282 x283 x284 x285 x286 x287 x288 x289 x290 x291 x292 x293
    refine (markDisk_kit S109 (d) _ w261 (1) N_d (1) (by omega) (unhide HN_d) (by omega) (unhide HS25) (unhide O271)).mono ?_
    rintro e w294 ⟨rfl, P295⟩
    have t296 := (unhide P295).2
    have B297 := hide ((unhide B264).trans (t296.below (unhide B264).size (fun k hk => by have z := unhide L111 k hk; have y := unhide H119 k hk; have z0 := unhide Z10; have z1 := unhide Z15; have z2 := unhide Z24; have z3 := unhide Z42; have z4 := unhide Z85; have z5 := unhide Z86; have z6 := unhide Z87; have z7 := unhide Z118; have z8 := unhide Z146; have z9 := unhide Z192; have z10 := unhide Z193; have z11 := unhide Z194; have z12 := unhide Z231; have z13 := unhide Z273; omega)))
    clear B264
    have BU298 := hide ((unhide BU265).trans (t296.below (unhide BU265).size (fun k hk => by have z := unhide L111 k hk; have y := unhide H119 k hk; have z0 := unhide Z10; have z1 := unhide Z15; have z2 := unhide Z24; have z3 := unhide Z42; have z4 := unhide Z85; have z5 := unhide Z86; have z6 := unhide Z87; have z7 := unhide Z118; have z8 := unhide Z146; have z9 := unhide Z192; have z10 := unhide Z193; have z11 := unhide Z194; have z12 := unhide Z231; have z13 := unhide Z273; omega)))
    clear BU265
    have BX299 := hide ((unhide BX266).turn t296 (fun hk => by have z := unhide L111 _ hk; have y := unhide H119 _ hk; have z0 := unhide Z10; have z1 := unhide Z15; have z2 := unhide Z24; have z3 := unhide Z42; have z4 := unhide Z85; have z5 := unhide Z86; have z6 := unhide Z87; have z7 := unhide Z118; have z8 := unhide Z146; have z9 := unhide Z192; have z10 := unhide Z193; have z11 := unhide Z194; have z12 := unhide Z231; have z13 := unhide Z273; omega))
    clear BX266
    have BX300 := hide ((unhide BX267).turn t296 (fun hk => by have z := unhide L111 _ hk; have y := unhide H119 _ hk; have z0 := unhide Z10; have z1 := unhide Z15; have z2 := unhide Z24; have z3 := unhide Z42; have z4 := unhide Z85; have z5 := unhide Z86; have z6 := unhide Z87; have z7 := unhide Z118; have z8 := unhide Z146; have z9 := unhide Z192; have z10 := unhide Z193; have z11 := unhide Z194; have z12 := unhide Z231; have z13 := unhide Z273; omega))
    clear BX267
    have BX301 := hide ((unhide BX268).turn t296 (fun hk => by have z := unhide L111 _ hk; have y := unhide H119 _ hk; have z0 := unhide Z10; have z1 := unhide Z15; have z2 := unhide Z24; have z3 := unhide Z42; have z4 := unhide Z85; have z5 := unhide Z86; have z6 := unhide Z87; have z7 := unhide Z118; have z8 := unhide Z146; have z9 := unhide Z192; have z10 := unhide Z193; have z11 := unhide Z194; have z12 := unhide Z231; have z13 := unhide Z273; omega))
    clear BX268
    have BX302 := hide ((unhide BX269).turn t296 (fun hk => by have z := unhide L111 _ hk; have y := unhide H119 _ hk; have z0 := unhide Z10; have z1 := unhide Z15; have z2 := unhide Z24; have z3 := unhide Z42; have z4 := unhide Z85; have z5 := unhide Z86; have z6 := unhide Z87; have z7 := unhide Z118; have z8 := unhide Z146; have z9 := unhide Z192; have z10 := unhide Z193; have z11 := unhide Z194; have z12 := unhide Z231; have z13 := unhide Z273; omega))
    clear BX269
    have BX303 := hide ((unhide BX270).turn t296 (fun hk => by have z := unhide L111 _ hk; have y := unhide H119 _ hk; have z0 := unhide Z10; have z1 := unhide Z15; have z2 := unhide Z24; have z3 := unhide Z42; have z4 := unhide Z85; have z5 := unhide Z86; have z6 := unhide Z87; have z7 := unhide Z118; have z8 := unhide Z146; have z9 := unhide Z192; have z10 := unhide Z193; have z11 := unhide Z194; have z12 := unhide Z231; have z13 := unhide Z273; omega))
    clear BX270
    have O304 := hide ((unhide O272).turn t296 (fun k hk hm => by have z := unhide L111 k hm; have y := unhide H119 k hm; have u := unhide L196 k hk; have v := unhide H199 k hk; have z0 := unhide Z10; have z1 := unhide Z15; have z2 := unhide Z24; have z3 := unhide Z42; have z4 := unhide Z85; have z5 := unhide Z86; have z6 := unhide Z87; have z7 := unhide Z118; have z8 := unhide Z146; have z9 := unhide Z192; have z10 := unhide Z193; have z11 := unhide Z194; have z12 := unhide Z231; have z13 := unhide Z273; omega))
    clear O272
    have Z305 := hide (show w261.heap.size ≤ w294.heap.size from t296.size)
    have O306 := hide (unhide P295).1
    clear P295 t296
    have nf306 : ¬ (1 + (N_d : Int)) < 0 := by omega
    obtain ⟨x307, x308, x309, x310⟩ := (unhide BX299).four
    obtain ⟨x311, x312, x313, x314⟩ := (unhide BX300).four
    obtain ⟨x315, x316, x317, x318⟩ := (unhide BX301).four
    obtain ⟨x319, x320, x321, x322⟩ := (unhide BX302).four
    obtain ⟨x323, x324, x325, x326⟩ := (unhide BX303).four
    go_wp2_with fail
    clear x307 x308 x309 x310 x311 x312 x313 x314 x315 x316 x317 x318 x319 x320 x321 x322 x323 x324 x325 x326
    refine (eqDisk_kit (lpV d r) _ _ w294 (unhide HRS0) (unhide O304).rd ((unhide U93).up (unhide BU298))).mono ?_
    rintro e w327 ⟨rfl, b328⟩
    have B329 := hide ((unhide B297).trans (b328.mono (unhide B297).size))
    clear B297
    have BU330 := hide ((unhide BU298).trans (b328.mono (unhide BU298).size))
    clear BU298
    have BX331 := hide ((unhide BX299).up b328)
    clear BX299
    have BX332 := hide ((unhide BX300).up b328)
    clear BX300
    have BX333 := hide ((unhide BX301).up b328)
    clear BX301
    have BX334 := hide ((unhide BX302).up b328)
    clear BX302
    have BX335 := hide ((unhide BX303).up b328)
    clear BX303
    have O336 := hide ((unhide O306).up b328)
    clear O306
    have O337 := hide ((unhide O304).up b328)
    clear O304
    have Z338 := hide (show w294.heap.size ≤ w327.heap.size from b328.size)
    clear b328
    obtain ⟨x339, x340, x341, x342⟩ := (unhide BX331).four
    obtain ⟨x343, x344, x345, x346⟩ := (unhide BX332).four
    obtain ⟨x347, x348, x349, x350⟩ := (unhide BX333).four
    obtain ⟨x351, x352, x353, x354⟩ := (unhide BX334).four
    obtain ⟨x355, x356, x357, x358⟩ := (unhide BX335).four
    go_wp2_with fail
    clear x339 x340 x341 x342 x343 x344 x345 x346 x347 x348 x349 x350 x351 x352 x353 x354 x355 x356 x357 x358
    refine (markDisk_kit S172 (lpV d r) _ w327 (1) M_0 (1) (by omega) (unhide HM_0) (by omega) (unhide HRS0) (unhide O337)).mono ?_
    rintro e w359 ⟨rfl, P360⟩
    have t361 := (unhide P360).2
    have B362 := hide ((unhide B329).trans (t361.below (unhide B329).size (fun k hk => by have z := unhide L196 k hk; have y := unhide H199 k hk; have z0 := unhide Z10; have z1 := unhide Z15; have z2 := unhide Z24; have z3 := unhide Z42; have z4 := unhide Z85; have z5 := unhide Z86; have z6 := unhide Z87; have z7 := unhide Z118; have z8 := unhide Z146; have z9 := unhide Z192; have z10 := unhide Z193; have z11 := unhide Z194; have z12 := unhide Z231; have z13 := unhide Z273; have z14 := unhide Z305; have z15 := unhide Z338; omega)))
    clear B329
    have BU363 := hide ((unhide BU330).trans (t361.below (unhide BU330).size (fun k hk => by have z := unhide L196 k hk; have y := unhide H199 k hk; have z0 := unhide Z10; have z1 := unhide Z15; have z2 := unhide Z24; have z3 := unhide Z42; have z4 := unhide Z85; have z5 := unhide Z86; have z6 := unhide Z87; have z7 := unhide Z118; have z8 := unhide Z146; have z9 := unhide Z192; have z10 := unhide Z193; have z11 := unhide Z194; have z12 := unhide Z231; have z13 := unhide Z273; have z14 := unhide Z305; have z15 := unhide Z338; omega)))
    clear BU330
    have BX364 := hide ((unhide BX331).turn t361 (fun hk => by have z := unhide L196 _ hk; have y := unhide H199 _ hk; have z0 := unhide Z10; have z1 := unhide Z15; have z2 := unhide Z24; have z3 := unhide Z42; have z4 := unhide Z85; have z5 := unhide Z86; have z6 := unhide Z87; have z7 := unhide Z118; have z8 := unhide Z146; have z9 := unhide Z192; have z10 := unhide Z193; have z11 := unhide Z194; have z12 := unhide Z231; have z13 := unhide Z273; have z14 := unhide Z305; have z15 := unhide Z338; omega))
    clear BX331
    have BX365 := hide ((unhide BX332).turn t361 (fun hk => by have z := unhide L196 _ hk; have y := unhide H199 _ hk; have z0 := unhide Z10; have z1 := unhide Z15; have z2 := unhide Z24; have z3 := unhide Z42; have z4 := unhide Z85; have z5 := unhide Z86; have z6 := unhide Z87; have z7 := unhide Z118; have z8 := unhide Z146; have z9 := unhide Z192; have z10 := unhide Z193; have z11 := unhide Z194; have z12 := unhide Z231; have z13 := unhide Z273; have z14 := unhide Z305; have z15 := unhide Z338; omega))
    clear BX332
    have BX366 := hide ((unhide BX333).turn t361 (fun hk => by have z := unhide L196 _ hk; have y := unhide H199 _ hk; have z0 := unhide Z10; have z1 := unhide Z15; have z2 := unhide Z24; have z3 := unhide Z42; have z4 := unhide Z85; have z5 := unhide Z86; have z6 := unhide Z87; have z7 := unhide Z118; have z8 := unhide Z146; have z9 := unhide Z192; have z10 := unhide Z193; have z11 := unhide Z194; have z12 := unhide Z231; have z13 := unhide Z273; have z14 := unhide Z305; have z15 := unhide Z338; omega))
    clear BX333
    have BX367 := hide ((unhide BX334).turn t361 (fun hk => by have z := unhide L196 _ hk; have y := unhide H199 _ hk; have z0 := unhide Z10; have z1 := unhide Z15; have z2 := unhide Z24; have z3 := unhide Z42; have z4 := unhide Z85; have z5 := unhide Z86; have z6 := unhide Z87; have z7 := unhide Z118; have z8 := unhide Z146; have z9 := unhide Z192; have z10 := unhide Z193; have z11 := unhide Z194; have z12 := unhide Z231; have z13 := unhide Z273; have z14 := unhide Z305; have z15 := unhide Z338; omega))
    clear BX334
    have BX368 := hide ((unhide BX335).turn t361 (unhide NS197))
    clear BX335
    have O369 := hide ((unhide O336).turn t361 (fun k hk hm => by have z := unhide L196 k hm; have y := unhide H199 k hm; have u := unhide L111 k hk; have v := unhide H119 k hk; have z0 := unhide Z10; have z1 := unhide Z15; have z2 := unhide Z24; have z3 := unhide Z42; have z4 := unhide Z85; have z5 := unhide Z86; have z6 := unhide Z87; have z7 := unhide Z118; have z8 := unhide Z146; have z9 := unhide Z192; have z10 := unhide Z193; have z11 := unhide Z194; have z12 := unhide Z231; have z13 := unhide Z273; have z14 := unhide Z305; have z15 := unhide Z338; omega))
    clear O336
    have Z370 := hide (show w327.heap.size ≤ w359.heap.size from t361.size)
    have O371 := hide (unhide P360).1
    clear P360 t361
    have nf371 : ¬ (1 + (M_0 : Int)) < 0 := by omega
    obtain ⟨x372, x373, x374, x375⟩ := (unhide BX364).four
    obtain ⟨x376, x377, x378, x379⟩ := (unhide BX365).four
    obtain ⟨x380, x381, x382, x383⟩ := (unhide BX366).four
    obtain ⟨x384, x385, x386, x387⟩ := (unhide BX367).four
    obtain ⟨x388, x389, x390, x391⟩ := (unhide BX368).four
    go_wp2_with fail
    clear x372 x373 x374 x375 x376 x377 x378 x379 x380 x381 x382 x383 x384 x385 x386 x387 x388 x389 x390 x391
    refine (heldDisk_kit (lpV d r) _ w359 (1) M_0 (1) (by omega) (unhide HM_0) (by omega) (unhide HRS0) (unhide O371).rd).mono ?_
    rintro e w392 ⟨rfl, b393⟩
    have B394 := hide ((unhide B362).trans (b393.mono (unhide B362).size))
    clear B362
    have BU395 := hide ((unhide BU363).trans (b393.mono (unhide BU363).size))
    clear BU363
    have BX396 := hide ((unhide BX364).up b393)
    clear BX364
    have BX397 := hide ((unhide BX365).up b393)
    clear BX365
    have BX398 := hide ((unhide BX366).up b393)
    clear BX366
    have BX399 := hide ((unhide BX367).up b393)
    clear BX367
    have BX400 := hide ((unhide BX368).up b393)
    clear BX368
    have O401 := hide ((unhide O369).up b393)
    clear O369
    have O402 := hide ((unhide O371).up b393)
    clear O371
    have Z403 := hide (show w359.heap.size ≤ w392.heap.size from b393.size)
    clear b393
    obtain ⟨x404, x405, x406, x407⟩ := (unhide BX396).four
    obtain ⟨x408, x409, x410, x411⟩ := (unhide BX397).four
    obtain ⟨x412, x413, x414, x415⟩ := (unhide BX398).four
    obtain ⟨x416, x417, x418, x419⟩ := (unhide BX399).four
    obtain ⟨x420, x421, x422, x423⟩ := (unhide BX400).four
    go_wp2_with fail
    have KP424 := hide (show ∀ X : World, Below w392.heap.size w392 X → (fun (X : World) => (X.cell? ⟨w.heap.size, 0, none⟩ = some (.slice p_d0 p_d1 p_d2) ∧ X.cell? ⟨w.heap.size, 1, none⟩ = some (.slice p_d3 p_d4 p_d5) ∧ X.cell? ⟨w.heap.size, 2, none⟩ = some (.int .i64 p_d6) ∧ X.cell? ⟨w.heap.size, 3, none⟩ = some (.bool p_d7)) ∧ (X.cell? ⟨w.heap.size + 1, 0, none⟩ = some (.int .i64 r.kind) ∧ X.cell? ⟨w.heap.size + 1, 1, none⟩ = some (.string r.name) ∧ X.cell? ⟨w.heap.size + 1, 2, none⟩ = some (.int .i64 r.num) ∧ X.cell? ⟨w.heap.size + 1, 3, none⟩ = some (.string r.text)) ∧ Hid (Below w392.heap.size w392 X)) X from fun X b => ⟨((unhide BX396).up b).four, ((unhide BX397).up b).four, hide b⟩)
    have BD425 := hide ((Below.refl w392.heap.size w392).drew)
    apply key_of
    · intro KEY
      go_region_held3 (fun (X : World) => (X.cell? ⟨w.heap.size, 0, none⟩ = some (.slice p_d0 p_d1 p_d2) ∧ X.cell? ⟨w.heap.size, 1, none⟩ = some (.slice p_d3 p_d4 p_d5) ∧ X.cell? ⟨w.heap.size, 2, none⟩ = some (.int .i64 p_d6) ∧ X.cell? ⟨w.heap.size, 3, none⟩ = some (.bool p_d7)) ∧ (X.cell? ⟨w.heap.size + 1, 0, none⟩ = some (.int .i64 r.kind) ∧ X.cell? ⟨w.heap.size + 1, 1, none⟩ = some (.string r.name) ∧ X.cell? ⟨w.heap.size + 1, 2, none⟩ = some (.int .i64 r.num) ∧ X.cell? ⟨w.heap.size + 1, 3, none⟩ = some (.string r.text)) ∧ Hid (Below w392.heap.size w392 X)) ((first | (refine unhide KP424 _ ?_; exact unhide (by assumption)) | (refine unhide KP424 _ ?_; exact (unhide BB439).alloc (unhide BB439).size _) | (refine unhide KP424 _ ?_; exact (unhide BB435).alloc (unhide BB435).size _) | (refine unhide KP424 _ ?_; exact (unhide BB432).alloc (unhide BB432).size _) | (refine unhide KP424 _ ?_; exact (unhide BD425).alloc (unhide BD425).size _) | (refine unhide KP424 _ ?_; exact below_set4 (unhide BB439) (by first | exact Nat.le_refl _ | exact (unhide BB432).size | exact (unhide BB435).size | exact (unhide BB439).size) _ _ _ _) | (refine unhide KP424 _ ?_; exact below_set4 ((unhide BB439).alloc (unhide BB439).size _) (by first | exact Nat.le_refl _ | exact (unhide BB432).size | exact (unhide BB435).size | exact (unhide BB439).size) _ _ _ _)))
        (first
          | (go_at_call 10; with_reducible show Calls _ _ _ (w433.alloc _) _; have _tBB435 := BB435; refine (impl_kit d _ r _ (unhide HS25) (unhide HF_r) ((unhide O436).up ((Below.refl _ _).alloc (Nat.le_refl _) (.cells #[.slice none 0 0, .slice none 0 0, .int .i64 0, .bool false] 29))).rd).mono ?_; rintro e w437 ⟨v440, S441, rfl, O442, L443, b438⟩; have BB439 := hide (((unhide BB435).alloc (unhide BB435).size (.cells #[.slice none 0 0, .slice none 0 0, .int .i64 0, .bool false] 29)).trans (b438.mono ((unhide BB435).alloc (unhide BB435).size (.cells #[.slice none 0 0, .slice none 0 0, .int .i64 0, .bool false] 29)).size)); have NS := hide (boxF_notin (boxF_new w433 [.slice none 0 0, .slice none 0 0, .int .i64 0, .bool false] 29) (unhide L443)); obtain ⟨q_h0_0, q_h0_1, q_h0_2, q_h0_3, q_h0_4, q_h0_5, q_h0_6, q_h0_7, rfl⟩ := (unhide O442).rd.form; have NB := hide ((boxF_new w433 [.slice none 0 0, .slice none 0 0, .int .i64 0, .bool false] 29).up b438); have NBL := hide (show w392.heap.size ≤ w433.heap.size from (unhide BB435).size); (try obtain ⟨⟨nc0, nc1, nc2, nc3⟩, nf0, nf1, nf2, nf3⟩ := (unhide NB).four); clear b438)
          | (go_at_call 10; with_reducible show Calls _ _ _ w433 _; have _tBB435 := BB435; refine (impl_kit d _ r _ (unhide HS25) (unhide HF_r) (unhide O436).rd).mono ?_; rintro e w437 ⟨v440, S441, rfl, O442, L443, b438⟩; have BB439 := hide ((unhide BB435).trans (b438.mono (unhide BB435).size)); (try have NS := hide (boxF_notin (unhide NB) (unhide L443))); obtain ⟨q_h0_0, q_h0_1, q_h0_2, q_h0_3, q_h0_4, q_h0_5, q_h0_6, q_h0_7, rfl⟩ := (unhide O442).rd.form; (try have NB := hide ((unhide NB).up b438)); (try obtain ⟨⟨nc0, nc1, nc2, nc3⟩, nf0, nf1, nf2, nf3⟩ := (unhide NB).four); clear b438)
          | (go_at_call 9; with_reducible show Calls _ _ _ (w426.alloc _) _; have _tBB432 := BB432; refine (toRec_kit r _).mono ?_; rintro e w433 ⟨rfl, b434⟩; have O436 := hide (((unhide O429).up ((Below.refl _ _).alloc (Nat.le_refl _) (.cells #[.slice none 0 0, .slice none 0 0, .int .i64 0, .bool false] 29))).up b434); have BB435 := hide (((unhide BB432).alloc (unhide BB432).size (.cells #[.slice none 0 0, .slice none 0 0, .int .i64 0, .bool false] 29)).trans (b434.mono ((unhide BB432).alloc (unhide BB432).size (.cells #[.slice none 0 0, .slice none 0 0, .int .i64 0, .bool false] 29)).size)); have NB := hide ((boxF_new w426 [.slice none 0 0, .slice none 0 0, .int .i64 0, .bool false] 29).up b434); have NBL := hide (show w392.heap.size ≤ w426.heap.size from (unhide BB432).size); clear b434)
          | (go_at_call 9; with_reducible show Calls _ _ _ w426 _; have _tBB432 := BB432; refine (toRec_kit r _).mono ?_; rintro e w433 ⟨rfl, b434⟩; have O436 := hide ((unhide O429).up b434); have BB435 := hide ((unhide BB432).trans (b434.mono (unhide BB432).size)); (try have NB := hide ((unhide NB).up b434)); clear b434)
          | (go_at_call 8; with_reducible show Calls _ _ _ ((w392.alloc _).drew) _; refine (toDisk_kit d _ _ (unhide HS25) ((unhide HR_d).up ((unhide B394).trans ((((Below.refl w392.heap.size w392).alloc (Nat.le_refl _) (.cells #[.slice none 0 0, .slice none 0 0, .int .i64 0, .bool false] 29)).drew).mono (unhide B394).size)))).mono ?_; rintro e w426 ⟨v427, S428, rfl, O429, L430, b431⟩; have BB432 := hide ((((Below.refl w392.heap.size w392).alloc (Nat.le_refl _) (.cells #[.slice none 0 0, .slice none 0 0, .int .i64 0, .bool false] 29)).drew).trans (b431.mono (((Below.refl w392.heap.size w392).alloc (Nat.le_refl _) (.cells #[.slice none 0 0, .slice none 0 0, .int .i64 0, .bool false] 29)).drew).size)); have NB := hide (((boxF_new w392 [.slice none 0 0, .slice none 0 0, .int .i64 0, .bool false] 29).up ((Below.refl _ _).drew)).up b431); have NBL := hide (show w392.heap.size ≤ w392.heap.size from Nat.le_refl _); clear b431)
          | (go_at_call 8; with_reducible show Calls _ _ _ w392.drew _; refine (toDisk_kit d _ _ (unhide HS25) ((unhide HR_d).up ((unhide B394).trans ((unhide BD425).mono (unhide B394).size)))).mono ?_; rintro e w426 ⟨v427, S428, rfl, O429, L430, b431⟩; have BB432 := hide ((unhide BD425).trans (b431.mono (unhide BD425).size)); (try have NB := hide ((unhide NB).up b431)); clear b431)
          | fail)
      all_goals
        refine ‹∀ (a : Act) (w : World), Code.wp _ _ _ _ _ → _› _ _ ?_
        first
          | (have FE := hide (ended_alloc4 (unhide BB439) (unhide O442) (unhide L443) (unhide BB435).size (.slice q_h0_0 q_h0_1 q_h0_2) (.slice q_h0_3 q_h0_4 q_h0_5) (.int .i64 q_h0_6) (.bool q_h0_7) 29); generalize w437.alloc (.cells #[.slice q_h0_0 q_h0_1 q_h0_2, .slice q_h0_3 q_h0_4 q_h0_5, .int .i64 q_h0_6, .bool q_h0_7] 29) = YY at FE ⊢; generalize w437.heap.size = nb at FE ⊢; rename_i hHeld; clear hHeld; (try clear NS); clear L443 O442 O436 O429; revert v427 q_h0_0 q_h0_1 q_h0_2 q_h0_3 q_h0_4 q_h0_5 q_h0_6 q_h0_7 S441 nb YY FE; exact KEY.it)
          | (have FE := hide (ended_set4 (unhide BB439) (unhide NB) (unhide NBL) (unhide NS) (unhide O442) (unhide L443) (by first | exact (unhide BB435).size | exact Nat.le_trans (unhide BB435).size (by simp)) (.slice q_h0_0 q_h0_1 q_h0_2) (.slice q_h0_3 q_h0_4 q_h0_5) (.int .i64 q_h0_6) (.bool q_h0_7)); generalize (((w437.setCell ⟨w392.heap.size, 0, none⟩ (.slice q_h0_0 q_h0_1 q_h0_2)).setCell ⟨w392.heap.size, 1, none⟩ (.slice q_h0_3 q_h0_4 q_h0_5)).setCell ⟨w392.heap.size, 2, none⟩ (.int .i64 q_h0_6)).setCell ⟨w392.heap.size, 3, none⟩ (.bool q_h0_7) = YY at FE ⊢; generalize w392.heap.size = nb at FE ⊢; rename_i hHeld; clear hHeld; (try clear NS); clear L443 O442 O436 O429; revert v427 q_h0_0 q_h0_1 q_h0_2 q_h0_3 q_h0_4 q_h0_5 q_h0_6 q_h0_7 S441 nb YY FE; exact KEY.it)
          | (have FE := hide (ended_set4 (unhide BB439) (unhide NB) (unhide NBL) (unhide NS) (unhide O442) (unhide L443) (by first | exact (unhide BB435).size | exact Nat.le_trans (unhide BB435).size (by simp)) (.slice q_h0_0 q_h0_1 q_h0_2) (.slice q_h0_3 q_h0_4 q_h0_5) (.int .i64 q_h0_6) (.bool q_h0_7)); generalize (((w437.setCell ⟨w426.heap.size, 0, none⟩ (.slice q_h0_0 q_h0_1 q_h0_2)).setCell ⟨w426.heap.size, 1, none⟩ (.slice q_h0_3 q_h0_4 q_h0_5)).setCell ⟨w426.heap.size, 2, none⟩ (.int .i64 q_h0_6)).setCell ⟨w426.heap.size, 3, none⟩ (.bool q_h0_7) = YY at FE ⊢; generalize w426.heap.size = nb at FE ⊢; rename_i hHeld; clear hHeld; (try clear NS); clear L443 O442 O436 O429; revert v427 q_h0_0 q_h0_1 q_h0_2 q_h0_3 q_h0_4 q_h0_5 q_h0_6 q_h0_7 S441 nb YY FE; exact KEY.it)
          | (have FE := hide (ended_set4 (unhide BB439) (unhide NB) (unhide NBL) (unhide NS) (unhide O442) (unhide L443) (by first | exact (unhide BB435).size | exact Nat.le_trans (unhide BB435).size (by simp)) (.slice q_h0_0 q_h0_1 q_h0_2) (.slice q_h0_3 q_h0_4 q_h0_5) (.int .i64 q_h0_6) (.bool q_h0_7)); generalize (((w437.setCell ⟨w433.heap.size, 0, none⟩ (.slice q_h0_0 q_h0_1 q_h0_2)).setCell ⟨w433.heap.size, 1, none⟩ (.slice q_h0_3 q_h0_4 q_h0_5)).setCell ⟨w433.heap.size, 2, none⟩ (.int .i64 q_h0_6)).setCell ⟨w433.heap.size, 3, none⟩ (.bool q_h0_7) = YY at FE ⊢; generalize w433.heap.size = nb at FE ⊢; rename_i hHeld; clear hHeld; (try clear NS); clear L443 O442 O436 O429; revert v427 q_h0_0 q_h0_1 q_h0_2 q_h0_3 q_h0_4 q_h0_5 q_h0_6 q_h0_7 S441 nb YY FE; exact KEY.it)
          | (trace_state; fail)
    clear x404 x405 x406 x407 x408 x409 x410 x411 x412 x413 x414 x415 x416 x417 x418 x419 x420 x421 x422 x423
    intro v427 S441 q_h0_0 q_h0_1 q_h0_2 q_h0_3 q_h0_4 q_h0_5 q_h0_6 q_h0_7 w445 nb446 FE447
    obtain ⟨b448, bx449, Z453, O450, L451, NS452⟩ := unhide FE447
    clear FE447
    have B454 := hide ((unhide B394).trans (b448.mono (unhide B394).size))
    clear B394
    have BU455 := hide ((unhide BU395).trans (b448.mono (unhide BU395).size))
    clear BU395
    have BX456 := hide ((unhide BX396).up b448)
    clear BX396
    have BX457 := hide ((unhide BX397).up b448)
    clear BX397
    have BX458 := hide ((unhide BX398).up b448)
    clear BX398
    have BX459 := hide ((unhide BX399).up b448)
    clear BX399
    have BX460 := hide ((unhide BX400).up b448)
    clear BX400
    have O461 := hide ((unhide O401).up b448)
    clear O401
    have O462 := hide ((unhide O402).up b448)
    clear O402
    have Z463 := hide (show w392.heap.size ≤ w445.heap.size from b448.size)
    have Z464 := hide Z453
    have Z465 := hide bx449.1
    have O466 := hide O450
    have L467 := hide L451
    have NS468 := hide NS452
    have BX469 := hide bx449
    clear b448 bx449 O450 L451 NS452 Z453 KP424 BD425
    have H470 := hide (unhide O466).lt
    obtain ⟨x471, x472, x473, x474⟩ := (unhide BX456).four
    obtain ⟨x475, x476, x477, x478⟩ := (unhide BX457).four
    obtain ⟨x479, x480, x481, x482⟩ := (unhide BX458).four
    obtain ⟨x483, x484, x485, x486⟩ := (unhide BX459).four
    obtain ⟨x487, x488, x489, x490⟩ := (unhide BX460).four
    obtain ⟨x491, x492, x493, x494⟩ := (unhide BX469).four
    go_wp2_with fail
    clear x471 x472 x473 x474 x475 x476 x477 x478 x479 x480 x481 x482 x483 x484 x485 x486 x487 x488 x489 x490 x491 x492 x493 x494
    refine (eqDisk_kit (lpV d r) _ _ w445 (unhide HRS0) (unhide O466).rd ((unhide U93).up (unhide BU455))).mono ?_
    rintro e w495 ⟨rfl, b496⟩
    have B497 := hide ((unhide B454).trans (b496.mono (unhide B454).size))
    clear B454
    have BU498 := hide ((unhide BU455).trans (b496.mono (unhide BU455).size))
    clear BU455
    have BX499 := hide ((unhide BX456).up b496)
    clear BX456
    have BX500 := hide ((unhide BX457).up b496)
    clear BX457
    have BX501 := hide ((unhide BX458).up b496)
    clear BX458
    have BX502 := hide ((unhide BX459).up b496)
    clear BX459
    have BX503 := hide ((unhide BX460).up b496)
    clear BX460
    have BX504 := hide ((unhide BX469).up b496)
    clear BX469
    have O505 := hide ((unhide O461).up b496)
    clear O461
    have O506 := hide ((unhide O462).up b496)
    clear O462
    have O507 := hide ((unhide O466).up b496)
    clear O466
    have Z508 := hide (show w445.heap.size ≤ w495.heap.size from b496.size)
    clear b496
    obtain ⟨x509, x510, x511, x512⟩ := (unhide BX499).four
    obtain ⟨x513, x514, x515, x516⟩ := (unhide BX500).four
    obtain ⟨x517, x518, x519, x520⟩ := (unhide BX501).four
    obtain ⟨x521, x522, x523, x524⟩ := (unhide BX502).four
    obtain ⟨x525, x526, x527, x528⟩ := (unhide BX503).four
    obtain ⟨x529, x530, x531, x532⟩ := (unhide BX504).four
    go_wp2_with fail
    clear x509 x510 x511 x512 x513 x514 x515 x516 x517 x518 x519 x520 x521 x522 x523 x524 x525 x526 x527 x528 x529 x530 x531 x532
    refine (heldDisk_kit (lpV d r) _ w495 (1) M_0 (1) (by omega) (unhide HM_0) (by omega) (unhide HRS0) (unhide O506).rd).mono ?_
    rintro e w533 ⟨rfl, b534⟩
    have B535 := hide ((unhide B497).trans (b534.mono (unhide B497).size))
    clear B497
    have BU536 := hide ((unhide BU498).trans (b534.mono (unhide BU498).size))
    clear BU498
    have BX537 := hide ((unhide BX499).up b534)
    clear BX499
    have BX538 := hide ((unhide BX500).up b534)
    clear BX500
    have BX539 := hide ((unhide BX501).up b534)
    clear BX501
    have BX540 := hide ((unhide BX502).up b534)
    clear BX502
    have BX541 := hide ((unhide BX503).up b534)
    clear BX503
    have BX542 := hide ((unhide BX504).up b534)
    clear BX504
    have O543 := hide ((unhide O505).up b534)
    clear O505
    have O544 := hide ((unhide O506).up b534)
    clear O506
    have O545 := hide ((unhide O507).up b534)
    clear O507
    have Z546 := hide (show w495.heap.size ≤ w533.heap.size from b534.size)
    clear b534
    obtain ⟨x547, x548, x549, x550⟩ := (unhide BX537).four
    obtain ⟨x551, x552, x553, x554⟩ := (unhide BX538).four
    obtain ⟨x555, x556, x557, x558⟩ := (unhide BX539).four
    obtain ⟨x559, x560, x561, x562⟩ := (unhide BX540).four
    obtain ⟨x563, x564, x565, x566⟩ := (unhide BX541).four
    obtain ⟨x567, x568, x569, x570⟩ := (unhide BX542).four
    go_wp2_with fail
    go_ret
    exact ⟨rfl, unhide B535⟩

theorem own : ownKnob Try.prog.godebug = none := by kernel_rfl
theorem laidOut : laidOutB Try.prog = true := by kernel_rfl

set_option maxRecDepth 100000 in
theorem lifted (os : Os) (started : os.Started) (H : Type) (enc : TypeId × Value → H) :
    ReturnsInHanded {} Try.checked os 3 .any (Rows.fnExactLogPutSpec.pre6 enc Try.prog Try.f3 Rows.fnExactLogPutRow.domain false) (Rows.fnExactLogPutSpec.post enc Try.prog Try.f3 false true false false) := by
  refine returnsInHanded_of_change (C := Try.checked) own started (by kernel_rfl) Try.func3
    (ChangeSpec.witness6 (enc := enc) (C := Try.checked) false ⟨#[], #[.agg #[.slice none 0 0, .slice none 0 0, .int .i64 0, .bool false], .agg #[.int .i64 0, .string ByteArray.empty, .int .i64 0, .string ByteArray.empty]], []⟩ 8 (by kernel_rfl) (by kernel_rfl) (by kernel_rfl) (by kernel_rfl)) ?_
  intro W base args ds gs before hval0 hW hcnd _
  have hval : ∀ (j : Nat) t v, Try.f3.params[j]? = some t → args[j]? = some v → Value.okWide Try.prog W .any base t v := hval0
  have hW' := hW
  obtain ⟨p, q, hA0, hV, rfl, hfz, hnd⟩ := hW
  have hA : DataW.TrodAll enc Try.prog W 0 (fun _ => true) true Try.f3.params.toList args.toList ds p := hA0
  rw [Try.params3] at hA hval
  obtain ⟨v0, vs0, d0, ds0, p0, q0, hargs, rfl, rfl, h0, r0⟩ := trodAll_cons hA
  obtain ⟨v1, vs1, d1, ds1, p1, q1, rfl, rfl, rfl, h1, r1⟩ := trodAll_cons r0
  obtain ⟨rfl, rfl, rfl⟩ := trodAll_nil r1
  obtain rfl : args = #[v0, v1] := by cases args; simp_all
  obtain ⟨rfl, rfl⟩ := trodVars_none hV
  obtain ⟨cs0, rfl, hcs0⟩ := aggOf Try.underlying24 cellsDisk (hval 0 24 v0 rfl rfl)
  obtain ⟨c0_0, c0_1, c0_2, c0_3, rfl⟩ := array4 hcs0
  have k0 := h0
  have lt0 : ∀ x ∈ p0, x.block < W.heap.size := by obtain ⟨m, hm⟩ := k0; exact DataW.trod_lt m _ _ _ hm
  obtain ⟨x0, hr0, hf0⟩ := openDisk h0
  obtain ⟨c1_0, c1_1, c1_2, c1_3, rfl⟩ := aggOfR (hval 1 26 v1 rfl rfl)
  have k1 := h1
  have lt1 : ∀ x ∈ p1, x.block < W.heap.size := by obtain ⟨m, hm⟩ := k1; exact DataW.trod_lt m _ _ _ hm
  obtain ⟨x1, hv1, hf1⟩ := openRec1 h1
  rw [hv1] at k1 hW' ⊢
  clear hA0 hval0
  refine (walk x0 _ x1 W hf0 hr0 hf1).mono fun e W' ⟨he, bel⟩ => ?_
  subst he
  exact ⟨_, rfl, _, _, _, [], _, [], hW', trodAll_mk1 (shut_bool Try.underlying4 _), (trodAll_cons_mk (Below.trod laidOut (by kernel_rfl) (of_decide_eq_true (by kernel_rfl)) k0 bel lt0) (trodAll_cons_mk (Below.trod laidOut (by kernel_rfl) (of_decide_eq_true (by kernel_rfl)) k1 bel lt1) trodAll_mk0)), rfl, bel.frame _, fun h => by cases h⟩

theorem over : Rows.fnExactLogPutRow.holds Try.pinned (OpenSpec.ofChange Rows.fnExactLogPutSpec) :=
  OpenClaim.holds_of_wide 3 Try.f3 rfl rfl rfl rfl rfl rfl rfl ⟨rfl, rfl, rfl, rfl, rfl⟩ rfl rfl rfl rfl rfl (by kernel_rfl) Try.func3 (by kernel_rfl)
    (of_decide_eq_true (by kernel_rfl)) (by unfold Func.isWrapper; first | (rw [if_pos (by decide +kernel)]; kernel_rfl) | (rw [if_neg (by decide +kernel)]; exact ⟨rfl, rfl⟩))
    (fun os started H enc _ => lifted os started H enc)

end Go.Proofs.Ytmippilikkfgjaa.fnExactLogPut

namespace Go.Proofs.Ytmippilikkfgjaa
theorem fnExactLogPut_holds : Rows.FnExactLogPutSaid :=
  fnExactLogPut.over
end Go.Proofs.Ytmippilikkfgjaa
