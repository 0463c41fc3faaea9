/-
  Proved: at every disk the law on DiskOk answers true, and the disk reads afterwards as before: the program tells which disks may be as the specification does, and writes into no argument. No condition.
-/
import Derived.Test.YtmepmjhehfgdpaaDisks
import Derived.Test.YtmepmjhehfgdpaaDiskKit
import Derived.Test.YtmepmjhehfgdpaaBoxes
import Derived.Test.YtmepmjhehfgdpaaRows
import Derived.WalkKit
import Derived.ProofKit
import Derived.OpenShut
namespace Go.Proofs.Ytmepmjhehfgdpaa.fnExactDiskOk
open Go.ChangeShapes Go.WideShapes Go.ChangeAt Go.RowKit Go.Deep Go.Maps
set_option linter.unusedVariables false

theorem specOk_kit (d : DiskV) (v : Value) (w : World) (hs : SmallDisk d) (h : DiskRd w v d) :
    Calls Try.prog 15 #[v] w fun e w' => e = .returned (.bool (diskOkB d)) ∧ Below w.heap.size w w' := specDiskOk_any d v w ⟨by have := hs.1; unfold maxLen; omega, by have := hs.2; unfold maxLen; omega⟩ h
theorem implOk_kit (d : DiskV) (v : Value) (w : World) (hs : SmallDisk d) (h : DiskRd w v d) :
    Calls Try.prog 17 #[v] w fun e w' => e = .returned (.bool (diskOkB d)) ∧ Below w.heap.size w w' := implDiskOk_any d v w (by have := hs.1; omega) (by have := hs.2; omega) h

set_option maxHeartbeats 12800000 in
theorem walk (d : DiskV) (v_d : Value) (w : World) (hf_d : DiskFit d) (hr_d : DiskRd w v_d d) :
    Calls Try.prog 5 #[v_d] w fun e w' => e = .returned (.bool true) ∧ Below w.heap.size w w' := by
  have HF_d := hide hf_d
  clear hf_d
  have HR_d := hide hr_d
  obtain ⟨p_d0, p_d1, p_d2, p_d3, p_d4, p_d5, p_d6, p_d7, rfl⟩ := hr_d.form
  clear hr_d
  go_enter Try.func5, Try.ntmps5
  obtain ⟨bx1, b2, zz3⟩ := boxNew4 w (.slice p_d0 p_d1 p_d2) (.slice p_d3 p_d4 p_d5) (.int .i64 p_d6) (.bool p_d7) 35
  go_wp2_with fail
  generalize w.alloc (.cells #[.slice p_d0 p_d1 p_d2, .slice p_d3 p_d4 p_d5, .int .i64 p_d6, .bool p_d7] 35) = W4 at *
  have B6 := hide b2
  have Z7 := hide (show w.heap.size < W4.heap.size from zz3)
  have BX5 := hide bx1
  clear bx1 b2 zz3
  refine (szDisk_kit d _ W4 (unhide HF_d) ((unhide HR_d).up (unhide B6))).mono ?_
  rintro e w8 ⟨q9, rfl, HQ10, b11⟩
  have B12 := hide ((unhide B6).trans (b11.mono (unhide B6).size))
  clear B6
  have BX13 := hide ((unhide BX5).up b11)
  clear BX5
  have Z14 := hide (show W4.heap.size ≤ w8.heap.size from b11.size)
  clear b11
  by_cases hnegq9 : q9 < 0
  · go_wp2_with fail
    go_ret
    exact ⟨rfl, unhide B12⟩
  have HS15 := hide (unhide HQ10 (by omega))
  obtain ⟨N_d, HN_d⟩ : ∃ N, Hid (nDisk d = N) := ⟨_, rfl⟩
  have NL_d : N_d ≤ 100000000 := by rw [← unhide HN_d]; exact nDisk_le (unhide HS15)
  obtain ⟨x16, x17, x18, x19⟩ := (unhide BX13).four
  go_wp2_with fail
  clear x16 x17 x18 x19
  refine (toDisk_kit d _ w8 (unhide HS15) ((unhide HR_d).up (unhide B12))).mono ?_
  rintro e w20 ⟨v21, S22, rfl, O23, L24, b25⟩
  have B26 := hide ((unhide B12).trans (b25.mono (unhide B12).size))
  clear B12
  have BX27 := hide ((unhide BX13).up b25)
  clear BX13
  have Z28 := hide (show w8.heap.size ≤ w20.heap.size from b25.size)
  clear b25
  have H29 := hide (unhide O23).lt
  obtain ⟨x30, x31, x32, x33⟩ := (unhide BX27).four
  go_wp2_with fail
  clear x30 x31 x32 x33
  refine (specOk_kit d _ w20 (unhide HS15) (unhide O23).rd).mono ?_
  rintro e w34 ⟨rfl, b35⟩
  clear O23
  have B36 := hide ((unhide B26).trans (b35.mono (unhide B26).size))
  clear B26
  have BX37 := hide ((unhide BX27).up b35)
  clear BX27
  have Z38 := hide (show w20.heap.size ≤ w34.heap.size from b35.size)
  clear b35
  have BU39 := hide (Below.refl w34.heap.size w34)
  obtain ⟨x40, x41, x42, x43⟩ := (unhide BX37).four
  go_wp2_with fail
  clear x40 x41 x42 x43
  refine (toDisk_kit d _ w34 (unhide HS15) ((unhide HR_d).up (unhide B36))).mono ?_
  rintro e w44 ⟨v45, S46, rfl, O47, L48, b49⟩
  have B50 := hide ((unhide B36).trans (b49.mono (unhide B36).size))
  clear B36
  have BU51 := hide ((unhide BU39).trans (b49.mono (unhide BU39).size))
  clear BU39
  have BX52 := hide ((unhide BX37).up b49)
  clear BX37
  have Z53 := hide (show w34.heap.size ≤ w44.heap.size from b49.size)
  clear b49
  have H54 := hide (unhide O47).lt
  obtain ⟨r_d0, r_d1, r_d2, r_d3, r_d4, r_d5, r_d6, r_d7, rfl⟩ := (unhide O47).rd.form
  obtain ⟨x55, x56, x57, x58⟩ := (unhide BX52).four
  have lt59 : w.heap.size < w44.heap.size := (unhide BX52).1
  obtain ⟨bx60, b61, zz62⟩ := boxNew4 w44 (.slice r_d0 r_d1 r_d2) (.slice r_d3 r_d4 r_d5) (.int .i64 r_d6) (.bool r_d7) 38
  go_wp2_with fail
  generalize w44.alloc (.cells #[.slice r_d0 r_d1 r_d2, .slice r_d3 r_d4 r_d5, .int .i64 r_d6, .bool r_d7] 38) = W63 at *
  have B65 := hide ((unhide B50).trans (b61.mono (unhide B50).size))
  clear B50
  have BU66 := hide ((unhide BU51).trans (b61.mono (unhide BU51).size))
  clear BU51
  have BX67 := hide ((unhide BX52).up b61)
  clear BX52
  have O68 := hide ((unhide O47).up b61)
  clear O47
  have Z69 := hide (show w44.heap.size < W63.heap.size from zz62)
  have BX64 := hide bx60
  clear bx60 b61 zz62
  clear x55 x56 x57 x58 lt59
  refine (implOk_kit d _ W63 (unhide HS15) (unhide O68).rd).mono ?_
  rintro e w70 ⟨rfl, b71⟩
  have B72 := hide ((unhide B65).trans (b71.mono (unhide B65).size))
  clear B65
  have BU73 := hide ((unhide BU66).trans (b71.mono (unhide BU66).size))
  clear BU66
  have BX74 := hide ((unhide BX67).up b71)
  clear BX67
  have BX75 := hide ((unhide BX64).up b71)
  clear BX64
  have O76 := hide ((unhide O68).up b71)
  clear O68
  have Z77 := hide (show W63.heap.size ≤ w70.heap.size from b71.size)
  clear b71
  obtain ⟨x78, x79, x80, x81⟩ := (unhide BX74).four
  obtain ⟨x82, x83, x84, x85⟩ := (unhide BX75).four
  go_wp2_with fail
  have KP86 := hide (show ∀ X : World, Below w70.heap.size w70 X → (fun (X : World) => (X.cell? ⟨w.heap.size, 0, none⟩ = some (.slice p_d0 p_d1 p_d2) ∧ X.cell? ⟨w.heap.size, 1, none⟩ = some (.slice p_d3 p_d4 p_d5) ∧ X.cell? ⟨w.heap.size, 2, none⟩ = some (.int .i64 p_d6) ∧ X.cell? ⟨w.heap.size, 3, none⟩ = some (.bool p_d7)) ∧ (X.cell? ⟨w44.heap.size, 0, none⟩ = some (.slice r_d0 r_d1 r_d2) ∧ X.cell? ⟨w44.heap.size, 1, none⟩ = some (.slice r_d3 r_d4 r_d5) ∧ X.cell? ⟨w44.heap.size, 2, none⟩ = some (.int .i64 r_d6) ∧ X.cell? ⟨w44.heap.size, 3, none⟩ = some (.bool r_d7)) ∧ Hid (Below w70.heap.size w70 X)) X from fun X b => ⟨((unhide BX74).up b).four, ((unhide BX75).up b).four, hide b⟩)
  have BD87 := hide ((Below.refl w70.heap.size w70).drew)
  go_region_held3 (fun (X : World) => (X.cell? ⟨w.heap.size, 0, none⟩ = some (.slice p_d0 p_d1 p_d2) ∧ X.cell? ⟨w.heap.size, 1, none⟩ = some (.slice p_d3 p_d4 p_d5) ∧ X.cell? ⟨w.heap.size, 2, none⟩ = some (.int .i64 p_d6) ∧ X.cell? ⟨w.heap.size, 3, none⟩ = some (.bool p_d7)) ∧ (X.cell? ⟨w44.heap.size, 0, none⟩ = some (.slice r_d0 r_d1 r_d2) ∧ X.cell? ⟨w44.heap.size, 1, none⟩ = some (.slice r_d3 r_d4 r_d5) ∧ X.cell? ⟨w44.heap.size, 2, none⟩ = some (.int .i64 r_d6) ∧ X.cell? ⟨w44.heap.size, 3, none⟩ = some (.bool r_d7)) ∧ Hid (Below w70.heap.size w70 X)) ((refine unhide KP86 _ ?_; exact unhide (by assumption)))
    (first
      | (go_at_call 18; have _t := BB94; refine (eqDisk_kit d _ _ _ (unhide HS15) ((unhide O76).up (unhide BB94)).rd (unhide O91).rd).mono ?_; rintro e w95 ⟨rfl, b96⟩; have BB97 := hide ((unhide BB94).trans (b96.mono (unhide BB94).size)); clear b96)
      | (go_at_call 16; refine (toDisk_kit d _ _ (unhide HS15) ((unhide HR_d).up ((unhide B72).trans ((unhide BD87).mono (unhide B72).size)))).mono ?_; rintro e w88 ⟨v89, S90, rfl, O91, L92, b93⟩; have BB94 := hide ((unhide BD87).trans (b93.mono (unhide BD87).size)); clear b93)
      | fail)
  clear x78 x79 x80 x81 x82 x83 x84 x85
  all_goals
    try clear _t
    have B98 := hide ((unhide B72).trans ((unhide BB97).mono (unhide B72).size))
    clear B72
    have BU99 := hide ((unhide BU73).trans ((unhide BB97).mono (unhide BU73).size))
    clear BU73
    have BX100 := hide ((unhide BX74).up (unhide BB97))
    clear BX74
    have BX101 := hide ((unhide BX75).up (unhide BB97))
    clear BX75
    have O102 := hide ((unhide O76).up (unhide BB97))
    clear O76
    have Z103 := hide (show w70.heap.size ≤ w95.heap.size from (unhide BB97).size)
    clear BB97 BB94 KP86 BD87 O91 L92
    obtain ⟨x104, x105, x106, x107⟩ := (unhide BX100).four
    obtain ⟨x108, x109, x110, x111⟩ := (unhide BX101).four
    go_wp2_with fail
    go_ret
    exact ⟨rfl, unhide B98⟩

theorem own : ownKnob Try.prog.godebug = none := by kernel_rfl
theorem laidOut : laidOutB Try.prog = true := by kernel_rfl

set_option maxRecDepth 100000 in
theorem lifted (os : Os) (started : os.Started) (H : Type) (enc : TypeId × Value → H) :
    ReturnsInHanded {} Try.checked os 5 .any (Rows.fnExactDiskOkSpec.pre6 enc Try.prog Try.f5 Rows.fnExactDiskOkRow.domain false) (Rows.fnExactDiskOkSpec.post enc Try.prog Try.f5 false true false false) := by
  refine returnsInHanded_of_change (C := Try.checked) own started (by kernel_rfl) Try.func5
    (ChangeSpec.witness6 (enc := enc) (C := Try.checked) false ⟨#[], #[.agg #[.slice none 0 0, .slice none 0 0, .int .i64 0, .bool false]], []⟩ 8 (by kernel_rfl) (by kernel_rfl) (by kernel_rfl) (by kernel_rfl)) ?_
  intro W base args ds gs before hval0 hW hcnd _
  have hval : ∀ (j : Nat) t v, Try.f5.params[j]? = some t → args[j]? = some v → Value.okWide Try.prog W .any base t v := hval0
  have hW' := hW
  obtain ⟨p, q, hA0, hV, rfl, hfz, hnd⟩ := hW
  have hA : DataW.TrodAll enc Try.prog W 0 (fun _ => true) true Try.f5.params.toList args.toList ds p := hA0
  rw [Try.params5] at hA hval
  obtain ⟨v0, d0, rfl, rfl, h0⟩ := trodAll_one hA
  obtain ⟨rfl, rfl⟩ := trodVars_none hV
  obtain ⟨cs, rfl, hcs⟩ := aggOf Try.underlying35 cellsDisk (hval 0 35 v0 rfl rfl)
  obtain ⟨c0, c1, c2, c3, rfl⟩ := array4 hcs
  obtain ⟨d, hr, hf⟩ := openDisk h0
  have k0 := h0
  have lt0 : ∀ x ∈ p, x.block < W.heap.size := by obtain ⟨m, hm⟩ := k0; exact DataW.trod_lt m _ _ _ hm
  clear hA0 hval0
  refine (walk d _ W hf hr).mono fun e W' ⟨he, bel⟩ => ?_
  subst he
  exact ⟨_, rfl, _, _, _, [], _, [], hW', trodAll_mk1 (shut_bool Try.underlying4 _), trodAll_mk1 (Below.trod laidOut (by kernel_rfl) (of_decide_eq_true (by kernel_rfl)) k0 bel lt0), rfl, bel.frame _, fun h => by cases h⟩

theorem over : Rows.fnExactDiskOkRow.holds Try.pinned (OpenSpec.ofChange Rows.fnExactDiskOkSpec) :=
  OpenClaim.holds_of_wide 5 Try.f5 rfl rfl rfl rfl rfl rfl rfl ⟨rfl, rfl, rfl, rfl, rfl⟩ rfl rfl rfl rfl rfl (by kernel_rfl) Try.func5 (by kernel_rfl)
    (of_decide_eq_true (by kernel_rfl)) (by unfold Func.isWrapper; first | (rw [if_pos (by decide +kernel)]; kernel_rfl) | (rw [if_neg (by decide +kernel)]; exact ⟨rfl, rfl⟩))
    (fun os started H enc _ => lifted os started H enc)

end Go.Proofs.Ytmepmjhehfgdpaa.fnExactDiskOk

namespace Go.Proofs.Ytmepmjhehfgdpaa
theorem fnExactDiskOk_holds : Rows.FnExactDiskOkSaid :=
  fnExactDiskOk.over
end Go.Proofs.Ytmepmjhehfgdpaa
