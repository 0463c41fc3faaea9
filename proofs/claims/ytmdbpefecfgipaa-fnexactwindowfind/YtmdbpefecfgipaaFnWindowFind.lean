/-
  Proved: at every argument the law on WindowFind answers true, and the arguments read afterwards as before: the program finds the last item with at most a given version as the specification does, and writes into no argument. No condition.
-/
import Derived.Test.YtmdbpefecfgipaaWinFindI
import Derived.Test.YtmdbpefecfgipaaItemOpen
import Derived.Test.YtmdbpefecfgipaaRows
import Derived.WalkKit
import Derived.ProofKit
import Derived.OpenShut
import Derived.Handy
import Derived.ShutString
namespace Go.Proofs.Ytmdbpefecfgipaa.fnExactWindowFind
open Go.ChangeShapes Go.WideShapes Go.ChangeAt Go.RowKit Go.Deep Go.Maps
open Go.ChangeMaps (open_string shut_string)
set_option linter.unusedVariables false


set_option maxHeartbeats 12800000 in
theorem walk (ns : List ItemV) (v_ns : Value) (s : ByteArray) (ver : Int) (w : World) (hf_ns : ItemSFit ns) (hr_ns : ItemSRd w v_ns ns) (hf_s : s.size ≤ maxLen) (hf_ver : IntFit ver) :
    Calls Try.prog 4 #[v_ns, .string s, .int .i64 ver] w fun e w' => e = .returned (.bool true) ∧ Below w.heap.size w w' := by
  have HF_ns := hide hf_ns
  clear hf_ns
  have HR_ns := hide hr_ns
  obtain ⟨p_ns0, p_ns1, p_ns2, rfl⟩ := hr_ns.form
  clear hr_ns
  have HF_s := hide hf_s
  clear hf_s
  have HF_ver := hide hf_ver
  clear hf_ver
  go_enter Try.func4, Try.ntmps4
  have B00 := hide (Below.refl w.heap.size w)
  by_cases hl_s : (s.size : Int) ≤ 1048576
  rotate_left
  · have hm_s := unhide HF_s
    unfold maxLen at hm_s
    go_wp2_with fail
    go_ret
    exact ⟨rfl, by go_grown⟩
  have HS1 := hide (show s.size ≤ 1048576 by omega)
  go_wp2_with fail
  refine (szItemS_kit ns _ w (unhide HF_ns) ((unhide HR_ns).up (unhide B00))).mono ?_
  rintro e w2 ⟨q3, rfl, HQ4, b5⟩
  have B6 := hide ((unhide B00).trans (b5.mono (unhide B00).size))
  clear B00
  have Z7 := hide (show w.heap.size ≤ w2.heap.size from b5.size)
  clear b5
  by_cases hnegq3 : q3 < 0
  · go_wp2_with fail
    go_ret
    exact ⟨rfl, unhide B6⟩
  have HS8 := hide (unhide HQ4 (by omega))
  obtain ⟨N_ns, HN_ns⟩ : ∃ N, Hid (nItemS ns = N) := ⟨_, rfl⟩
  have NL_ns : N_ns ≤ 100000000 := by rw [← unhide HN_ns]; exact nItemS_le (unhide HS8)
  go_wp2_with fail
  refine (toItemS_kit ns _ w2 (unhide HS8) ((unhide HR_ns).up (unhide B6))).mono ?_
  rintro e w9 ⟨v10, S11, rfl, O12, L13, b14⟩
  have B15 := hide ((unhide B6).trans (b14.mono (unhide B6).size))
  clear B6
  have Z16 := hide (show w2.heap.size ≤ w9.heap.size from b14.size)
  clear b14
  have H17 := hide (unhide O12).lt
  go_wp2_with fail
  refine (specFind_ok ns _ s ver w9 (unhide HS8) (unhide HS1) (unhide HF_ver) (unhide O12).rd).mono ?_
  rintro e w18 ⟨rfl, b19⟩
  clear O12
  have B20 := hide ((unhide B15).trans (b19.mono (unhide B15).size))
  clear B15
  have Z21 := hide (show w9.heap.size ≤ w18.heap.size from b19.size)
  clear b19
  have BU22 := hide (Below.refl w18.heap.size w18)
  go_wp2_with fail
  refine (toItemS_kit ns _ w18 (unhide HS8) ((unhide HR_ns).up (unhide B20))).mono ?_
  rintro e w23 ⟨v24, S25, rfl, O26, L27, b28⟩
  have B29 := hide ((unhide B20).trans (b28.mono (unhide B20).size))
  clear B20
  have BU30 := hide ((unhide BU22).trans (b28.mono (unhide BU22).size))
  clear BU22
  have Z31 := hide (show w18.heap.size ≤ w23.heap.size from b28.size)
  clear b28
  have H32 := hide (unhide O26).lt
  obtain ⟨r_ns0, r_ns1, r_ns2, rfl⟩ := (unhide O26).rd.form
  go_wp2_with fail
  refine (implFind_any ns _ s ver w23 (unhide HS8) (unhide HS1) (unhide HF_ver) (unhide O26).rd).mono ?_
  rintro e w33 ⟨rfl, b34⟩
  have B35 := hide ((unhide B29).trans (b34.mono (unhide B29).size))
  clear B29
  have BU36 := hide ((unhide BU30).trans (b34.mono (unhide BU30).size))
  clear BU30
  have O37 := hide ((unhide O26).up b34)
  clear O26
  have Z38 := hide (show w23.heap.size ≤ w33.heap.size from b34.size)
  clear b34
  go_wp2_with fail
  refine (toItemS_kit ns _ w33 (unhide HS8) ((unhide HR_ns).up (unhide B35))).mono ?_
  rintro e w39 ⟨v40, S41, rfl, O42, L43, b44⟩
  have B45 := hide ((unhide B35).trans (b44.mono (unhide B35).size))
  clear B35
  have BU46 := hide ((unhide BU36).trans (b44.mono (unhide BU36).size))
  clear BU36
  have O47 := hide ((unhide O37).up b44)
  clear O37
  have Z48 := hide (show w33.heap.size ≤ w39.heap.size from b44.size)
  clear b44
  have H49 := hide (unhide O42).lt
  go_wp2_with fail
  refine (eqItemS_kit ns _ _ w39 (unhide HS8) (unhide O47).rd (unhide O42).rd).mono ?_
  rintro e w50 ⟨rfl, b51⟩
  have B52 := hide ((unhide B45).trans (b51.mono (unhide B45).size))
  clear B45
  have BU53 := hide ((unhide BU46).trans (b51.mono (unhide BU46).size))
  clear BU46
  have O54 := hide ((unhide O47).up b51)
  clear O47
  have Z55 := hide (show w39.heap.size ≤ w50.heap.size from b51.size)
  clear b51
  go_wp2_with fail
  go_ret
  exact ⟨rfl, unhide B52⟩

theorem own : ownKnob Try.prog.godebug = none := by kernel_rfl
theorem laidOut : laidOutB Try.prog = true := by kernel_rfl

set_option maxRecDepth 100000 in
theorem lifted (os : Os) (started : os.Started) (H : Type) (enc : TypeId × Value → H) :
    ReturnsInHanded {} Try.checked os 4 .any (Rows.fnExactWindowFindSpec.pre6 enc Try.prog Try.f4 Rows.fnExactWindowFindRow.domain false) (Rows.fnExactWindowFindSpec.post enc Try.prog Try.f4 false true false false) := by
  refine returnsInHanded_of_change (C := Try.checked) own started (by kernel_rfl) Try.func4
    (ChangeSpec.witness6 (enc := enc) (C := Try.checked) false ⟨#[], #[.slice none 0 0, .string ByteArray.empty, .int .i64 0], []⟩ 8 (by kernel_rfl) (by kernel_rfl) (by kernel_rfl) (by kernel_rfl)) ?_
  intro W base args ds gs before hval0 hW hcnd _
  have hval : ∀ (j : Nat) t v, Try.f4.params[j]? = some t → args[j]? = some v → Value.okWide Try.prog W .any base t v := hval0
  have hW' := hW
  obtain ⟨p, q, hA0, hV, rfl, hfz, hnd⟩ := hW
  have hA : DataW.TrodAll enc Try.prog W 0 (fun _ => true) true Try.f4.params.toList args.toList ds p := hA0
  rw [Try.params4] at hA hval
  obtain ⟨v0, vs0, d0, ds0, p0, q0, hargs, rfl, rfl, h0, r0⟩ := trodAll_cons hA
  obtain ⟨v1, vs1, d1, ds1, p1, q1, rfl, rfl, rfl, h1, r1⟩ := trodAll_cons r0
  obtain ⟨v2, vs2, d2, ds2, p2, q2, rfl, rfl, rfl, h2, r2⟩ := trodAll_cons r1
  obtain ⟨rfl, rfl, rfl⟩ := trodAll_nil r2
  obtain rfl : args = #[v0, v1, v2] := by cases args; simp_all
  obtain ⟨rfl, rfl⟩ := trodVars_none hV
  obtain ⟨a0, len0, cap0, rfl⟩ := okWide_slice Try.underlying22 (hval 0 22 v0 rfl rfl)
  have k0 := h0
  have lt0 : ∀ x ∈ p0, x.block < W.heap.size := by obtain ⟨m, hm⟩ := k0; exact DataW.trod_lt m _ _ _ hm
  obtain ⟨ns0, rfl, hl0, hn0, ho0⟩ := openItemS h0
  obtain ⟨s1, rfl, rfl, rfl, w1⟩ := open_string Try.underlying9 (hval 1 9 v1 rfl rfl) h1
  obtain ⟨i2, rfl, rfl, rfl, w2⟩ := open_int Try.underlying3 (hval 2 3 v2 rfl rfl) h2
  clear hA0 hval0
  refine (walk ns0 _ s1 i2 W ⟨hl0, ho0⟩ ⟨a0, cap0, rfl, hn0⟩ w1 (bounds_i64 w2)).mono fun e W' ⟨he, bel⟩ => ?_
  subst he
  exact ⟨_, rfl, _, _, _, [], _, [], hW', trodAll_mk1 (shut_bool Try.underlying4 _), (trodAll_cons_mk (Below.trod laidOut (by kernel_rfl) (of_decide_eq_true (by kernel_rfl)) k0 bel lt0) (trodAll_cons_mk (shut_string Try.underlying9 w1) (trodAll_cons_mk (shut_int Try.underlying3 w2) trodAll_mk0))), rfl, bel.frame _, fun h => by cases h⟩

theorem over : Rows.fnExactWindowFindRow.holds Try.pinned (OpenSpec.ofChange Rows.fnExactWindowFindSpec) :=
  OpenClaim.holds_of_wide 4 Try.f4 rfl rfl rfl rfl rfl rfl rfl ⟨rfl, rfl, rfl, rfl, rfl⟩ rfl rfl rfl rfl rfl (by kernel_rfl) Try.func4 (by kernel_rfl)
    (of_decide_eq_true (by kernel_rfl)) (by unfold Func.isWrapper; first | (rw [if_pos (by decide +kernel)]; kernel_rfl) | (rw [if_neg (by decide +kernel)]; exact ⟨rfl, rfl⟩))
    (fun os started H enc _ => lifted os started H enc)

end Go.Proofs.Ytmdbpefecfgipaa.fnExactWindowFind

namespace Go.Proofs.Ytmdbpefecfgipaa
theorem fnExactWindowFind_holds : Rows.FnExactWindowFindSaid :=
  fnExactWindowFind.over
end Go.Proofs.Ytmdbpefecfgipaa
