/-
  Proved: at every list of binds the law on BindsOk answers true, and the list reads afterwards as before: the program's BindsOk is the specification's BindsOk, and writes into no argument. No condition.
-/
import Derived.Test.YtkbmekcnejbdkaaBindsOk
import Derived.Test.YtkbmekcnejbdkaaRows
import Derived.WalkKit
import Derived.ProofKit
import Derived.OpenShut
namespace Go.Proofs.Ytkbmekcnejbdkaa.fnExactBindsOk
open Go.ChangeShapes Go.WideShapes Go.ChangeAt Go.RowKit Go.Deep
set_option linter.unusedVariables false

set_option maxHeartbeats 1600000 in
theorem walk (a : Option Addr) (cap : Nat) (ns : List BindV) (w : World) (hl : ns.length ≤ maxLen) (hn : BindIn w a ns) (hs : BindOk ns) :
    Calls Try.prog 4 #[.slice a ns.length cap] w fun e w' => e = .returned (.bool true) ∧ Below w.heap.size w w' := by
  have HL := hide hl
  have HN := hide hn
  have HS := hide hs
  clear hl hn hs
  go_enter Try.func4, Try.ntmps4
  go_wp2_with fail
  refine (szBindS_in w a cap ns 1048576 (by omega) (by omega) (unhide HL) (unhide HN) (unhide HS)).mono ?_
  rintro e w1 ⟨⟨r, rfl, hr0, hr⟩, b1⟩
  have HR := hide hr
  have HB1 := hide b1
  clear hr b1
  by_cases hneg : r < 0
  · go_wp2_with fail
    go_ret
    exact ⟨rfl, unhide HB1⟩
  · have HSM := hide (unhide HR (by omega))
    go_wp2_with fail
    refine (toBindS_in w1 a cap ns (unhide HSM).1 ((unhide HN).below (unhide HB1))).mono ?_
    rintro e w2 ⟨rfl, m2, z2, b2⟩
    have HB2 := hide ((unhide HB1).trans (b2.mono (unhide HB1).size))
    have HM2 := hide m2
    clear m2 b2
    go_wp2_with fail
    refine (specBinds_any w2 _ _ ns (.inr ⟨_, _, rfl, z2, unhide HM2⟩) (unhide HS)).mono ?_
    rintro e w3 ⟨hr3, b3⟩
    have HB3 := hide ((unhide HB2).trans (b3.mono (unhide HB2).size))
    have HR3 := hide hr3
    have hz3 := b3.size
    clear b3
    obtain ⟨q, rfl⟩ : ∃ q : Bool, e = .returned (.bool q) := by rcases hr3 with ⟨_, rfl⟩ | ⟨_, rfl⟩ <;> exact ⟨_, rfl⟩
    clear hr3
    go_wp2_with fail
    refine (toBindS_in w3 a cap ns (unhide HSM).1 ((unhide HN).below (unhide HB3))).mono ?_
    rintro e w4 ⟨rfl, m4, z4, b4⟩
    have HB4 := hide ((unhide HB3).trans (b4.mono (unhide HB3).size))
    have HM4 := hide m4
    clear m4 b4
    go_wp2_with fail
    refine (implBinds_any w4 _ _ ns (.inr ⟨_, _, rfl, z4, unhide HM4⟩) (unhide HS)).mono ?_
    rintro e w5 ⟨hr5, b5⟩
    obtain ⟨q', he, he'⟩ := retGood_same (unhide HR3) hr5
    obtain rfl : q = q' := by injection he with h; injection h
    subst he'
    have HB5 := hide ((unhide HB4).trans (b5.mono (unhide HB4).size))
    have HM5 := hide ((unhide HM4).below b5 z4)
    have hz5 := b5.size
    clear b5 he hr5
    go_wp2_with fail
    refine (toBindS_in w5 a cap ns (unhide HSM).1 ((unhide HN).below (unhide HB5))).mono ?_
    rintro e w6 ⟨rfl, m6, z6, b6⟩
    have HB6 := hide ((unhide HB5).trans (b6.mono (unhide HB5).size))
    have HM6 := hide m6
    have HM56 := hide ((unhide HM5).below b6 (by omega))
    have hz6 := b6.size
    clear m6 b6
    go_wp2_with fail
    refine (eqBindS_same w6 _ _ _ _ _ _ ns (by have := (unhide HSM).1; omega) (unhide HM56) (unhide HM6) (by omega) z6).mono ?_
    rintro e w7 ⟨rfl, b7⟩
    have HB7 := hide ((unhide HB6).trans (b7.mono (unhide HB6).size))
    clear b7
    go_wp2_with fail
    go_ret
    exact ⟨rfl, unhide HB7⟩

theorem own : ownKnob Try.prog.godebug = none := by kernel_rfl
theorem laidOut : laidOutB Try.prog = true := by kernel_rfl

set_option maxRecDepth 100000 in
theorem lifted (os : Os) (started : os.Started) (H : Type) (enc : TypeId × Value → H) :
    ReturnsInHanded {} Try.checked os 4 .any (Rows.fnExactBindsOkSpec.pre6 enc Try.prog Try.f4 Rows.fnExactBindsOkRow.domain false) (Rows.fnExactBindsOkSpec.post enc Try.prog Try.f4 false true false false) := by
  refine returnsInHanded_of_change (C := Try.checked) own started (by kernel_rfl) Try.func4
    (ChangeSpec.witness6 (enc := enc) (C := Try.checked) false ⟨#[], #[.slice none 0 0], []⟩ 8 (by kernel_rfl) (by kernel_rfl) (by kernel_rfl) (by kernel_rfl)) ?_
  intro W base args ds gs before hval0 hW hcnd _
  have hval : ∀ (j : Nat) t v, Try.f4.params[j]? = some t → args[j]? = some v → Value.okWide Try.prog W .any base t v := hval0
  have hW' := hW
  obtain ⟨p, q, hA0, hV, rfl, hfz, hnd⟩ := hW
  have hA : DataW.TrodAll enc Try.prog W 0 (fun _ => true) true Try.f4.params.toList args.toList ds p := hA0
  rw [Try.params4] at hA hval
  obtain ⟨v0, d0, rfl, rfl, h0⟩ := trodAll_one hA
  obtain ⟨rfl, rfl⟩ := trodVars_none hV
  obtain ⟨a0, len0, cap0, rfl⟩ := okWide_slice Try.underlying27 (hval 0 27 v0 rfl rfl)
  have k0 := h0
  have lt0 : ∀ x ∈ p, x.block < W.heap.size := by obtain ⟨m, hm⟩ := k0; exact DataW.trod_lt m _ _ _ hm
  obtain ⟨ns, rfl, hl, hn, hs⟩ := openBindS h0
  clear hA0 hval0
  refine (walk a0 cap0 ns W hl hn hs).mono fun e W' ⟨he, bel⟩ => ?_
  subst he
  exact ⟨_, rfl, _, _, _, [], _, [], hW', trodAll_mk1 (shut_bool Try.underlying4 _), trodAll_mk1 (Below.trod laidOut (by kernel_rfl) (of_decide_eq_true (by kernel_rfl)) k0 bel lt0), rfl, bel.frame _, fun h => by cases h⟩

theorem over : Rows.fnExactBindsOkRow.holds Try.pinned (OpenSpec.ofChange Rows.fnExactBindsOkSpec) :=
  OpenClaim.holds_of_wide 4 Try.f4 rfl rfl rfl rfl rfl rfl rfl ⟨rfl, rfl, rfl, rfl, rfl⟩ rfl rfl rfl rfl rfl (by kernel_rfl) Try.func4 (by kernel_rfl)
    (of_decide_eq_true (by kernel_rfl)) (by unfold Func.isWrapper; first | (rw [if_pos (by decide +kernel)]; kernel_rfl) | (rw [if_neg (by decide +kernel)]; exact ⟨rfl, rfl⟩))
    (fun os started H enc _ => lifted os started H enc)

end Go.Proofs.Ytkbmekcnejbdkaa.fnExactBindsOk

namespace Go.Proofs.Ytkbmekcnejbdkaa
theorem fnExactBindsOk_holds : Rows.FnExactBindsOkSaid :=
  fnExactBindsOk.over
end Go.Proofs.Ytkbmekcnejbdkaa
