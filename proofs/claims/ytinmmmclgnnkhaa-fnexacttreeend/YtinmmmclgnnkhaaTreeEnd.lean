/-
  Proved: at every list of nodes and every place the law on TreeEnd answers true, and both arguments read afterwards as before: the program's TreeEnd is the specification's TreeEnd, and writes into no argument. No condition.
-/
import Derived.Test.YtinmmmclgnnkhaaEnds
import Derived.Test.YtinmmmclgnnkhaaArgs
import Derived.WalkKit
import Derived.ProofKit
import Derived.OpenShut
import Derived.ShutString
namespace Go.Proofs.Ytinmmmclgnnkhaa.fnExactTreeEnd
open Go.ChangeShapes Go.WideShapes Go.ChangeAt Go.RowKit
set_option linter.unusedVariables false

set_option maxHeartbeats 1600000 in
theorem walk (a : Option Addr) (cap : Nat) (ns : List NodeV) (i : Int) (w : World) (hi0 : -9223372036854775808 ≤ i) (hi1 : i ≤ 9223372036854775807) (hl : ns.length ≤ maxLen) (hn : NodesIn w a ns) (hs : NamesOk ns) :
    Calls Try.prog 5 #[.slice a ns.length cap, .int .i64 i] w fun e w' => e = .returned (.bool true) ∧ Below w.heap.size w w' := by
  have HL := hide hl
  clear hl
  go_enter Try.func5, Try.ntmps5
  go_wp2_with fail
  refine (szNodeS_in w a cap ns (unhide HL) hn hs).mono ?_
  rintro e w1 ⟨⟨r, rfl, hr⟩, b1⟩
  have HR := hide hr
  clear hr
  by_cases hneg : r < 0
  · go_wp2
    go_ret
    exact ⟨rfl, b1⟩
  · obtain ⟨hlen, hsm⟩ := unhide HR (by omega)
    go_wp2_with fail
    have n1 := hn.below b1
    refine (toNodeS_in w1 a cap ns hlen n1).mono ?_
    rintro e w2 ⟨rfl, m2, z2, b2⟩
    go_wp2_with fail
    refine (specEnd_any w2 _ _ _ ns i hi0 hi1 hlen m2).mono ?_
    rintro e w3 ⟨rfl, rfl⟩
    go_wp2_with fail
    have n3 := n1.below b2
    refine (toNodeS_in _ a cap ns hlen n3).mono ?_
    rintro e w4 ⟨rfl, m4, z4, b4⟩
    go_wp2_with fail
    refine (implEnd_any w4 _ _ _ ns i hi0 hi1 hlen m4).mono ?_
    rintro e w5 ⟨rfl, rfl⟩
    go_wp2_with fail
    have n5 := n3.below b4
    refine (toNodeS_in _ a cap ns hlen n5).mono ?_
    rintro e w6 ⟨rfl, m6, z6, b6⟩
    go_wp2_with fail
    refine (eqNodeS_same w6 _ _ _ _ _ _ ns (by omega) (m4.below b6 z4) m6 (Nat.lt_trans z4 z6) z6).mono ?_
    rintro e w7 ⟨rfl, b7⟩
    go_wp2
    go_ret
    exact ⟨rfl, (((b1.trans (b2.mono b1.size)).trans (b4.mono (Nat.le_trans b1.size b2.size))).trans (b6.mono (Nat.le_trans b1.size (Nat.le_trans b2.size b4.size)))).trans (b7.mono (Nat.le_trans b1.size (Nat.le_trans b2.size (Nat.le_trans b4.size b6.size))))⟩

theorem own : ownKnob Try.prog.godebug = none := by kernel_rfl
theorem laidOut : laidOutB Try.prog = true := by kernel_rfl

set_option maxRecDepth 100000 in
theorem lifted (os : Os) (started : os.Started) (H : Type) (enc : TypeId × Value → H) :
    ReturnsInHanded {} Try.checked os 5 .any (Rows.fnExactTreeEndSpec.pre6 enc Try.prog Try.f5 Rows.fnExactTreeEndRow.domain false) (Rows.fnExactTreeEndSpec.post enc Try.prog Try.f5 false true false false) := by
  refine returnsInHanded_of_change (C := Try.checked) own started (by kernel_rfl) Try.func5
    (ChangeSpec.witness6 (enc := enc) (C := Try.checked) false ⟨#[], #[.slice none 0 0, .int .i64 0], []⟩ 8 (by kernel_rfl) (by kernel_rfl) (by kernel_rfl) (by kernel_rfl)) ?_
  intro W base args ds gs before hval0 hW hcnd _
  have hval : ∀ (j : Nat) t v, Try.f5.params[j]? = some t → args[j]? = some v → Value.okWide Try.prog W .any base t v := hval0
  have hW' := hW
  obtain ⟨p, q, hA0, hV, rfl, hfz, hnd⟩ := hW
  have hA : DataW.TrodAll enc Try.prog W 0 (fun _ => true) true Try.f5.params.toList args.toList ds p := hA0
  rw [Try.params5] at hA hval
  obtain ⟨v0, vs0, d0, ds0, p0, q0, hargs, rfl, rfl, h0, r0⟩ := trodAll_cons hA
  obtain ⟨v1, vs1, d1, ds1, p1, q1, rfl, rfl, rfl, h1, r1⟩ := trodAll_cons r0
  obtain ⟨rfl, rfl, rfl⟩ := trodAll_nil r1
  obtain rfl : args = #[v0, v1] := by cases args; simp_all
  obtain ⟨rfl, rfl⟩ := trodVars_none hV
  obtain ⟨a0, len0, cap0, rfl⟩ := okWide_slice Try.underlying23 (hval 0 23 v0 rfl rfl)
  have k0 := h0
  have lt0 : ∀ x ∈ p0, x.block < W.heap.size := by obtain ⟨m, hm⟩ := k0; exact DataW.trod_lt m _ _ _ hm
  obtain ⟨ns, rfl, hl, hn, hs⟩ := open_nodes h0
  obtain ⟨a1, rfl, rfl, rfl, w1⟩ := open_int Try.underlying3 (hval 1 3 v1 rfl rfl) h1
  have hb := bounds_i64 w1
  clear hA0 hval0
  refine (walk a0 cap0 ns a1 W hb.1 hb.2 hl hn hs).mono fun e W' ⟨he, bel⟩ => ?_
  subst he
  exact ⟨_, rfl, _, _, _, [], _, [], hW', trodAll_mk1 (shut_bool Try.underlying4 _), (trodAll_cons_mk (Below.trod laidOut (by kernel_rfl) (of_decide_eq_true (by kernel_rfl)) k0 bel lt0) (trodAll_cons_mk (shut_int Try.underlying3 w1) trodAll_mk0)), rfl, bel.frame _, fun h => by cases h⟩

theorem over : Rows.fnExactTreeEndRow.holds Try.pinned (OpenSpec.ofChange Rows.fnExactTreeEndSpec) :=
  OpenClaim.holds_of_wide 5 Try.f5 rfl rfl rfl rfl rfl rfl rfl ⟨rfl, rfl, rfl, rfl, rfl⟩ rfl rfl rfl rfl rfl (by kernel_rfl) Try.func5 (by kernel_rfl)
    (of_decide_eq_true (by kernel_rfl)) (by unfold Func.isWrapper; first | (rw [if_pos (by decide +kernel)]; kernel_rfl) | (rw [if_neg (by decide +kernel)]; exact ⟨rfl, rfl⟩))
    (fun os started H enc _ => lifted os started H enc)

end Go.Proofs.Ytinmmmclgnnkhaa.fnExactTreeEnd

namespace Go.Proofs.Ytinmmmclgnnkhaa
theorem fnExactTreeEnd_holds : Rows.FnExactTreeEndSaid :=
  fnExactTreeEnd.over
end Go.Proofs.Ytinmmmclgnnkhaa
