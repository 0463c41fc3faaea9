/-
  Proved: at every record the law on RecOk answers true, and the record reads afterwards as before: the program tells which records may be as the specification does. No condition.
-/
import Derived.Test.YtmepmjhehfgdpaaRecLaw
import Derived.Test.YtmepmjhehfgdpaaRows
import Derived.WalkKit
import Derived.ProofKit
import Derived.OpenShut
namespace Go.Proofs.Ytmepmjhehfgdpaa.fnExactRecOk
open Go.ChangeShapes Go.WideShapes Go.ChangeAt Go.RowKit Go.Deep Go.Maps
set_option linter.unusedVariables false

set_option maxHeartbeats 1600000 in
theorem walk (r : RecV) (w : World) (hf : RecFit r) :
    Calls Try.prog 4 #[recVal r] w fun e w' => e = .returned (.bool true) ∧ Below w.heap.size w w' := by
  obtain ⟨kind, name, num, text⟩ := r
  unfold recVal
  have HZ := hide (fun W => szRec_any ⟨kind, name, num, text⟩ W hf)
  have HS := hide (fun W => specRecOk_any ⟨kind, name, num, text⟩ W hf)
  have HI := hide (fun W => implRecOk_any ⟨kind, name, num, text⟩ W hf)
  have HT := hide (fun W => toRec_any ⟨kind, name, num, text⟩ W)
  unfold recVal at HZ HS HI HT
  clear hf
  generalize recOkB ⟨kind, name, num, text⟩ = ok at HS HI
  go_enter Try.func4, Try.ntmps4
  go_wp2_with fail
  refine (unhide HZ _).mono ?_
  rintro e w1 ⟨q, rfl, _, b1⟩
  have X1 := box4 b1
  have B1 := hide (((Below.refl w.heap.size w).alloc (Nat.le_refl _) _).trans (b1.mono (by simp)))
  have z1 : w.heap.size < w1.heap.size := by have := b1.size; simp at this; omega
  obtain ⟨x0, x1, x2, x3⟩ := X1
  clear b1
  by_cases hneg : q < 0
  · go_wp2_with fail
    go_ret
    exact ⟨rfl, unhide B1⟩
  · go_wp2_with fail
    refine (unhide HT _).mono ?_
    rintro e w2 ⟨rfl, b2⟩
    have B2 := hide ((unhide B1).trans (b2.mono (unhide B1).size))
    obtain ⟨y0, y1, y2, y3⟩ := keep4 b2 z1 x0 x1 x2 x3
    have z2 : w.heap.size < w2.heap.size := Nat.lt_of_lt_of_le z1 b2.size
    clear b2 x0 x1 x2 x3
    go_wp2_with fail
    refine (unhide HS _).mono ?_
    rintro e w3 ⟨rfl, b3⟩
    have B3 := hide ((unhide B2).trans (b3.mono (unhide B2).size))
    obtain ⟨x0, x1, x2, x3⟩ := keep4 b3 z2 y0 y1 y2 y3
    have z3 : w.heap.size < w3.heap.size := Nat.lt_of_lt_of_le z2 b3.size
    clear b3 y0 y1 y2 y3
    go_wp2_with fail
    refine (unhide HT _).mono ?_
    rintro e w4 ⟨rfl, b4⟩
    have B4 := hide ((unhide B3).trans (b4.mono (unhide B3).size))
    clear b4 x0 x1 x2 x3
    go_wp2_with fail
    refine (unhide HI _).mono ?_
    rintro e w5 ⟨rfl, b5⟩
    have B5 := hide ((unhide B4).trans (b5.mono (unhide B4).size))
    clear b5
    cases ok
    all_goals
      go_wp2_with fail
      go_ret
      exact ⟨rfl, unhide B5⟩

theorem own : ownKnob Try.prog.godebug = none := by kernel_rfl
theorem laidOut : laidOutB Try.prog = true := by kernel_rfl

set_option maxRecDepth 100000 in
theorem lifted (os : Os) (started : os.Started) (H : Type) (enc : TypeId × Value → H) :
    ReturnsInHanded {} Try.checked os 4 .any (Rows.fnExactRecOkSpec.pre6 enc Try.prog Try.f4 Rows.fnExactRecOkRow.domain false) (Rows.fnExactRecOkSpec.post enc Try.prog Try.f4 false true false false) := by
  refine returnsInHanded_of_change (C := Try.checked) own started (by kernel_rfl) Try.func4
    (ChangeSpec.witness6 (enc := enc) (C := Try.checked) false ⟨#[], #[.agg #[.int .i64 0, .string ⟨#[]⟩, .int .i64 0, .string ⟨#[]⟩]], []⟩ 8 (by kernel_rfl) (by kernel_rfl) (by kernel_rfl) (by kernel_rfl)) ?_
  intro W base args ds gs before hval0 hW hcnd _
  have hval : ∀ (j : Nat) t v, Try.f4.params[j]? = some t → args[j]? = some v → Value.okWide Try.prog W .any base t v := hval0
  have hW' := hW
  obtain ⟨p, q, hA0, hV, rfl, hfz, hnd⟩ := hW
  have hA : DataW.TrodAll enc Try.prog W 0 (fun _ => true) true Try.f4.params.toList args.toList ds p := hA0
  rw [Try.params4] at hA hval
  obtain ⟨v0, d0, rfl, rfl, h0⟩ := trodAll_one hA
  obtain ⟨rfl, rfl⟩ := trodVars_none hV
  obtain ⟨cs, rfl, hcs⟩ := aggOf Try.underlying28 cellsRec (hval 0 28 v0 rfl rfl)
  obtain ⟨c0, c1, c2, c3, rfl⟩ := array4 hcs
  obtain ⟨r, hr, hf⟩ := openRec h0
  rw [hr]
  rw [hr] at h0 hW' 
  have k0 := h0
  have lt0 : ∀ x ∈ p, x.block < W.heap.size := by obtain ⟨m, hm⟩ := k0; exact DataW.trod_lt m _ _ _ hm
  clear hA0 hval0
  refine (walk r W hf).mono fun e W' ⟨he, bel⟩ => ?_
  subst he
  exact ⟨_, rfl, _, _, _, [], _, [], hW', trodAll_mk1 (shut_bool Try.underlying4 _), trodAll_mk1 (Below.trod laidOut (by kernel_rfl) (of_decide_eq_true (by kernel_rfl)) k0 bel lt0), rfl, bel.frame _, fun h => by cases h⟩

theorem over : Rows.fnExactRecOkRow.holds Try.pinned (OpenSpec.ofChange Rows.fnExactRecOkSpec) :=
  OpenClaim.holds_of_wide 4 Try.f4 rfl rfl rfl rfl rfl rfl rfl ⟨rfl, rfl, rfl, rfl, rfl⟩ rfl rfl rfl rfl rfl (by kernel_rfl) Try.func4 (by kernel_rfl)
    (of_decide_eq_true (by kernel_rfl)) (by unfold Func.isWrapper; first | (rw [if_pos (by decide +kernel)]; kernel_rfl) | (rw [if_neg (by decide +kernel)]; exact ⟨rfl, rfl⟩))
    (fun os started H enc _ => lifted os started H enc)

end Go.Proofs.Ytmepmjhehfgdpaa.fnExactRecOk

namespace Go.Proofs.Ytmepmjhehfgdpaa
theorem fnExactRecOk_holds : Rows.FnExactRecOkSaid :=
  fnExactRecOk.over
end Go.Proofs.Ytmepmjhehfgdpaa
