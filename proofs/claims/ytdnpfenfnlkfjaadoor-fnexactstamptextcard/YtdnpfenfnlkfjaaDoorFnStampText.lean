/-
  Proved: at every list of marks the law on StampText answers true, and the list reads afterwards as before: the program writes a stamp as the specification does, and writes into no argument. Condition: the table of powers that strconv reads holds what its own text lays there (the card ties it to that text, by the given tie).
-/
import Derived.Test.YtdnpfenfnlkfjaaDoorTextS
import Derived.Test.YtdnpfenfnlkfjaaDoorTextI
import Derived.Test.YtdnpfenfnlkfjaaDoorCards
import Derived.Test.YtdnpfenfnlkfjaaDoorTie
import Derived.WalkKit
import Derived.ProofKit
import Derived.OpenShut
import Derived.LaidMore
import Derived.OpenVars
import Derived.SevenTiedAt
import Derived.Stop.Joined
namespace Go.Proofs.YtdnpfenfnlkfjaaDoor.fnExactStampText
open Go.ChangeShapes Go.WideShapes Go.ChangeAt Go.RowKit Go.Deep
set_option linter.unusedVariables false

set_option maxHeartbeats 12800000 in
theorem walk0 (ns : List MarkV) (v_ns : Value) (w : World) (hf_ns : MarkSFit ns) (hr_ns : MarkSRd w v_ns ns) (hp : PowIn w) :
    Calls Tryd.prog 3 #[v_ns] w fun e w' => e = .returned (.bool true) ∧ Below w.heap.size w w' := by
  have HP := hide hp
  clear hp
  have HF_ns := hide hf_ns
  clear hf_ns
  have HR_ns := hide hr_ns
  obtain ⟨p_ns0, p_ns1, p_ns2, rfl⟩ := hr_ns.form
  clear hr_ns
  go_enter Tryd.func3, Tryd.ntmps3
  have B00 := hide (Below.refl w.heap.size w)
  go_wp2_with fail
  refine (szMarkS_kit ns _ w (unhide HF_ns) ((unhide HR_ns).up (unhide B00))).mono ?_
  rintro e w1 ⟨q2, rfl, HQ3, b4⟩
  have B5 := hide ((unhide B00).trans (b4.mono (unhide B00).size))
  clear B00
  have Z6 := hide (show w.heap.size ≤ w1.heap.size from b4.size)
  clear b4
  by_cases hnegq2 : q2 < 0
  · go_wp2_with fail
    go_ret
    exact ⟨rfl, unhide B5⟩
  have HS7 := hide (unhide HQ3 (by omega))
  obtain ⟨N_ns, HN_ns⟩ : ∃ N, Hid (nMarkS ns = N) := ⟨_, rfl⟩
  have NL_ns : N_ns ≤ 100000000 := by rw [← unhide HN_ns]; exact nMarkS_le (unhide HS7)
  go_wp2_with fail
  refine (toMarkS_kit ns _ w1 (unhide HS7) ((unhide HR_ns).up (unhide B5))).mono ?_
  rintro e w8 ⟨v9, S10, rfl, O11, L12, b13⟩
  have B14 := hide ((unhide B5).trans (b13.mono (unhide B5).size))
  clear B5
  have Z15 := hide (show w1.heap.size ≤ w8.heap.size from b13.size)
  clear b13
  have H16 := hide (unhide O11).lt
  go_wp2_with fail
  refine (specText_any ns _ w8 (unhide HS7) (unhide O11).rd).mono ?_
  rintro e w17 ⟨rfl, b18⟩
  clear O11
  have B19 := hide ((unhide B14).trans (b18.mono (unhide B14).size))
  clear B14
  have Z20 := hide (show w8.heap.size ≤ w17.heap.size from b18.size)
  clear b18
  have BU21 := hide (Below.refl w17.heap.size w17)
  go_wp2_with fail
  refine (toMarkS_kit ns _ w17 (unhide HS7) ((unhide HR_ns).up (unhide B19))).mono ?_
  rintro e w22 ⟨v23, S24, rfl, O25, L26, b27⟩
  have B28 := hide ((unhide B19).trans (b27.mono (unhide B19).size))
  clear B19
  have BU29 := hide ((unhide BU21).trans (b27.mono (unhide BU21).size))
  clear BU21
  have Z30 := hide (show w17.heap.size ≤ w22.heap.size from b27.size)
  clear b27
  have H31 := hide (unhide O25).lt
  obtain ⟨r_ns0, r_ns1, r_ns2, rfl⟩ := (unhide O25).rd.form
  go_wp2_with fail
  refine (implText_any ns _ w22 (unhide HS7) (unhide O25).rd ((unhide HP).below (unhide B28) (Nat.le_refl _))).mono ?_
  rintro e w32 ⟨rfl, b33⟩
  have B34 := hide ((unhide B28).trans (b33.mono (unhide B28).size))
  clear B28
  have BU35 := hide ((unhide BU29).trans (b33.mono (unhide BU29).size))
  clear BU29
  have O36 := hide ((unhide O25).up b33)
  clear O25
  have Z37 := hide (show w22.heap.size ≤ w32.heap.size from b33.size)
  clear b33
  go_wp2_with fail
  refine (toMarkS_kit ns _ w32 (unhide HS7) ((unhide HR_ns).up (unhide B34))).mono ?_
  rintro e w38 ⟨v39, S40, rfl, O41, L42, b43⟩
  have B44 := hide ((unhide B34).trans (b43.mono (unhide B34).size))
  clear B34
  have BU45 := hide ((unhide BU35).trans (b43.mono (unhide BU35).size))
  clear BU35
  have O46 := hide ((unhide O36).up b43)
  clear O36
  have Z47 := hide (show w32.heap.size ≤ w38.heap.size from b43.size)
  clear b43
  have H48 := hide (unhide O41).lt
  go_wp2_with fail
  refine (eqMarkS_kit ns _ _ w38 (unhide HS7) (unhide O46).rd (unhide O41).rd).mono ?_
  rintro e w49 ⟨rfl, b50⟩
  have B51 := hide ((unhide B44).trans (b50.mono (unhide B44).size))
  clear B44
  have BU52 := hide ((unhide BU45).trans (b50.mono (unhide BU45).size))
  clear BU45
  have O53 := hide ((unhide O46).up b50)
  clear O46
  have Z54 := hide (show w38.heap.size ≤ w49.heap.size from b50.size)
  clear b50
  go_wp2_with fail
  go_ret
  exact ⟨rfl, unhide B51⟩

theorem laidTail {P : Program} {x : String × DataW Unit} {rest : List (String × DataW Unit)} {W : World} (h : laidMet P (x :: rest) W) : laidMet P rest W := by
  obtain ⟨ps, ⟨g', t', cs, fuel, p, q, _, _, _, _, hq, rfl⟩, hnd, hc⟩ := h
  exact ⟨q, hq, (List.nodup_append.1 hnd).2.1, fun b off hm => hc b off (List.mem_append_right _ hm)⟩
theorem walk (a : Option Addr) (cap : Nat) (ns : List MarkV) (w : World) (hl : ns.length ≤ maxLen) (hn : MarkIn w a ns) (hs : MarkOk ns) (hp : PowIn w) :
    Calls Tryd.prog 3 #[.slice a ns.length cap] w fun e w' => e = .returned (.bool true) ∧ Below w.heap.size w w' :=
  walk0 ns _ w ⟨hl, hs⟩ ⟨a, cap, rfl, hn⟩ hp

theorem own : ownKnob Tryd.prog.godebug = none := by kernel_rfl
theorem laidOut : laidOutB Tryd.prog = true := by kernel_rfl
theorem door_met (os : Os) (args : Array Value) : laidMetH Tryd.prog Rows.fnExactStampTextRow.laid ((World.doorLaid Tryd.prog 400 os).forCall (fun _ _ => 0) ⟨#[], args, []⟩).memory :=
  laidMetH_of_parts3 (fuel := 8) (laidMet_of_run' 8 (by kernel_rfl) (by kernel_rfl)) (by kernel_rfl) (by kernel_rfl)
theorem met {W : World} (h : laidMetH Tryd.prog Rows.fnExactStampTextRow.laid W) : laidMet Tryd.prog Rows.fnExactStampTextRow.laid W := h
theorem trodVars_three {H : Type} {enc : TypeId × Value → H} {P : Program} {w : World} {spare : Nat → Bool} {n0 n1 n2 : String} {gs : List (DataW H)} {ps : List MemPlace} (h : DataW.TrodVars enc P w spare [n0, n1, n2] gs ps) : ∃ d0 d1 d2, gs = [d0, d1, d2] := by
  cases gs with
  | nil => simp [DataW.TrodVars] at h
  | cons d ds =>
    obtain ⟨_, _, _, _, _, _, _, _, _, _, hs, _⟩ := h
    obtain ⟨_, _, _, _, d1, _, _, _, _, _, d2, _, e, _⟩ := trodVars_two hs
    exact ⟨d, d1, d2, by rw [e]⟩
theorem pow {W : World} (h : laidMetH Tryd.prog Rows.fnExactStampTextRow.laid W) : PowIn W :=
  Lib.tabIs_of_head gPow (t := 64) (by kernel_rfl) Tryd.underlying64 Tryd.underlying54 (by kernel_rfl) (by kernel_rfl) (laidTail (laidTail (met h)))

set_option maxRecDepth 100000 in
theorem lifted (os : Os) (started : os.Started) (H : Type) (enc : TypeId × Value → H) :
    ReturnsInHanded {} Tryd.checked os 3 .any (fun w args => (Rows.fnExactStampTextSpec.pre enc Tryd.prog Tryd.f3 [] false w args ∧ laidMetH Tryd.prog Rows.fnExactStampTextRow.laid w) ∧ sizedMet enc Tryd.prog Tryd.f3 (OpenSpec.ofChange Rows.fnExactStampTextSpec) false w args)
      (Rows.fnExactStampTextSpec.post enc Tryd.prog Tryd.f3 false true false false) := by
  refine returnsInHanded_of_change_and (C := Tryd.checked) (X := fun w _ => laidMetH Tryd.prog Rows.fnExactStampTextRow.laid w) (fun _ _ _ hh h => h.of_heap hh) own started (by kernel_rfl) Tryd.func3
    (ChangeSpec.witness_shaped (enc := enc) (C := Tryd.checked) (os := os) (X := fun w _ => laidMetH Tryd.prog Rows.fnExactStampTextRow.laid w) false (World.doorLaid Tryd.prog 400 os) #[.slice none 0 0] 8 rfl (World.shaped_of_RefB (by kernel_rfl) (by kernel_rfl)) (by kernel_rfl) (by kernel_rfl) (by kernel_rfl) (door_met os _)) ?_
  intro W base args ds gs before hval0 hW _ _ hL _
  have hval : ∀ (j : Nat) t v, Tryd.f3.params[j]? = some t → args[j]? = some v → Value.okWide Tryd.prog W .any base t v := hval0
  have hW' := hW
  obtain ⟨p, q, hA0, hV, rfl, hfz, hnd⟩ := hW
  have hA : DataW.TrodAll enc Tryd.prog W 0 (fun _ => true) true Tryd.f3.params.toList args.toList ds p := hA0
  rw [Tryd.params3] at hA hval
  obtain ⟨v0, d0, rfl, rfl, h0⟩ := trodAll_one hA
  obtain ⟨rfl, rfl⟩ := trodVars_none hV
  obtain ⟨a0, len0, cap0, rfl⟩ := okWide_slice Tryd.underlying22 (hval 0 22 v0 rfl rfl)
  have k0 := h0
  have lt0 : ∀ x ∈ p, x.block < W.heap.size := by obtain ⟨m, hm⟩ := k0; exact DataW.trod_lt m _ _ _ hm
  obtain ⟨ns, rfl, hl, hn, hs⟩ := openMarkS h0
  have hpow := pow hL
  clear hA0 hval0
  refine (walk a0 cap0 ns W hl hn hs hpow).mono fun e W' ⟨he, bel⟩ => ?_
  subst he
  have hV' := Below.trodVars laidOut bel (by kernel_rfl) hV
  exact ⟨_, rfl, _, _, _, [], _, _, hW', trodAll_mk1 (shut_bool Tryd.underlying4 _), trodAll_mk1 (Below.trod laidOut (by kernel_rfl) (of_decide_eq_true (by kernel_rfl)) k0 bel lt0), hV', bel.frame _, fun h => by cases h⟩

theorem said : Rows.FnExactStampTextSaid :=
  OpenClaim.holds_of_wide 3 Tryd.f3 rfl rfl rfl rfl rfl rfl rfl ⟨rfl, rfl, rfl, rfl, rfl⟩ rfl rfl rfl rfl rfl (by kernel_rfl) Tryd.func3 (by kernel_rfl)
    (of_decide_eq_true (by kernel_rfl)) (by unfold Func.isWrapper; first | (rw [if_pos (by decide +kernel)]; kernel_rfl) | (rw [if_neg (by decide +kernel)]; exact ⟨rfl, rfl⟩))
    (fun os started H enc _ => lifted os started H enc)

theorem card : Rows.FnExactStampTextCardSaid :=
  Claim7.holds_tied_plain_at .later [] _ _ _ _ said (fun _ h => by cases h) (by kernel_rfl) (fun _ h => by cases h) fnExactStampText_row_tie rfl ⟨rfl, rfl⟩ (by kernel_rfl) rfl
    (fun f fn hf hfn => by
      obtain rfl : f = 3 := Option.some.inj ((show Tryd.prog.funcNamed Rows.fnExactStampTextRow.func = some 3 by kernel_rfl).symm.trans hf) |>.symm
      obtain rfl : fn = Tryd.f3 := (Option.some.inj (Tryd.func3.symm.trans hfn)).symm
      exact ⟨by kernel_rfl, fun j t ht => by
        rw [Tryd.params3] at ht
        obtain rfl : t = 22 := by simpa using Array.mem_of_getElem? ht
        exact (show Tryd.prog.wantsStandIn 22 = false by kernel_rfl)⟩)
    (by kernel_rfl)

end Go.Proofs.YtdnpfenfnlkfjaaDoor.fnExactStampText

namespace Go.Proofs.YtdnpfenfnlkfjaaDoor
theorem fnExactStampText_holds : Rows.FnExactStampTextCardSaid :=
  fnExactStampText.card
end Go.Proofs.YtdnpfenfnlkfjaaDoor
