/-
  Proved: at every text the law on BodyWords answers true, and the text reads afterwards as before: the program cuts a text into words as the specification does, faults and their places alike, and its answer owns its memory. Condition: the package variable errors.errorType holds the handle of the type 'error', as the program's text lays it.
-/
import Derived.Test.YtpekcpjlappkgaaDoorBodyI5
import Derived.Test.YtpekcpjlappkgaaDoorWordHeld
import Derived.Test.YtpekcpjlappkgaaDoorRows
import Derived.Test.YtpekcpjlappkgaaDoorCards
import Derived.Test.YtpekcpjlappkgaaDoorTie
import Derived.WalkKit
import Derived.ProofKit
import Derived.OpenShut
import Derived.Handy
import Derived.ShutString
import Derived.LaidMore
import Derived.LaidHandle
import Derived.OpenVars
import Derived.SevenTiedAt
import Derived.Stop.Joined
namespace Go.Proofs.YtpekcpjlappkgaaDoor.fnExactBodyWords
open Go.ChangeShapes Go.WideShapes Go.ChangeAt Go.RowKit Go.Deep Go.Maps
open Go.ChangeMaps (open_string shut_string)
set_option linter.unusedVariables false

theorem small_bw (t : ByteArray) : SmallWordS (bwWords t) := by
  have key : bwWords t = [] ∨ (t.size ≤ 1500 ∧ (bwWords t).length ≤ t.size ∧ ∀ x ∈ bwWords t, GoodW t x) := by
    by_cases hb : 1500 < t.size
    · exact .inl (bw_long hb).1
    · cases hl : lexR t 0 with
      | bad c a => exact .inl (bw_bad hb hl).1
      | ok ws =>
        have h := lex_small t _ 0 ws rfl hl
        rw [(bw_ok hb hl).1]
        exact .inr ⟨by omega, by omega, h.2⟩
  rcases key with h | ⟨h1, h2, h3⟩
  · rw [h]
    exact ⟨⟨by simp, fun x hx => by cases hx⟩, fun x hx => by cases hx⟩
  · refine ⟨⟨by omega, fun x hx => ?_⟩, fun x hx => ?_⟩
    · have := (h3 x hx).2.2
      omega
    · obtain ⟨q1, q2, q3⟩ := h3 x hx
      exact ⟨by unfold maxLen; omega, by omega, by omega⟩
theorem spec_kit (t : ByteArray) (w : World) (hs : t.size ≤ 1048576) :
    Calls Tryd.prog 4 #[.string t] w fun e w' => ∃ a n c, e = .returned (.tuple #[.slice a n c, .agg #[.int .i64 (bwCode t), .int .i64 (bwAt t)]]) ∧ Hid (WordSRd w' (.slice a n c) (bwWords t)) ∧ Below w.heap.size w w' := (specWords_any t w hs).mono fun _ _ h => by
  obtain ⟨a, n, c, h0, h1, h2⟩ := h
  exact ⟨a, n, c, h0, hide (unhide h1).rd, h2⟩
theorem impl_kit (t : ByteArray) (w : World) (hs : t.size ≤ 1048576) (hE : ErrG w) :
    Calls Tryd.prog 5 #[.string t] w fun e w' => ∃ a n c S, e = .returned (.tuple #[.slice a n c, .agg #[.int .i64 (bwCode t), .int .i64 (bwAt t)]]) ∧ Hid (WordSOwn S w' (.slice a n c) (bwWords t)) ∧ Hid (∀ k ∈ S, w.heap.size ≤ k) ∧ Below w.heap.size w w' := (implWords_any t w hs hE).mono fun _ _ h => by
  obtain ⟨a, n, c, h0, h1, h2⟩ := h
  obtain ⟨S, o, hS⟩ := (unhide h1).own
  exact ⟨a, n, c, S, h0, hide o, hide hS, h2⟩
theorem eqFault_same (c a : Int) (w : World) : Calls Tryd.prog 7 #[.agg #[.int .i64 c, .int .i64 a], .agg #[.int .i64 c, .int .i64 a]] w fun e w' => e = .returned (.bool true) ∧ Below w.heap.size w w' := by
  go_enter Tryd.func7, Tryd.ntmps7
  go_wp2_with fail
  go_ret
  exact ⟨rfl, by go_grown⟩

set_option maxHeartbeats 12800000 in
theorem walk0 (t : ByteArray) (w : World) (hf_t : t.size ≤ maxLen) (hE : ErrG w) :
    Calls Tryd.prog 3 #[.string t] w fun e w' => e = .returned (.bool true) ∧ Below w.heap.size w w' := by
  have HE := hide hE
  clear hE
  by_cases hl_t : (t.size : Int) ≤ 1048576
  rotate_left
  · unfold maxLen at hf_t
    go_enter Tryd.func3, Tryd.ntmps3
    go_wp2_with fail
    go_ret
    exact ⟨rfl, by go_grown⟩
  clear hf_t
  have HS1 := hide (show t.size ≤ 1048576 by omega)
  have HSP := hide (fun (W : World) => spec_kit t W (unhide HS1))
  have HIM := hide (fun (W : World) (b : Below w.heap.size w W) => impl_kit t W (unhide HS1) ((unhide HE).below b (Nat.le_refl _)))
  have HRS := hide (small_bw t)
  obtain ⟨M, HM⟩ : ∃ N, Hid (nWordS (bwWords t) = N) := ⟨_, rfl⟩
  have ML : M ≤ 100000000 := by rw [← unhide HM]; exact nWordS_le (unhide HRS)
  generalize bwWords t = ws at *
  generalize bwCode t = fc at *
  generalize bwAt t = fa at *
  go_enter Tryd.func3, Tryd.ntmps3
  go_wp2_with fail
  refine (unhide HSP _).mono ?_
  rintro e w1 ⟨a1, n1, c1, rfl, U1, b1⟩
  have X2 := hide (boxF_new w1 [.int .i64 fc, .int .i64 fa] 24)
  have bA := (Below.refl _ w1).alloc (Nat.le_refl _) (.cells #[.int .i64 fc, .int .i64 fa] 24)
  have B2 := hide (b1.trans (bA.mono b1.size))
  have U2 := hide ((unhide U1).up bA)
  simp only [List.toArray] at X2
  clear b1 bA U1 HSP
  go_wp2_with fail
  generalize w1.alloc (.cells #[.int .i64 fc, .int .i64 fa] 24) = W2 at *
  generalize w1.heap.size = g1 at *
  refine (unhide HIM _ (unhide B2)).mono ?_
  rintro e w3 ⟨a3, n3, c3, S3, rfl, O3, L3, b3⟩
  have B3 := hide ((unhide B2).trans (b3.mono (unhide B2).size))
  have BU3 := hide b3
  have hz2 := (unhide X2).1.1
  have X3 := hide ((unhide X2).up b3)
  have HL3 := hide (unhide O3).lt
  have X4 := hide (boxF_new w3 [.int .i64 fc, .int .i64 fa] 24)
  have bA := (Below.refl _ w3).alloc (Nat.le_refl _) (.cells #[.int .i64 fc, .int .i64 fa] 24)
  have B4 := hide ((unhide B3).trans (bA.mono (unhide B3).size))
  have BU4 := hide ((unhide BU3).trans (bA.mono (unhide BU3).size))
  have O4 := hide ((unhide O3).up bA)
  have Y4 := hide ((unhide X3).up bA)
  have hz3 := b3.size
  simp only [List.toArray] at X4
  clear b3 bA B3 BU3 O3 X3 X2
  go_wp2_with fail
  have hz4 : w3.heap.size < (w3.alloc (.cells #[.int .i64 fc, .int .i64 fa] 24)).heap.size := (unhide X4).1.1
  generalize w3.alloc (.cells #[.int .i64 fc, .int .i64 fa] 24) = W4 at *
  refine (eqWordS_kit ws _ _ W4 (unhide HRS) (unhide O4).rd ((unhide U2).up (unhide BU4))).mono ?_
  rintro e w5 ⟨rfl, b5⟩
  have B5 := hide ((unhide B4).trans (b5.mono (unhide B4).size))
  have BU5 := hide ((unhide BU4).trans (b5.mono (unhide BU4).size))
  have O5 := hide ((unhide O4).up b5)
  have Y5 := hide ((unhide Y4).up b5)
  have X5 := hide ((unhide X4).up b5)
  have hz5 := b5.size
  clear b5 B4 BU4 O4 Y4 X4
  obtain ⟨⟨x0, x1⟩, -⟩ := (unhide X5).duoI
  obtain ⟨⟨y0, y1⟩, -⟩ := (unhide Y5).duoI
  go_wp2_with fail
  refine (eqFault_same fc fa w5).mono ?_
  rintro e w6 ⟨rfl, b6⟩
  have B6 := hide ((unhide B5).trans (b6.mono (unhide B5).size))
  have BU6 := hide ((unhide BU5).trans (b6.mono (unhide BU5).size))
  have O6 := hide ((unhide O5).up b6)
  have Y6 := hide ((unhide Y5).up b6)
  have hz6 := b6.size
  clear b6 B5 BU5 O5 Y5 X5 x0 x1 y0 y1
  go_wp2_with fail
  refine (markWordS_kit S3 ws _ w6 (1) M (1) (by omega) (unhide HM) (by omega) (unhide HRS) (unhide O6)).mono ?_
  rintro e w7 ⟨rfl, P7⟩
  have t7 := (unhide P7).2
  have B7 := hide ((unhide B6).trans (t7.below (unhide B6).size (fun k hk => by have z := unhide L3 k hk; have := (unhide B2).size; omega)))
  have BU7 := hide ((unhide BU6).trans (t7.below (unhide BU6).size (fun k hk => unhide L3 k hk)))
  have Y7 := hide ((unhide Y6).turn t7 (fun hm => by have := unhide L3 _ hm; omega))
  have O7 := hide (unhide P7).1
  have hz7 := t7.size
  clear t7 P7 B6 BU6 O6 Y6
  have nf7 : ¬ (1 + (M : Int)) < 0 := by omega
  go_wp2_with fail
  refine (heldWordS_kit ws _ w7 (1) M (1) (by omega) (unhide HM) (by omega) (unhide HRS) (unhide O7).rd).mono ?_
  rintro e w8 ⟨rfl, b8⟩
  have B8 := hide ((unhide B7).trans (b8.mono (unhide B7).size))
  have BU8 := hide ((unhide BU7).trans (b8.mono (unhide BU7).size))
  have O8 := hide ((unhide O7).up b8)
  have Y8 := hide ((unhide Y7).up b8)
  clear b8 B7 BU7 O7 Y7
  go_wp2_with fail
  refine (unhide HIM _ (unhide B8)).mono ?_
  rintro e w9 ⟨a9, n9, c9, S9, rfl, O9, L9, b9⟩
  have B9 := hide ((unhide B8).trans (b9.mono (unhide B8).size))
  have BU9 := hide ((unhide BU8).trans (b9.mono (unhide BU8).size))
  have Y9 := hide ((unhide Y8).up b9)
  have OO9 := hide ((unhide O8).up b9)
  have XA := hide (boxF_new w9 [.int .i64 fc, .int .i64 fa] 24)
  have bA := (Below.refl _ w9).alloc (Nat.le_refl _) (.cells #[.int .i64 fc, .int .i64 fa] 24)
  have BA := hide ((unhide B9).trans (bA.mono (unhide B9).size))
  have BUA := hide ((unhide BU9).trans (bA.mono (unhide BU9).size))
  have OA := hide ((unhide O9).up bA)
  have OOA := hide ((unhide OO9).up bA)
  have YA := hide ((unhide Y9).up bA)
  simp only [List.toArray] at XA
  clear b9 bA B8 BU8 O8 Y8 B9 BU9 O9 OO9 Y9
  go_wp2_with fail
  generalize w9.alloc (.cells #[.int .i64 fc, .int .i64 fa] 24) = WA at *
  generalize w9.heap.size = g9 at *
  refine (eqWordS_kit ws _ _ WA (unhide HRS) (unhide OA).rd ((unhide U2).up (unhide BUA))).mono ?_
  rintro e wB ⟨rfl, bB⟩
  have BB := hide ((unhide BA).trans (bB.mono (unhide BA).size))
  have OOB := hide ((unhide OOA).up bB)
  have XB := hide ((unhide XA).up bB)
  have YB := hide ((unhide YA).up bB)
  clear bB BA BUA OA OOA XA YA
  obtain ⟨⟨x0, x1⟩, -⟩ := (unhide XB).duoI
  obtain ⟨⟨y0, y1⟩, -⟩ := (unhide YB).duoI
  go_wp2_with fail
  refine (eqFault_same fc fa wB).mono ?_
  rintro e wC ⟨rfl, bC⟩
  have BC := hide ((unhide BB).trans (bC.mono (unhide BB).size))
  have OOC := hide ((unhide OOB).up bC)
  clear bC BB OOB XB YB x0 x1 y0 y1
  go_wp2_with fail
  refine (heldWordS_kit ws _ wC (1) M (1) (by omega) (unhide HM) (by omega) (unhide HRS) (unhide OOC).rd).mono ?_
  rintro e wD ⟨rfl, bD⟩
  have BD := hide ((unhide BC).trans (bD.mono (unhide BC).size))
  clear bD
  go_wp2_with fail
  go_ret
  exact ⟨rfl, unhide BD⟩

theorem own : ownKnob Tryd.prog.godebug = none := by kernel_rfl
theorem laidOut : laidOutB Tryd.prog = true := by kernel_rfl
theorem door_met (os : Os) (args : Array Value) : laidMetH Tryd.prog Rows.fnExactBodyWordsRow.laid ((World.doorLaid Tryd.prog 400 os).forCall (fun _ _ => 0) ⟨#[], args, []⟩).memory :=
  laidMetH_of_parts3 (fuel := 8) (laidMet_of_run' 8 (by kernel_rfl) (by kernel_rfl)) (by kernel_rfl) (by kernel_rfl)
theorem et : Tryd.prog.globalNamed "errors.errorType" = some 0 := by kernel_rfl
theorem rt : (Tryd.prog.cutTypes.find? (·.1 == "internal/reflectlite.rtype")).map (·.2) = some 83 := by kernel_rfl
theorem oneRow : ((List.range Tryd.prog.types.size).filter fun t => Tryd.prog.rowNamed t [101, 114, 114, 111, 114]) = [36] := by kernel_rfl
/-- what the condition gives: the variable's one cell -/
theorem errs {W : World} (h : laidMetH Tryd.prog Rows.fnExactBodyWordsRow.laid W) : ErrG W := by
  have h' : laidMet Tryd.prog [] W ∧ handlesMet Tryd.prog Rows.fnExactBodyWordsRow.laid W := h
  obtain ⟨name, u, ty, e1, e2, e3, e4, e5⟩ := h'.2 _ (List.mem_singleton.2 rfl)
  have en : name = [101, 114, 114, 111, 114] := (Option.some.inj e1).symm
  subst en
  obtain rfl := Option.some.inj (rt.symm.trans e2)
  have hm : ty ∈ (List.range Tryd.prog.types.size).filter fun t => Tryd.prog.rowNamed t [101, 114, 114, 111, 114] := List.mem_filter.2 ⟨List.mem_range.2 e3, e4⟩
  rw [oneRow] at hm
  obtain rfl := List.mem_singleton.1 hm
  have hh : typeHandle Tryd.prog 36 = .pointer (some ⟨1, 36, none⟩) := by kernel_rfl
  rw [hh] at e5
  unfold ErrG
  simpa using World.var?_cell et e5 0

set_option maxRecDepth 100000 in
theorem lifted (os : Os) (started : os.Started) (H : Type) (enc : TypeId × Value → H) :
    ReturnsInHanded {} Tryd.checked os 3 .any (fun w args => (Rows.fnExactBodyWordsSpec.pre enc Tryd.prog Tryd.f3 [] false w args ∧ laidMetH Tryd.prog Rows.fnExactBodyWordsRow.laid w) ∧ sizedMet enc Tryd.prog Tryd.f3 (OpenSpec.ofChange Rows.fnExactBodyWordsSpec) false w args)
      (Rows.fnExactBodyWordsSpec.post enc Tryd.prog Tryd.f3 false true false false) := by
  refine returnsInHanded_of_change_and (C := Tryd.checked) (X := fun w _ => laidMetH Tryd.prog Rows.fnExactBodyWordsRow.laid w) (fun _ _ _ hh h => h.of_heap hh) own started (by kernel_rfl) Tryd.func3
    (ChangeSpec.witness_shaped (enc := enc) (C := Tryd.checked) (os := os) (X := fun w _ => laidMetH Tryd.prog Rows.fnExactBodyWordsRow.laid w) false (World.doorLaid Tryd.prog 400 os) #[.string ByteArray.empty] 8 rfl (World.shaped_of_RefB (by kernel_rfl) (by kernel_rfl)) (by kernel_rfl) (by kernel_rfl) (by kernel_rfl) (door_met os _)) ?_
  intro W base args ds gs before hval0 hW _ _ hL _
  have hval : ∀ (j : Nat) t v, Tryd.f3.params[j]? = some t → args[j]? = some v → Value.okWide Tryd.prog W .any base t v := hval0
  have hW' := hW
  obtain ⟨p, q, hA0, hV, rfl, hfz, hnd⟩ := hW
  have hA : DataW.TrodAll enc Tryd.prog W 0 (fun _ => true) true Tryd.f3.params.toList args.toList ds p := hA0
  rw [Tryd.params3] at hA hval
  obtain ⟨v0, d0, rfl, rfl, h0⟩ := trodAll_one hA
  obtain ⟨rfl, rfl⟩ := trodVars_none hV
  obtain ⟨s0, rfl, rfl, rfl, w0⟩ := open_string Tryd.underlying9 (hval 0 9 v0 rfl rfl) h0
  have hE := errs hL
  clear hA0 hval0
  refine (walk0 s0 W w0 hE).mono fun e W' ⟨he, bel⟩ => ?_
  subst he
  have hV' := Below.trodVars laidOut bel (by kernel_rfl) hV
  exact ⟨_, rfl, _, _, _, [], _, _, hW', trodAll_mk1 (shut_bool Tryd.underlying4 _), trodAll_mk1 (shut_string Tryd.underlying9 w0), hV', bel.frame _, fun h => by cases h⟩

theorem said : Rows.FnExactBodyWordsSaid :=
  OpenClaim.holds_of_wide 3 Tryd.f3 rfl rfl rfl rfl rfl rfl rfl ⟨rfl, rfl, rfl, rfl, rfl⟩ rfl rfl rfl rfl rfl (by kernel_rfl) Tryd.func3 (by kernel_rfl)
    (of_decide_eq_true (by kernel_rfl)) (by unfold Func.isWrapper; first | (rw [if_pos (by decide +kernel)]; kernel_rfl) | (rw [if_neg (by decide +kernel)]; exact ⟨rfl, rfl⟩))
    (fun os started H enc _ => lifted os started H enc)

theorem card : Rows.FnExactBodyWordsCardSaid :=
  Claim7.holds_tied_plain_at .later [] _ _ _ _ said (fun _ h => by cases h) (by kernel_rfl) (fun _ h => by cases h) fnExactBodyWords_row_tie rfl ⟨rfl, rfl⟩ (by kernel_rfl) rfl
    (fun f fn hf hfn => by
      obtain rfl : f = 3 := Option.some.inj ((show Tryd.prog.funcNamed Rows.fnExactBodyWordsRow.func = some 3 by kernel_rfl).symm.trans hf) |>.symm
      obtain rfl : fn = Tryd.f3 := (Option.some.inj (Tryd.func3.symm.trans hfn)).symm
      exact ⟨by kernel_rfl, fun j t ht => by
        rw [Tryd.params3] at ht
        obtain rfl : t = 9 := by simpa using Array.mem_of_getElem? ht
        exact (show Tryd.prog.wantsStandIn 9 = false by kernel_rfl)⟩)
    (by kernel_rfl)

end Go.Proofs.YtpekcpjlappkgaaDoor.fnExactBodyWords

namespace Go.Proofs.YtpekcpjlappkgaaDoor
theorem fnExactBodyWords_holds : Rows.FnExactBodyWordsCardSaid :=
  fnExactBodyWords.card
end Go.Proofs.YtpekcpjlappkgaaDoor
