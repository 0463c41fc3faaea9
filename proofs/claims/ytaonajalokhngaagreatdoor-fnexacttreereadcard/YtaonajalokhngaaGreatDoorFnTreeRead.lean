/-
  Proved: at every text the law on TreeRead answers true, and the text reads afterwards as before: the program reads a tree out of a text as the specification does, faults and their places alike, and its answer owns its memory. Condition: the package variables that the row lists hold what the program's text lays (errors.errorType the handle of the type 'error', impl.shapes its table, and those of strconv and math/bits, of which none is used).
-/
import Derived.Test.YtaonajalokhngaaGreatDoorRdrR
import Derived.Test.YtaonajalokhngaaGreatDoorReadT
import Derived.Test.YtaonajalokhngaaGreatDoorMerged52
import Derived.Test.YtaonajalokhngaaGreatDoorRows
import Derived.Test.YtaonajalokhngaaGreatDoorCards
import Derived.Test.YtaonajalokhngaaGreatDoorTie
import Derived.WalkKit
import Derived.ProofKit
import Derived.OpenShut
import Derived.Handy
import Derived.ShutString
import Derived.LaidMore
import Derived.LaidHandle
import Derived.OpenVars
import Derived.SevenTiedAt
import Derived.Stop.Joined
namespace Go.Proofs.YtaonajalokhngaaGreatDoor.fnExactTreeRead
open Go.ChangeShapes Go.WideShapes Go.ChangeAt Go.RowKit Go.Deep Go.Maps
open Go.ChangeMaps (open_string shut_string)
set_option linter.unusedVariables false

theorem nd_ownN {B : Nat} {w : World} {v : Value} {ns : List NodeV} (h : NdRow B w v ns) : ∃ S, NdxSOwn S w v ns ∧ (∀ k ∈ S, B ≤ k) := by
  have hh : w.ownsRow B 47 4 v ns.length (ndCells ns) := h
  rcases h with ⟨_, ⟨rfl, h0⟩ | ⟨g, cap, cur, rfl, hB, hg, hnc, _⟩⟩
  · have : ns = [] := List.eq_nil_of_length_eq_zero h0
    subst this
    exact ⟨[], .inl ⟨rfl, rfl, none, 0, rfl⟩, by simp⟩
  · refine ⟨[g], .inr ⟨g, 0, cap, rfl, rfl, (Array.getElem?_eq_some_iff.1 hg).1, fun i hi => ?_, fun i hi => hh.frozenAt _⟩, by simpa using hB⟩
    obtain ⟨e0, e1, e2, e3⟩ := ndCells_get ns i hi
    refine ⟨?_, ?_, ?_, ?_⟩
    · rw [Nat.zero_add, hh.cellAt _ (by omega)]; exact e0
    · rw [Nat.zero_add, hh.cellAt _ (by omega)]; exact e1
    · rw [Nat.zero_add, hh.cellAt _ (by omega)]; exact e2
    · rw [Nat.zero_add, hh.cellAt _ (by omega)]; exact e3
theorem small_tr (t : ByteArray) : SmallNdxS (trRes t).nodes := by
  have key : (trRes t).nodes = [] ∨ ((trRes t).nodes.length ≤ 400 ∧ ∀ x ∈ (trRes t).nodes, NodeGd x) := by
    by_cases hc : bwCode t = 0
    rotate_left
    · rw [tr_words hc]; exact .inl rfl
    · cases hp : parse (bwWords t) (fuelT (bwWords t)) .expr 0 with
      | out => have := tr_good t; rw [hp] at this; exact this.elim
      | bad k => rw [tr_bad hc hp]; exact .inl rfl
      | ok x k =>
        by_cases h1 : k < (bwWords t).length
        · rw [tr_more hc hp h1]; exact .inl rfl
        by_cases h2 : 400 < sizeT x
        · rw [tr_many hc hp h1 h2]; exact .inl rfl
        by_cases h3 : 40 < dp x.l + 1
        · rw [tr_deep hc hp h1 h2 h3]; exact .inl rfl
        rw [tr_ok hc hp h1 h2 h3]
        have ht := tr_tree t
        rw [hp] at ht
        exact .inr ⟨by show (fl x.f).length ≤ 400; have : (fl x.f).length = sizeT x := rfl; omega, ht.1.all⟩
  rcases key with h | ⟨h1, h2⟩
  · rw [h]
    exact ⟨⟨by simp, fun x hx => by cases hx⟩, fun x hx => by cases hx⟩
  · refine ⟨⟨by omega, fun x hx => ?_⟩, fun x hx => ?_⟩
    · have := (h2 x hx).2.2.1
      omega
    · obtain ⟨q1, q2, q3, q4⟩ := h2 x hx
      exact ⟨by unfold maxLen; omega, by omega, by omega, by omega⟩
def TrG (w : World) : Prop := ErrG w ∧ ShapesIn w
theorem TrG.below {w w' : World} {B : Nat} (h : TrG w) (hb : Below B w w') (hB : w.heap.size ≤ B) : TrG w' := ⟨h.1.below hb hB, h.2.below hb hB⟩
theorem spec_kit (t : ByteArray) (w : World) (hs : t.size ≤ 1048576) :
    Calls Tryz.prog 4 #[.string t] w fun e w' => ∃ a n c, e = .returned (.tuple #[.slice a n c, .agg #[.int .i64 (trRes t).code, .int .i64 (trRes t).at']]) ∧ Hid (NdxSRd w' (.slice a n c) (trRes t).nodes) ∧ Below w.heap.size w w' := (specTree_any t w hs).mono fun _ _ h => by
  obtain ⟨a, n, c, h0, h1, h2⟩ := h
  exact ⟨a, n, c, h0, hide (unhide h1).rd, h2⟩
theorem impl_kit (t : ByteArray) (w : World) (hs : t.size ≤ 1048576) (hE : TrG w) :
    Calls Tryz.prog 5 #[.string t] w fun e w' => ∃ a n c S, e = .returned (.tuple #[.slice a n c, .agg #[.int .i64 (trRes t).code, .int .i64 (trRes t).at']]) ∧ Hid (NdxSOwn S w' (.slice a n c) (trRes t).nodes) ∧ Hid (∀ k ∈ S, w.heap.size ≤ k) ∧ Below w.heap.size w w' := (implTree_any t w hs hE.2 hE.1).mono fun _ _ h => by
  obtain ⟨a, n, c, h0, h1, h2⟩ := h
  obtain ⟨S, o, hS⟩ := nd_ownN (unhide h1)
  exact ⟨a, n, c, S, h0, hide o, hide hS, h2⟩
theorem eqFault_same (c a : Int) (w : World) : Calls Tryz.prog 7 #[.agg #[.int .i64 c, .int .i64 a], .agg #[.int .i64 c, .int .i64 a]] w fun e w' => e = .returned (.bool true) ∧ Below w.heap.size w w' := by
  go_enter Tryz.func7, Tryz.ntmps7
  go_wp2_with fail
  go_ret
  exact ⟨rfl, by go_grown⟩

set_option maxHeartbeats 12800000 in
theorem walk0 (t : ByteArray) (w : World) (hf_t : t.size ≤ maxLen) (hE : TrG w) :
    Calls Tryz.prog 3 #[.string t] w fun e w' => e = .returned (.bool true) ∧ Below w.heap.size w w' := by
  have HE := hide hE
  clear hE
  by_cases hl_t : (t.size : Int) ≤ 1048576
  rotate_left
  · unfold maxLen at hf_t
    go_enter Tryz.func3, Tryz.ntmps3
    go_wp2_with fail
    go_ret
    exact ⟨rfl, by go_grown⟩
  clear hf_t
  have HS1 := hide (show t.size ≤ 1048576 by omega)
  have HSP := hide (fun (W : World) => spec_kit t W (unhide HS1))
  have HIM := hide (fun (W : World) (b : Below w.heap.size w W) => impl_kit t W (unhide HS1) ((unhide HE).below b (Nat.le_refl _)))
  have HRS := hide (small_tr t)
  obtain ⟨M, HM⟩ : ∃ N, Hid (nNdxS (trRes t).nodes = N) := ⟨_, rfl⟩
  have ML : M ≤ 100000000 := by rw [← unhide HM]; exact nNdxS_le (unhide HRS)
  generalize (trRes t).nodes = ws at *
  generalize (trRes t).code = fc at *
  generalize (trRes t).at' = fa at *
  go_enter Tryz.func3, Tryz.ntmps3
  go_wp2_with fail
  refine (unhide HSP _).mono ?_
  rintro e w1 ⟨a1, n1, c1, rfl, U1, b1⟩
  have X2 := hide (boxF_new w1 [.int .i64 fc, .int .i64 fa] 24)
  have bA := (Below.refl _ w1).alloc (Nat.le_refl _) (.cells #[.int .i64 fc, .int .i64 fa] 24)
  have B2 := hide (b1.trans (bA.mono b1.size))
  have U2 := hide ((unhide U1).up bA)
  simp only [List.toArray] at X2
  clear b1 bA U1 HSP
  go_wp2_with fail
  generalize w1.alloc (.cells #[.int .i64 fc, .int .i64 fa] 24) = W2 at *
  generalize w1.heap.size = g1 at *
  refine (unhide HIM _ (unhide B2)).mono ?_
  rintro e w3 ⟨a3, n3, c3, S3, rfl, O3, L3, b3⟩
  have B3 := hide ((unhide B2).trans (b3.mono (unhide B2).size))
  have BU3 := hide b3
  have hz2 := (unhide X2).1.1
  have X3 := hide ((unhide X2).up b3)
  have HL3 := hide (unhide O3).lt
  have X4 := hide (boxF_new w3 [.int .i64 fc, .int .i64 fa] 24)
  have bA := (Below.refl _ w3).alloc (Nat.le_refl _) (.cells #[.int .i64 fc, .int .i64 fa] 24)
  have B4 := hide ((unhide B3).trans (bA.mono (unhide B3).size))
  have BU4 := hide ((unhide BU3).trans (bA.mono (unhide BU3).size))
  have O4 := hide ((unhide O3).up bA)
  have Y4 := hide ((unhide X3).up bA)
  have hz3 := b3.size
  simp only [List.toArray] at X4
  clear b3 bA B3 BU3 O3 X3 X2
  go_wp2_with fail
  have hz4 : w3.heap.size < (w3.alloc (.cells #[.int .i64 fc, .int .i64 fa] 24)).heap.size := (unhide X4).1.1
  generalize w3.alloc (.cells #[.int .i64 fc, .int .i64 fa] 24) = W4 at *
  refine (eqNdxS_kit ws _ _ W4 (unhide HRS) (unhide O4).rd ((unhide U2).up (unhide BU4))).mono ?_
  rintro e w5 ⟨rfl, b5⟩
  have B5 := hide ((unhide B4).trans (b5.mono (unhide B4).size))
  have BU5 := hide ((unhide BU4).trans (b5.mono (unhide BU4).size))
  have O5 := hide ((unhide O4).up b5)
  have Y5 := hide ((unhide Y4).up b5)
  have X5 := hide ((unhide X4).up b5)
  have hz5 := b5.size
  clear b5 B4 BU4 O4 Y4 X4
  obtain ⟨⟨x0, x1⟩, -⟩ := (unhide X5).duoI
  obtain ⟨⟨y0, y1⟩, -⟩ := (unhide Y5).duoI
  go_wp2_with fail
  refine (eqFault_same fc fa w5).mono ?_
  rintro e w6 ⟨rfl, b6⟩
  have B6 := hide ((unhide B5).trans (b6.mono (unhide B5).size))
  have BU6 := hide ((unhide BU5).trans (b6.mono (unhide BU5).size))
  have O6 := hide ((unhide O5).up b6)
  have Y6 := hide ((unhide Y5).up b6)
  have hz6 := b6.size
  clear b6 B5 BU5 O5 Y5 X5 x0 x1 y0 y1
  go_wp2_with fail
  refine (markNdxS_kit S3 ws _ w6 (1) M (1) (by omega) (unhide HM) (by omega) (unhide HRS) (unhide O6)).mono ?_
  rintro e w7 ⟨rfl, P7⟩
  have t7 := (unhide P7).2
  have B7 := hide ((unhide B6).trans (t7.below (unhide B6).size (fun k hk => by have z := unhide L3 k hk; have := (unhide B2).size; omega)))
  have BU7 := hide ((unhide BU6).trans (t7.below (unhide BU6).size (fun k hk => unhide L3 k hk)))
  have Y7 := hide ((unhide Y6).turn t7 (fun hm => by have := unhide L3 _ hm; omega))
  have O7 := hide (unhide P7).1
  have hz7 := t7.size
  clear t7 P7 B6 BU6 O6 Y6
  have nf7 : ¬ (1 + (M : Int)) < 0 := by omega
  go_wp2_with fail
  refine (heldNdxS_kit ws _ w7 (1) M (1) (by omega) (unhide HM) (by omega) (unhide HRS) (unhide O7).rd).mono ?_
  rintro e w8 ⟨rfl, b8⟩
  have B8 := hide ((unhide B7).trans (b8.mono (unhide B7).size))
  have BU8 := hide ((unhide BU7).trans (b8.mono (unhide BU7).size))
  have O8 := hide ((unhide O7).up b8)
  have Y8 := hide ((unhide Y7).up b8)
  clear b8 B7 BU7 O7 Y7
  go_wp2_with fail
  refine (unhide HIM _ (unhide B8)).mono ?_
  rintro e w9 ⟨a9, n9, c9, S9, rfl, O9, L9, b9⟩
  have B9 := hide ((unhide B8).trans (b9.mono (unhide B8).size))
  have BU9 := hide ((unhide BU8).trans (b9.mono (unhide BU8).size))
  have Y9 := hide ((unhide Y8).up b9)
  have OO9 := hide ((unhide O8).up b9)
  have XA := hide (boxF_new w9 [.int .i64 fc, .int .i64 fa] 24)
  have bA := (Below.refl _ w9).alloc (Nat.le_refl _) (.cells #[.int .i64 fc, .int .i64 fa] 24)
  have BA := hide ((unhide B9).trans (bA.mono (unhide B9).size))
  have BUA := hide ((unhide BU9).trans (bA.mono (unhide BU9).size))
  have OA := hide ((unhide O9).up bA)
  have OOA := hide ((unhide OO9).up bA)
  have YA := hide ((unhide Y9).up bA)
  simp only [List.toArray] at XA
  clear b9 bA B8 BU8 O8 Y8 B9 BU9 O9 OO9 Y9
  go_wp2_with fail
  generalize w9.alloc (.cells #[.int .i64 fc, .int .i64 fa] 24) = WA at *
  generalize w9.heap.size = g9 at *
  refine (eqNdxS_kit ws _ _ WA (unhide HRS) (unhide OA).rd ((unhide U2).up (unhide BUA))).mono ?_
  rintro e wB ⟨rfl, bB⟩
  have BB := hide ((unhide BA).trans (bB.mono (unhide BA).size))
  have OOB := hide ((unhide OOA).up bB)
  have XB := hide ((unhide XA).up bB)
  have YB := hide ((unhide YA).up bB)
  clear bB BA BUA OA OOA XA YA
  obtain ⟨⟨x0, x1⟩, -⟩ := (unhide XB).duoI
  obtain ⟨⟨y0, y1⟩, -⟩ := (unhide YB).duoI
  go_wp2_with fail
  refine (eqFault_same fc fa wB).mono ?_
  rintro e wC ⟨rfl, bC⟩
  have BC := hide ((unhide BB).trans (bC.mono (unhide BB).size))
  have OOC := hide ((unhide OOB).up bC)
  clear bC BB OOB XB YB x0 x1 y0 y1
  go_wp2_with fail
  refine (heldNdxS_kit ws _ wC (1) M (1) (by omega) (unhide HM) (by omega) (unhide HRS) (unhide OOC).rd).mono ?_
  rintro e wD ⟨rfl, bD⟩
  have BD := hide ((unhide BC).trans (bD.mono (unhide BC).size))
  clear bD
  go_wp2_with fail
  go_ret
  exact ⟨rfl, unhide BD⟩

theorem own : ownKnob Tryz.prog.godebug = none := by kernel_rfl
theorem laidOut : laidOutB Tryz.prog = true := by kernel_rfl
theorem door_met (os : Os) (args : Array Value) : laidMetH Tryz.prog Rows.fnExactTreeReadRow.laid ((World.doorLaid Tryz.prog 400 os).forCall (fun _ _ => 0) ⟨#[], args, []⟩).memory :=
  laidMetH_of_parts3 (fuel := 8) (laidMet_of_run' 8 (by kernel_rfl) (by kernel_rfl)) (by kernel_rfl) (by kernel_rfl)
theorem et : Tryz.prog.globalNamed "errors.errorType" = some 0 := by kernel_rfl
theorem rt : (Tryz.prog.cutTypes.find? (·.1 == "internal/reflectlite.rtype")).map (·.2) = some 113 := by kernel_rfl
theorem oneRow : ((List.range Tryz.prog.types.size).filter fun t => Tryz.prog.rowNamed t [101, 114, 114, 111, 114]) = [41] := by kernel_rfl
/-- what the condition gives: the variable's one cell -/
theorem parts {W : World} (h : laidMetH Tryz.prog Rows.fnExactTreeReadRow.laid W) : laidMet Tryz.prog [("math/bits.deBruijn32tab", Rows.laid_math_bits_deBruijn32tab), ("math/bits.deBruijn64tab", Rows.laid_math_bits_deBruijn64tab), ("internal/strconv.uint64pow10", Rows.laid_internal_strconv_uint64pow10), ("strconv.ErrRange", Rows.laid_strconv_ErrRange), ("strconv.ErrSyntax", Rows.laid_strconv_ErrSyntax), ("loop.example/headrace/impl.shapes", Rows.laid_loop_example_headrace_impl_shapes)] W ∧ handlesMet Tryz.prog [("errors.errorType", Rows.laid_errors_errorType)] W := h
theorem shapes {W : World} (h : laidMetH Tryz.prog Rows.fnExactTreeReadRow.laid W) : ShapesIn W := by
  obtain ⟨ps, hv, _⟩ := (parts h).1
  obtain ⟨_, _, _, _, _, _, _, _, _, _, hv, _⟩ := hv
  obtain ⟨_, _, _, _, _, _, _, _, _, _, hv, _⟩ := hv
  obtain ⟨_, _, _, _, _, _, _, _, _, _, hv, _⟩ := hv
  obtain ⟨_, _, _, _, _, _, _, _, _, _, hv, _⟩ := hv
  obtain ⟨_, _, _, _, _, _, _, _, _, _, hv, _⟩ := hv
  exact shapes_of_vars (by kernel_rfl) hv
theorem errs {W : World} (h : laidMetH Tryz.prog Rows.fnExactTreeReadRow.laid W) : ErrG W := by
  have h' := parts h
  obtain ⟨name, u, ty, e1, e2, e3, e4, e5⟩ := h'.2 _ (List.mem_singleton.2 rfl)
  have en : name = [101, 114, 114, 111, 114] := (Option.some.inj e1).symm
  subst en
  obtain rfl := Option.some.inj (rt.symm.trans e2)
  have hm : ty ∈ (List.range Tryz.prog.types.size).filter fun t => Tryz.prog.rowNamed t [101, 114, 114, 111, 114] := List.mem_filter.2 ⟨List.mem_range.2 e3, e4⟩
  rw [oneRow] at hm
  obtain rfl := List.mem_singleton.1 hm
  have hh : typeHandle Tryz.prog 41 = .pointer (some ⟨7, 41, none⟩) := by kernel_rfl
  rw [hh] at e5
  unfold ErrG
  simpa using World.var?_cell et e5 0

set_option maxRecDepth 100000 in
theorem lifted (os : Os) (started : os.Started) (H : Type) (enc : TypeId × Value → H) :
    ReturnsInHanded {} Tryz.checked os 3 .any (fun w args => (Rows.fnExactTreeReadSpec.pre enc Tryz.prog Tryz.f3 [] false w args ∧ laidMetH Tryz.prog Rows.fnExactTreeReadRow.laid w) ∧ sizedMet enc Tryz.prog Tryz.f3 (OpenSpec.ofChange Rows.fnExactTreeReadSpec) false w args)
      (Rows.fnExactTreeReadSpec.post enc Tryz.prog Tryz.f3 false true false false) := by
  refine returnsInHanded_of_change_and (C := Tryz.checked) (X := fun w _ => laidMetH Tryz.prog Rows.fnExactTreeReadRow.laid w) (fun _ _ _ hh h => h.of_heap hh) own started (by kernel_rfl) Tryz.func3
    (ChangeSpec.witness_shaped (enc := enc) (C := Tryz.checked) (os := os) (X := fun w _ => laidMetH Tryz.prog Rows.fnExactTreeReadRow.laid w) false (World.doorLaid Tryz.prog 400 os) #[.string ByteArray.empty] 8 rfl (World.shaped_of_RefB (by kernel_rfl) (by kernel_rfl)) (by kernel_rfl) (by kernel_rfl) (by kernel_rfl) (door_met os _)) ?_
  intro W base args ds gs before hval0 hW _ _ hL _
  have hval : ∀ (j : Nat) t v, Tryz.f3.params[j]? = some t → args[j]? = some v → Value.okWide Tryz.prog W .any base t v := hval0
  have hW' := hW
  obtain ⟨p, q, hA0, hV, rfl, hfz, hnd⟩ := hW
  have hA : DataW.TrodAll enc Tryz.prog W 0 (fun _ => true) true Tryz.f3.params.toList args.toList ds p := hA0
  rw [Tryz.params3] at hA hval
  obtain ⟨v0, d0, rfl, rfl, h0⟩ := trodAll_one hA
  obtain ⟨gv, tv, cv, fv, dv, pv, rfl, _, _, _, _, _⟩ := trodVars_one hV
  obtain ⟨s0, rfl, rfl, rfl, w0⟩ := open_string Tryz.underlying9 (hval 0 9 v0 rfl rfl) h0
  have hE : TrG W := ⟨errs hL, shapes hL⟩
  clear hA0 hval0
  refine (walk0 s0 W w0 hE).mono fun e W' ⟨he, bel⟩ => ?_
  subst he
  have hV' := Below.trodVars laidOut bel (by kernel_rfl) hV
  exact ⟨_, rfl, _, _, _, [], _, _, hW', trodAll_mk1 (shut_bool Tryz.underlying4 _), trodAll_mk1 (shut_string Tryz.underlying9 w0), hV', bel.frame _, fun h => by cases h⟩

theorem said : Rows.FnExactTreeReadSaid :=
  OpenClaim.holds_of_wide 3 Tryz.f3 rfl rfl rfl rfl rfl rfl rfl ⟨rfl, rfl, rfl, rfl, rfl⟩ rfl rfl rfl rfl rfl (by kernel_rfl) Tryz.func3 (by kernel_rfl)
    (of_decide_eq_true (by kernel_rfl)) (by unfold Func.isWrapper; first | (rw [if_pos (by decide +kernel)]; kernel_rfl) | (rw [if_neg (by decide +kernel)]; exact ⟨rfl, rfl⟩))
    (fun os started H enc _ => lifted os started H enc)

theorem card : Rows.FnExactTreeReadCardSaid :=
  Claim7.holds_tied_plain_at .later [] _ _ _ _ said (fun _ h => by cases h) (by kernel_rfl) (fun _ h => by cases h) fnExactTreeRead_row_tie rfl ⟨rfl, rfl⟩ (by kernel_rfl) rfl
    (fun f fn hf hfn => by
      obtain rfl : f = 3 := Option.some.inj ((show Tryz.prog.funcNamed Rows.fnExactTreeReadRow.func = some 3 by kernel_rfl).symm.trans hf) |>.symm
      obtain rfl : fn = Tryz.f3 := (Option.some.inj (Tryz.func3.symm.trans hfn)).symm
      exact ⟨by kernel_rfl, fun j t ht => by
        rw [Tryz.params3] at ht
        obtain rfl : t = 9 := by simpa using Array.mem_of_getElem? ht
        exact (show Tryz.prog.wantsStandIn 9 = false by kernel_rfl)⟩)
    (by kernel_rfl)

end Go.Proofs.YtaonajalokhngaaGreatDoor.fnExactTreeRead

namespace Go.Proofs.YtaonajalokhngaaGreatDoor
theorem fnExactTreeRead_holds : Rows.FnExactTreeReadCardSaid :=
  fnExactTreeRead.card
end Go.Proofs.YtaonajalokhngaaGreatDoor
