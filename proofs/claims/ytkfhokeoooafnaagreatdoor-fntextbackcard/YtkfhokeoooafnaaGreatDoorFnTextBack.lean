/-
  Proved: at every input of bytes the law on a tree's text (the drawn tree's text is the specification's, and, if the tree is one and the text is not too long, it is read back as the tree; a text that is too long is answered so) answers true, and the input reads afterwards as before. Condition: the package variables that the row lists hold what the program's text lays (errors.errorType the handle of the type 'error', impl.shapes its table, strconv's table of powers, and the others, of which none is used).
-/
import Derived.Test.YtkfhokeoooafnaaGreatDoorDrawShow
import Derived.Test.YtkfhokeoooafnaaGreatDoorMerged11
import Derived.Test.YtkfhokeoooafnaaGreatDoorMerged25
import Derived.Test.YtkfhokeoooafnaaGreatDoorImplBare
import Derived.Test.YtkfhokeoooafnaaGreatDoorMerged51
import Derived.Test.YtkfhokeoooafnaaGreatDoorRows
import Derived.Test.YtkfhokeoooafnaaGreatDoorCards
import Derived.Test.YtkfhokeoooafnaaGreatDoorTie
import Derived.WalkKit
import Derived.ProofKit
import Derived.OpenShut
import Derived.Handy
import Derived.ShutString
import Derived.LaidMore
import Derived.LaidHandle
import Derived.OpenVars
import Derived.SevenTiedAt
import Derived.Stop.Joined
namespace Go.Proofs.YtkfhokeoooafnaaGreatDoor.fnTextBack
open Go.ChangeShapes Go.WideShapes Go.ChangeAt Go.RowKit Go.Deep Go.Maps
open Go.ChangeMaps (open_string shut_string)
set_option linter.unusedVariables false

theorem nd_in {B : Nat} {w : World} {a : Option Addr} {n c : Nat} {ns : List NodeV} (h : NdRow B w (.slice a n c) ns) : n = ns.length ∧ NodesIn w a ns := by
  obtain ⟨a', c', e, hin⟩ := h.rd
  injection e with e1 e2 e3
  subst e1
  exact ⟨e2, hin⟩
theorem nd_len {B : Nat} {w : World} {a : Option Addr} {n c : Nat} (h : NdRow B w (.slice a n c) []) : n = 0 := (nd_in h).1

theorem bytesIn_tb {w : World} {a : Option Addr} {bs : List UInt8} (h : ByIn w a bs) : BytesIn w a bs.length := by
  rcases h with rfl | ⟨b, off, e, hb, hc⟩
  · exact .inl rfl
  · exact .inr ⟨b, off, e, hb, fun i hi => ⟨bs[i].toNat, by have := bs[i].toNat_lt; omega, hc i hi⟩⟩
def BkG (w : World) : Prop := ErrG w ∧ ShapesIn w ∧ Lib.TabIs Tryz.prog w "internal/strconv.uint64pow10" .u64 Lib.pow10Tab
theorem BkG.below {w w' : World} {B : Nat} (h : BkG w) (hb : Below B w w') (hB : w.heap.size ≤ B) : BkG w' := ⟨h.1.below hb hB, h.2.1.below hb hB, tab_below h.2.2 hb hB⟩
theorem neq_same (s : ByteArray) : (s.toList == s.toList) = true := by simp

set_option maxHeartbeats 6400000 in
theorem walk0 (a : Option Addr) (cap : Nat) (bs : List UInt8) (w : World) (hl : bs.length ≤ maxLen) (hc : bs.length ≤ cap) (hb : ByIn w a bs) (hG : BkG w) :
    Calls Tryz.prog 3 #[.slice a bs.length cap] w fun e w' => e = .returned (.bool true) ∧ Below w.heap.size w w' := by
  by_cases hbs : (bs.length : Int) ≤ 1048576
  rotate_left
  · unfold maxLen at hl
    go_enter Tryz.func3, Tryz.ntmps3
    go_wp2_with fail
    go_ret
    exact ⟨rfl, Below.refl _ _⟩
  have HD := hide (drawTreeShow_any w a bs.length cap hl hc (bytesIn_tb hb))
  have HG := hide (fun (W : World) (b : Below w.heap.size w W) => hG.below b (Nat.le_refl _))
  clear hb hc hl hG
  go_enter Tryz.func3, Tryz.ntmps3
  go_wp2_with fail
  refine (unhide HD).mono ?_
  rintro e w1 ⟨k, c1, ns, rfl, hn, hl1, hk, hkb, hlen, hsn, ht⟩
  have B1 := hide (ht.below (Nat.le_refl w.heap.size) (by simp))
  have HN1 := hide hn
  have HNM := hide (show NamesOk ns from fun x hx => by have := hsn x hx; unfold maxLen; omega)
  clear ht hn hsn HD
  go_wp2_with fail
  refine (implShow_any w1 k 0 c1 ns (by omega) (unhide HN1) hk (unhide HNM) (unhide HG w1 (unhide B1)).2.1 (unhide HG w1 (unhide B1)).2.2).mono ?_
  rintro e w2 ⟨hr1, b2⟩
  obtain ⟨s, rfl, hs1⟩ := show_open hr1
  have HS1 := hide hs1
  have hsz := show_size hs1
  have C2 := hide b2
  have B2 := hide ((unhide B1).trans (b2.mono (unhide B1).size))
  have HN2 := hide ((unhide HN1).below b2 hk)
  have hk2 : k < w2.heap.size := by have := b2.size; omega
  clear hr1 hs1 b2
  go_wp2_with fail
  refine (specShow_any w2 k 0 c1 ns (by omega) (unhide HN2) hk2 (unhide HNM)).mono ?_
  rintro e w3 ⟨hr2, b3⟩
  obtain ⟨s2, rfl, hs2⟩ := show_open hr2
  obtain rfl := show_same (unhide HS1) hs2
  have B3 := hide ((unhide B2).trans (b3.mono (unhide B2).size))
  have HN3 := hide ((unhide HN2).below b3 hk2)
  have hk3 : k < w3.heap.size := by have := b3.size; omega
  have q0 := neq_same s2
  clear hr2 hs2 b3 C2
  go_wp2_with fail
  refine (implTree_any s2 w3 (by omega) (unhide HG w3 (unhide B3)).2.1 (unhide HG w3 (unhide B3)).1).mono ?_
  rintro e w4 ⟨a4, n4, c4, rfl, R4, b4⟩
  have B4 := hide ((unhide B3).trans (b4.mono (unhide B3).size))
  have HN4 := hide ((unhide HN3).below b4 hk3)
  have hk4 : k < w4.heap.size := by have := b4.size; omega
  have HRD := hide (fun (h : (trRes s2).nodes = ns) => by have r := unhide R4; rw [h] at r; exact nd_in r)
  have HEM := hide (fun (h : (trRes s2).nodes = []) => by have r := unhide R4; rw [h] at r; exact nd_len r)
  have HOK := hide (fun (h : OkTree ns) (hz : s2.size ≤ 1500) => show_read h (unhide HS1) hz)
  have HLG := hide (fun (h : 1500 < s2.size) => show_long h)
  have HNO := hide (fun (h : ¬ OkTree ns) => show_none h (unhide HS1))
  have X4 := hide (boxF_new w4 [.int .i64 (trRes s2).code, .int .i64 (trRes s2).at'] 27)
  have bA := (Below.refl _ w4).alloc (Nat.le_refl _) (.cells #[.int .i64 (trRes s2).code, .int .i64 (trRes s2).at'] 27)
  have CA := hide bA
  have BA := hide ((unhide B4).trans (bA.mono (unhide B4).size))
  have HNA := hide ((unhide HN4).below bA hk4)
  have hkA : k < (w4.alloc (.cells #[.int .i64 (trRes s2).code, .int .i64 (trRes s2).at'] 27)).heap.size := by have := bA.size; omega
  simp only [List.toArray] at X4
  clear b4 bA R4 HS1 q0
  generalize (trRes s2).nodes = us at *
  generalize (trRes s2).code = fc at *
  generalize (trRes s2).at' = fa at *
  go_wp2_with fail
  have hgz : w4.heap.size < (w4.alloc (.cells #[.int .i64 fc, .int .i64 fa] 27)).heap.size := (unhide X4).1.1
  generalize w4.alloc (.cells #[.int .i64 fc, .int .i64 fa] 27) = WA at *
  refine (specOk_any WA k 0 c1 ns (by omega) (unhide HNA) hkA (unhide HNM)).mono ?_
  rintro e w5 ⟨⟨r, rfl, hr⟩, b5⟩
  have B5 := hide ((unhide BA).trans (b5.mono (unhide BA).size))
  have C5 := hide ((unhide CA).trans (b5.mono (unhide CA).size))
  have HN5 := hide ((unhide HNA).below b5 hkA)
  have hk5 : k < w5.heap.size := by have := b5.size; omega
  have X5 := hide ((unhide X4).up b5)
  have HR := hide hr
  clear b5 hr X4 HNA BA
  cases r with
  | false =>
    have hno : ¬ OkTree ns := fun h => by have := (unhide HR).2 h; cases this
    have e0 := unhide HNO hno
    subst e0
    have q1 := neq_same ⟨#[]⟩
    go_wp2_with fail
    go_ret
    exact ⟨by simp, unhide B5⟩
  | true =>
    have hok : OkTree ns := (unhide HR).1 rfl
    obtain ⟨⟨x0, x1⟩, -⟩ := (unhide X5).duoI
    by_cases hz : (s2.size : Int) ≤ 1500
    rotate_left
    · obtain ⟨h1, h2⟩ := unhide HLG (by omega)
      obtain rfl := unhide HEM h2
      subst h1
      go_wp2_with fail
      go_ret
      exact ⟨rfl, unhide B5⟩
    · obtain ⟨h1, h2⟩ := unhide HOK hok (by omega)
      obtain ⟨rfl, hin⟩ := unhide HRD h2
      subst h1
      have HIN := hide (hin.below (unhide C5))
      have HQ := hide (quTree_same w5 a4 (some ⟨k, 0, none⟩) c4 c1 ns (by omega) (unhide HIN) (.inr ⟨k, 0, rfl, hk5, unhide HN5⟩))
      clear HR HRD HEM HOK HLG HNO hin h2 HIN
      go_wp2_with fail
      refine (unhide HQ).mono ?_
      rintro e w6 ⟨rfl, b6⟩
      have B6 := hide ((unhide B5).trans (b6.mono (unhide B5).size))
      clear b6
      go_wp2_with fail
      go_ret
      exact ⟨rfl, unhide B6⟩

theorem own : ownKnob Tryz.prog.godebug = none := by kernel_rfl
theorem laidOut : laidOutB Tryz.prog = true := by kernel_rfl
theorem door_met (os : Os) (args : Array Value) : laidMetH Tryz.prog Rows.fnTextBackRow.laid ((World.doorLaid Tryz.prog 400 os).forCall (fun _ _ => 0) ⟨#[], args, []⟩).memory :=
  laidMetH_of_parts3 (fuel := 8) (laidMet_of_run' 8 (by kernel_rfl) (by kernel_rfl)) (by kernel_rfl) (by kernel_rfl)
theorem et : Tryz.prog.globalNamed "errors.errorType" = some 1 := by kernel_rfl
theorem rt : (Tryz.prog.cutTypes.find? (·.1 == "internal/reflectlite.rtype")).map (·.2) = some 166 := by kernel_rfl
theorem oneRow : ((List.range Tryz.prog.types.size).filter fun t => Tryz.prog.rowNamed t [101, 114, 114, 111, 114]) = [45] := by kernel_rfl
theorem parts {W : World} (h : laidMetH Tryz.prog Rows.fnTextBackRow.laid W) : laidMet Tryz.prog [("math/bits.deBruijn32tab", Rows.laid_math_bits_deBruijn32tab), ("math/bits.deBruijn64tab", Rows.laid_math_bits_deBruijn64tab), ("internal/strconv.uint64pow10", Rows.laid_internal_strconv_uint64pow10), ("strconv.ErrRange", Rows.laid_strconv_ErrRange), ("strconv.ErrSyntax", Rows.laid_strconv_ErrSyntax), ("loop.example/headrace/impl.shapes", Rows.laid_loop_example_headrace_impl_shapes)] W ∧ handlesMet Tryz.prog [("errors.errorType", Rows.laid_errors_errorType)] W := h
theorem shapes {W : World} (h : laidMetH Tryz.prog Rows.fnTextBackRow.laid W) : ShapesIn W := by
  obtain ⟨ps, hv, _⟩ := (parts h).1
  obtain ⟨_, _, _, _, _, _, _, _, _, _, hv, _⟩ := hv
  obtain ⟨_, _, _, _, _, _, _, _, _, _, hv, _⟩ := hv
  obtain ⟨_, _, _, _, _, _, _, _, _, _, hv, _⟩ := hv
  obtain ⟨_, _, _, _, _, _, _, _, _, _, hv, _⟩ := hv
  obtain ⟨_, _, _, _, _, _, _, _, _, _, hv, _⟩ := hv
  exact shapes_of_vars (by kernel_rfl) hv
theorem errs {W : World} (h : laidMetH Tryz.prog Rows.fnTextBackRow.laid W) : ErrG W := by
  have h' := parts h
  obtain ⟨name, u, ty, e1, e2, e3, e4, e5⟩ := h'.2 _ (List.mem_singleton.2 rfl)
  have en : name = [101, 114, 114, 111, 114] := (Option.some.inj e1).symm
  subst en
  obtain rfl := Option.some.inj (rt.symm.trans e2)
  have hm : ty ∈ (List.range Tryz.prog.types.size).filter fun t => Tryz.prog.rowNamed t [101, 114, 114, 111, 114] := List.mem_filter.2 ⟨List.mem_range.2 e3, e4⟩
  rw [oneRow] at hm
  obtain rfl := List.mem_singleton.1 hm
  have hh : typeHandle Tryz.prog 45 = .pointer (some ⟨8, 45, none⟩) := by kernel_rfl
  rw [hh] at e5
  unfold ErrG
  simpa using World.var?_cell et e5 0
theorem laidTailB {P : Program} {x : String × DataW Unit} {rest : List (String × DataW Unit)} {W : World} (h : laidMet P (x :: rest) W) : laidMet P rest W := by
  obtain ⟨ps, ⟨g', t', cs, fuel, p, q, _, _, _, _, hq, rfl⟩, hnd, hc⟩ := h
  exact ⟨q, hq, (List.nodup_append.1 hnd).2.1, fun b off hm => hc b off (List.mem_append_right _ hm)⟩
theorem tabl {W : World} (h : laidMetH Tryz.prog Rows.fnTextBackRow.laid W) : Lib.TabIs Tryz.prog W "internal/strconv.uint64pow10" .u64 Lib.pow10Tab :=
  Lib.tabIs_of_head gPow (t := 190) (by kernel_rfl) Tryz.underlying190 Tryz.underlying182 (by kernel_rfl) (by kernel_rfl) (laidTailB (laidTailB (parts h).1))

set_option maxRecDepth 100000 in
theorem lifted (os : Os) (started : os.Started) (H : Type) (enc : TypeId × Value → H) :
    ReturnsInHanded {} Tryz.checked os 3 .any (fun w args => (Rows.fnTextBackSpec.pre enc Tryz.prog Tryz.f3 [] false w args ∧ laidMetH Tryz.prog Rows.fnTextBackRow.laid w) ∧ sizedMet enc Tryz.prog Tryz.f3 (OpenSpec.ofChange Rows.fnTextBackSpec) false w args)
      (Rows.fnTextBackSpec.post enc Tryz.prog Tryz.f3 false true false false) := by
  refine returnsInHanded_of_change_and (C := Tryz.checked) (X := fun w _ => laidMetH Tryz.prog Rows.fnTextBackRow.laid w) (fun _ _ _ hh h => h.of_heap hh) own started (by kernel_rfl) Tryz.func3
    (ChangeSpec.witness_shaped (enc := enc) (C := Tryz.checked) (os := os) (X := fun w _ => laidMetH Tryz.prog Rows.fnTextBackRow.laid w) false (World.doorLaid Tryz.prog 400 os) #[.slice none 0 0] 8 rfl (World.shaped_of_RefB (by kernel_rfl) (by kernel_rfl)) (by kernel_rfl) (by kernel_rfl) (by kernel_rfl) (door_met os _)) ?_
  intro W base args ds gs before hval0 hW _ _ hL _
  have hval : ∀ (j : Nat) t v, Tryz.f3.params[j]? = some t → args[j]? = some v → Value.okWide Tryz.prog W .any base t v := hval0
  have hW' := hW
  obtain ⟨p, q, hA0, hV, rfl, hfz, hnd⟩ := hW
  have hA : DataW.TrodAll enc Tryz.prog W 0 (fun _ => true) true Tryz.f3.params.toList args.toList ds p := hA0
  rw [Tryz.params3] at hA hval
  obtain ⟨v0, d0, rfl, rfl, h0⟩ := trodAll_one hA
  obtain ⟨gv, tv, cv, fv, dv, pv, rfl, _, _, _, _, _⟩ := trodVars_one hV
  obtain ⟨a0, len0, cap0, rfl⟩ := okWide_slice Tryz.underlying22 (hval 0 22 v0 rfl rfl)
  have k0 := h0
  have lt0 : ∀ x ∈ p, x.block < W.heap.size := by obtain ⟨m, hm⟩ := k0; exact DataW.trod_lt m _ _ _ hm
  obtain ⟨bs0, rfl, hl0, hc0, hb0⟩ := open_byteS h0
  have hE : BkG W := ⟨errs hL, shapes hL, tabl hL⟩
  clear hA0 hval0
  refine (walk0 a0 cap0 bs0 W hl0 hc0 hb0 hE).mono fun e W' ⟨he, bel⟩ => ?_
  subst he
  have hV' := Below.trodVars laidOut bel (by kernel_rfl) hV
  exact ⟨_, rfl, _, _, _, [], _, _, hW', trodAll_mk1 (shut_bool Tryz.underlying4 _), trodAll_mk1 (Below.trod laidOut (by kernel_rfl) (of_decide_eq_true (by kernel_rfl)) k0 bel lt0), hV', bel.frame _, fun h => by cases h⟩

theorem said : Rows.FnTextBackSaid :=
  OpenClaim.holds_of_wide 3 Tryz.f3 rfl rfl rfl rfl rfl rfl rfl ⟨rfl, rfl, rfl, rfl, rfl⟩ rfl rfl rfl rfl rfl (by kernel_rfl) Tryz.func3 (by kernel_rfl)
    (of_decide_eq_true (by kernel_rfl)) (by unfold Func.isWrapper; first | (rw [if_pos (by decide +kernel)]; kernel_rfl) | (rw [if_neg (by decide +kernel)]; exact ⟨rfl, rfl⟩))
    (fun os started H enc _ => lifted os started H enc)

theorem card : Rows.FnTextBackCardSaid :=
  Claim7.holds_tied_plain_at .later [] _ _ _ _ said (fun _ h => by cases h) (by kernel_rfl) (fun _ h => by cases h) fnTextBack_row_tie rfl ⟨rfl, rfl⟩ (by kernel_rfl) rfl
    (fun f fn hf hfn => by
      obtain rfl : f = 3 := Option.some.inj ((show Tryz.prog.funcNamed Rows.fnTextBackRow.func = some 3 by kernel_rfl).symm.trans hf) |>.symm
      obtain rfl : fn = Tryz.f3 := (Option.some.inj (Tryz.func3.symm.trans hfn)).symm
      exact ⟨by kernel_rfl, fun j t ht => by
        rw [Tryz.params3] at ht
        obtain rfl : t = 22 := by simpa using Array.mem_of_getElem? ht
        exact (show Tryz.prog.wantsStandIn 22 = false by kernel_rfl)⟩)
    (by kernel_rfl)

end Go.Proofs.YtkfhokeoooafnaaGreatDoor.fnTextBack

namespace Go.Proofs.YtkfhokeoooafnaaGreatDoor
theorem fnTextBack_holds : Rows.FnTextBackCardSaid :=
  fnTextBack.card
end Go.Proofs.YtkfhokeoooafnaaGreatDoor
