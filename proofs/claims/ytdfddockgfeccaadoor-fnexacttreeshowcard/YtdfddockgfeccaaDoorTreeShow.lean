/-
  Proved: at every list of nodes the law on TreeShow answers true, and the list reads afterwards as before: the program's TreeShow is the specification's TreeShow, and writes into no argument. Condition: the program's table 'shapes' and the library's table of powers of ten hold what their own texts lay there (the card ties them to these texts, by the given tie).
-/
import Derived.Test.YtdfddockgfeccaaDoorImplBare
import Derived.Test.YtdfddockgfeccaaDoorLaid
import Derived.Test.YtdfddockgfeccaaDoorCards
import Derived.Test.YtdfddockgfeccaaDoorTie
import Derived.WalkKit
import Derived.ProofKit
import Derived.OpenShut
import Derived.LaidMore
import Derived.OpenVars
import Derived.SevenTiedAt
import Derived.Stop.Joined
namespace Go.Proofs.YtdfddockgfeccaaDoor.fnExactTreeShow
open Go.ChangeShapes Go.WideShapes Go.ChangeAt Go.RowKit
set_option linter.unusedVariables false

theorem same_shows (f : Deep.BT NodeV) : ∀ (g : Deep.BT NodeV) (r r' : List NodeV), kok f → kok g → cnt f = cnt g → fl f ++ r = fl g ++ r' → showsF f = showsF g ∧ r = r' := by
  induction f with
  | nil =>
    intro g r r' _ _ hc h
    cases g with
    | nil => exact ⟨rfl, by simpa [fl] using h⟩
    | node b o x l s => simp [cnt] at hc
  | node b o x l s ihl ihs =>
    intro g r r' hf hg hc h
    cases g with
    | nil => simp [cnt] at hc
    | node b' o' x' l' s' =>
      simp only [fl, List.cons_append, List.append_assoc, List.cons.injEq] at h
      obtain ⟨rfl, h⟩ := h
      obtain ⟨h1, h2⟩ := ihl l' _ _ hf.2.1 hg.2.1 (by have := hf.1; have := hg.1; omega) h
      obtain ⟨h3, h4⟩ := ihs s' _ _ hf.2.2 hg.2.2 (by simp [cnt] at hc; omega) h2
      exact ⟨by simp only [showsF, h1, h3], h4⟩
def ShowIs (ns : List NodeV) (s : ByteArray) : Prop := (∃ x l, OkAt ns x l ∧ s = bareT x l) ∨ (¬ OkTree ns ∧ s = ⟨#[]⟩)
theorem show_open {ns : List NodeV} {e : Ending} (h : RetShow ns e) : ∃ s, e = .returned (.string s) ∧ ShowIs ns s := by
  rcases h with ⟨x, l, hok, rfl⟩ | ⟨hno, rfl⟩
  · exact ⟨_, rfl, .inl ⟨x, l, hok, rfl⟩⟩
  · exact ⟨_, rfl, .inr ⟨hno, rfl⟩⟩
theorem show_same {ns : List NodeV} {s t : ByteArray} (h : ShowIs ns s) (h' : ShowIs ns t) : t = s := by
  rcases h with ⟨x, l, hok, rfl⟩ | ⟨hno, rfl⟩
  · rcases h' with ⟨y, m, hok', rfl⟩ | ⟨hno, _⟩
    · have e := hok'.eq.symm.trans hok.eq
      simp only [List.cons.injEq] at e
      obtain ⟨rfl, e⟩ := e
      have := (same_shows m l [] [] hok'.kok hok.kok (by have := hok.kids; have := hok'.kids; omega) (by simpa using e)).1
      unfold bareT
      rw [this]
    · exact absurd ⟨x, l, hok⟩ hno
  · rcases h' with ⟨y, m, hok', rfl⟩ | ⟨_, rfl⟩
    · exact absurd ⟨y, m, hok'⟩ hno
    · rfl

set_option maxHeartbeats 1600000 in
theorem walk (a : Option Addr) (cap : Nat) (ns : List NodeV) (w : World) (hl : ns.length ≤ maxLen) (hn : NodesIn w a ns) (hs : NamesOk ns) (hsh : ShapesIn w) (htab : Lib.TabIs Tryd.prog w "internal/strconv.uint64pow10" .u64 Lib.pow10Tab) :
    Calls Tryd.prog 3 #[.slice a ns.length cap] w fun e w' => e = .returned (.bool true) ∧ Below w.heap.size w w' := by
  have HL := hide hl
  have HSH := hide hsh
  have HTB := hide htab
  clear hl hsh htab
  go_enter Tryd.func3, Tryd.ntmps3
  go_wp2_with fail
  refine (szNodeS_in w a cap ns (unhide HL) hn hs).mono ?_
  rintro e w1 ⟨⟨r, rfl, hr⟩, b1⟩
  have HR := hide hr
  clear hr
  by_cases hneg : r < 0
  · go_wp2_with fail
    go_ret
    exact ⟨rfl, b1⟩
  · obtain ⟨hlen, hsm⟩ := unhide HR (by omega)
    go_wp2_with fail
    have n1 := hn.below b1
    refine (toNodeS_in w1 a cap ns hlen n1).mono ?_
    rintro e w2 ⟨rfl, m2, z2, b2⟩
    go_wp2_with fail
    refine (specShow_any w2 _ _ _ ns hlen m2 z2 hs).mono ?_
    rintro e w3 ⟨hr1, b3⟩
    obtain ⟨s1, rfl, hs1⟩ := show_open hr1
    have HS1 := hide hs1
    clear hr1 hs1
    go_wp2_with fail
    have n3 := (n1.below b2).below b3
    refine (toNodeS_in _ a cap ns hlen n3).mono ?_
    rintro e w4 ⟨rfl, m4, z4, b4⟩
    have HS4 := hide (((((unhide HSH).below b1 (Nat.le_refl _)).below b2 (Nat.le_refl _)).below b3 (Nat.le_refl _)).below b4 (Nat.le_refl _))
    have HT4 := hide (tab_below (tab_below (tab_below (tab_below (unhide HTB) b1 (Nat.le_refl _)) b2 (Nat.le_refl _)) b3 (Nat.le_refl _)) b4 (Nat.le_refl _))
    go_wp2_with fail
    refine (implShow_any w4 _ _ _ ns hlen m4 z4 hs (unhide HS4) (unhide HT4)).mono ?_
    rintro e w5 ⟨hr2, b5⟩
    obtain ⟨s2, rfl, hs2⟩ := show_open hr2
    obtain rfl := show_same (unhide HS1) hs2
    clear hr2 hs2
    go_wp2_with fail
    have n5 := (n3.below b4).below b5
    refine (toNodeS_in _ a cap ns hlen n5).mono ?_
    rintro e w6 ⟨rfl, m6, z6, b6⟩
    go_wp2_with fail
    refine (eqNodeS_same w6 _ _ _ _ _ _ ns (by omega) ((m4.below b5 z4).below b6 (Nat.lt_of_lt_of_le z4 b5.size)) m6 (Nat.lt_of_lt_of_le z4 (Nat.le_trans b5.size b6.size)) z6).mono ?_
    rintro e w7 ⟨rfl, b7⟩
    go_wp2_with fail
    go_ret
    have s1 := b1.size
    have s2 := b2.size
    have s3 := b3.size
    have s4 := b4.size
    have s5 := b5.size
    have s6 := b6.size
    exact ⟨rfl, (((((b1.trans (b2.mono (by omega))).trans (b3.mono (by omega))).trans (b4.mono (by omega))).trans (b5.mono (by omega))).trans (b6.mono (by omega))).trans (b7.mono (by omega))⟩

theorem own : ownKnob Tryd.prog.godebug = none := by kernel_rfl
theorem laidOut : laidOutB Tryd.prog = true := by kernel_rfl
theorem door_met (os : Os) (args : Array Value) : laidMetH Tryd.prog Rows.fnExactTreeShowRow.laid ((World.doorLaid Tryd.prog 400 os).forCall (fun _ _ => 0) ⟨#[], args, []⟩).memory :=
  laidMetH_of_parts3 (fuel := 8) (laidMet_of_run' 8 (by kernel_rfl) (by kernel_rfl)) (by kernel_rfl) (by kernel_rfl)
theorem laid_tail {P : Program} {x : String × DataW Unit} {rest : List (String × DataW Unit)} {W : World} (h : laidMet P (x :: rest) W) : laidMet P rest W := by
  obtain ⟨ps, ⟨g', t', cs, fuel, p, q, _, _, _, _, hq, rfl⟩, hnd, hc⟩ := h
  exact ⟨q, hq, (List.nodup_append.1 hnd).2.1, fun b off hm => hc b off (List.mem_append_right _ hm)⟩
theorem pow_tab {H : Type} : Rows.laid_internal_strconv_uint64pow10 (H := H) = Lib.tabData .u64 Lib.pow10Tab := rfl
theorem met {W : World} (h : laidMetH Tryd.prog Rows.fnExactTreeShowRow.laid W) : laidMet Tryd.prog Rows.fnExactTreeShowRow.laid W := h
theorem shapes {W : World} (h : laidMetH Tryd.prog Rows.fnExactTreeShowRow.laid W) : ShapesIn W :=
  shapes_of_laid (rest := []) (by kernel_rfl) (laid_tail (laid_tail (laid_tail (met h))))
theorem tab {W : World} (h : laidMetH Tryd.prog Rows.fnExactTreeShowRow.laid W) : Lib.TabIs Tryd.prog W "internal/strconv.uint64pow10" .u64 Lib.pow10Tab :=
  Lib.tabIs_of_head gPow (t := 144) (by kernel_rfl) Tryd.underlying144 Tryd.underlying112 (by kernel_rfl) (by kernel_rfl) (laid_tail (laid_tail (met h)))

set_option maxRecDepth 100000 in
theorem lifted (os : Os) (started : os.Started) (H : Type) (enc : TypeId × Value → H) :
    ReturnsInHanded {} Tryd.checked os 3 .any (fun w args => (Rows.fnExactTreeShowSpec.pre enc Tryd.prog Tryd.f3 [] false w args ∧ laidMetH Tryd.prog Rows.fnExactTreeShowRow.laid w) ∧ sizedMet enc Tryd.prog Tryd.f3 (OpenSpec.ofChange Rows.fnExactTreeShowSpec) false w args)
      (Rows.fnExactTreeShowSpec.post enc Tryd.prog Tryd.f3 false true false false) := by
  refine returnsInHanded_of_change_and (C := Tryd.checked) (X := fun w _ => laidMetH Tryd.prog Rows.fnExactTreeShowRow.laid w) (fun _ _ _ hh h => h.of_heap hh) own started (by kernel_rfl) Tryd.func3
    (ChangeSpec.witness_shaped (enc := enc) (C := Tryd.checked) (os := os) (X := fun w _ => laidMetH Tryd.prog Rows.fnExactTreeShowRow.laid w) false (World.doorLaid Tryd.prog 400 os) #[.slice none 0 0] 8 rfl (World.shaped_of_RefB (by kernel_rfl) (by kernel_rfl)) (by kernel_rfl) (by kernel_rfl) (by kernel_rfl) (door_met os _)) ?_
  intro W base args ds gs before hval0 hW _ _ hL _
  have hval : ∀ (j : Nat) t v, Tryd.f3.params[j]? = some t → args[j]? = some v → Value.okWide Tryd.prog W .any base t v := hval0
  have hW' := hW
  obtain ⟨p, q, hA0, hV, rfl, hfz, hnd⟩ := hW
  have hA : DataW.TrodAll enc Tryd.prog W 0 (fun _ => true) true Tryd.f3.params.toList args.toList ds p := hA0
  rw [Tryd.params3] at hA hval
  obtain ⟨v0, d0, rfl, rfl, h0⟩ := trodAll_one hA
  obtain ⟨gv, tv, cv, fv, dv, pv, rfl, _, _, _, _, _⟩ := trodVars_one hV
  obtain ⟨a0, len0, cap0, rfl⟩ := okWide_slice Tryd.underlying22 (hval 0 22 v0 rfl rfl)
  have k0 := h0
  have lt0 : ∀ x ∈ p, x.block < W.heap.size := by obtain ⟨m, hm⟩ := k0; exact DataW.trod_lt m _ _ _ hm
  obtain ⟨ns, rfl, hl, hn, hs⟩ := open_nodes h0
  have hsh := shapes hL
  have htb := tab hL
  clear hA0 hval0
  refine (walk a0 cap0 ns W hl hn hs hsh htb).mono fun e W' ⟨he, bel⟩ => ?_
  subst he
  have hV' := Below.trodVars laidOut bel (by kernel_rfl) hV
  exact ⟨_, rfl, _, _, _, [], _, _, hW', trodAll_mk1 (shut_bool Tryd.underlying4 _), trodAll_mk1 (Below.trod laidOut (by kernel_rfl) (of_decide_eq_true (by kernel_rfl)) k0 bel lt0), hV', bel.frame _, fun h => by cases h⟩

theorem said : Rows.FnExactTreeShowSaid :=
  OpenClaim.holds_of_wide 3 Tryd.f3 rfl rfl rfl rfl rfl rfl rfl ⟨rfl, rfl, rfl, rfl, rfl⟩ rfl rfl rfl rfl rfl (by kernel_rfl) Tryd.func3 (by kernel_rfl)
    (of_decide_eq_true (by kernel_rfl)) (by unfold Func.isWrapper; first | (rw [if_pos (by decide +kernel)]; kernel_rfl) | (rw [if_neg (by decide +kernel)]; exact ⟨rfl, rfl⟩))
    (fun os started H enc _ => lifted os started H enc)

theorem card : Rows.FnExactTreeShowCardSaid :=
  Claim7.holds_tied_plain_at .later [] _ _ _ _ said (fun _ h => by cases h) (by kernel_rfl) (fun _ h => by cases h) fnExactTreeShow_row_tie rfl ⟨rfl, rfl⟩ (by kernel_rfl) rfl
    (fun f fn hf hfn => by
      obtain rfl : f = 3 := Option.some.inj ((show Tryd.prog.funcNamed Rows.fnExactTreeShowRow.func = some 3 by kernel_rfl).symm.trans hf) |>.symm
      obtain rfl : fn = Tryd.f3 := (Option.some.inj (Tryd.func3.symm.trans hfn)).symm
      exact ⟨by kernel_rfl, fun j t ht => by
        rw [Tryd.params3] at ht
        obtain rfl : t = 22 := by simpa using Array.mem_of_getElem? ht
        exact (show Tryd.prog.wantsStandIn 22 = false by kernel_rfl)⟩)
    (by kernel_rfl)

end Go.Proofs.YtdfddockgfeccaaDoor.fnExactTreeShow

namespace Go.Proofs.YtdfddockgfeccaaDoor
theorem fnExactTreeShow_holds : Rows.FnExactTreeShowCardSaid :=
  fnExactTreeShow.card
end Go.Proofs.YtdfddockgfeccaaDoor
