/-
  CodeRun of the program.
-/
import Derived.Test.YtoehjbehfolekaaDoorMachRun
import Derived.Test.YtoehjbehfolekaaDoorAllBound
import Derived.Test.YtoehjbehfolekaaDoorSpecRun
set_option linter.unusedVariables false
namespace Go.Proofs.YtoehjbehfolekaaDoor
open Go.RowKit Go.Maps Go.Deep

set_option maxHeartbeats 3200000 in
theorem implRun_ok (w : World) (cb off cap : Nat) (ns : List InsV) (ab : Option Addr) (capb : Nat) (bs : List BindV) (hg : CodeGood ns) (hbg : BindsGood bs) (hc : InsAt w cb off ns) (hcb : cb < w.heap.size) (hs : InsOk ns) (hb : BindIn w ab bs) (hsb : BindOk bs) (hsh : ShapesIn w) (hsg : SignsIn w) :
    Calls Tryd.prog 9 #[.slice (some ⟨cb, off, none⟩) ns.length cap, .slice ab bs.length capb] w fun e w' => RetRun ns bs e ∧ Below w.heap.size w w' := by
  have HG := hide hg
  have HBG := hide hbg
  have HC := hide hc
  have HS := hide hs
  have HB := hide hb
  have HSB := hide hsb
  have HSH := hide hsh
  have HSG := hide hsg
  have hl : (ns.length : Int) ≤ 4000 := hg.2.1
  have hl40 : (bs.length : Int) ≤ 40 := hbg.1
  clear hg hbg hc hs hb hsb hsh hsg
  go_enter Tryd.func9, Tryd.ntmps9
  go_wp2_with fail
  refine (implCode_any w _ cap ns (.inr ⟨cb, off, rfl, hcb, unhide HC⟩) (unhide HS) (unhide HSH) (unhide HSG)).mono ?_
  rintro e w1 ⟨hr | hr, b1⟩
  · obtain ⟨_, rfl⟩ := hr
    have HB1 := hide b1
    clear b1
    go_wp2_with fail
    refine (implBinds_any w1 ab capb bs ((unhide HB).below (unhide HB1)) (unhide HSB)).mono ?_
    rintro e w2 ⟨hr | hr, b2⟩
    · obtain ⟨_, rfl⟩ := hr
      have HB2 := hide ((unhide HB1).trans (b2.mono (unhide HB1).size))
      have hz2 := (unhide HB2).size
      clear b2
      go_wp2_with fail
      refine (loadedNames_row w2 cb off cap ns hl ((unhide HC).below (unhide HB2) hcb) (by omega)).mono ?_
      rintro e w3 ⟨⟨v3, rfl, hr3⟩, b3⟩
      have HR3 := hide hr3
      have HB3 := hide ((unhide HB2).trans (b3.mono hz2))
      have hz3 := (unhide HB3).size
      obtain ⟨ao3, n3, cap3, hv3⟩ : ∃ ao n cap, v3 = .slice ao n cap := by
        rcases hr3.2 with ⟨hv, _⟩ | ⟨g, cap, cur, hv, _⟩
        · exact ⟨_, _, _, hv⟩
        · exact ⟨_, _, _, hv⟩
      have HAB := hide (allBound_any w3 v3 _ _ ab capb bs (by have := loadsL_len ns ns.length; omega) hl40 (unhide HR3) ((unhide HB).below (unhide HB3)))
      subst hv3
      clear b3 hr3
      go_wp2_with fail
      refine (unhide HAB).mono ?_
      rintro e w4 ⟨hd, b4⟩
      have HB4 := hide ((unhide HB3).trans (b4.mono hz3))
      have hz4 := (unhide HB4).size
      clear b4 HAB
      rcases hd with ⟨hy, rfl⟩ | ⟨hy, rfl⟩
      · have HLD := hide ((loads_iff ns bs).2 hy)
        clear hy
        go_wp2_with fail
        refine (newMachine_any w4 ab capb bs hl40 ((unhide HB).below (unhide HB4)) (unhide HSB)).mono ?_
        rintro e w5 ⟨⟨b, sg, vb, rfl, hM⟩, b5⟩
        have HB5 := hide ((unhide HB4).trans (b5.mono hz4))
        have HRUN := hide (mrun_any w5 w4.heap.size b sg vb bs.length (valsMap bs) (bvL bs) cb off cap ns vm0 hM (vm0_ok _) (vals_tell bs) (bvL_ranged bs (unhide HSB)) (unhide HG) (unhide HS) ((unhide HC).below (unhide HB5) hcb) (by omega) b5.size)
        generalize hR : VM.run ns (bvL bs) 400000 vm0 = R at HRUN
        have HR := hide hR
        clear hM hR b5
        go_wp2_with fail
        refine (unhide HRUN).mono ?_
        rintro e w6 ⟨rfl, b6⟩
        have HB6 := hide ((unhide HB5).trans (b6.mono hz4))
        clear b6
        obtain ⟨r1, r2, r3⟩ := R
        unfold triple
        go_wp2_with fail
        go_ret3
        exact ⟨.inr (.inr ⟨unhide HG, unhide HBG, unhide HLD, by rw [unhide HR]; rfl⟩), unhide HB6⟩
      · have HLD := hide (fun h => hy ((loads_iff ns bs).1 h))
        clear hy
        go_wp2_with fail
        go_ret3
        exact ⟨.inr (.inl ⟨unhide HG, unhide HBG, unhide HLD, rfl⟩), unhide HB4⟩
    · exact absurd (unhide HBG) hr.1
  · exact absurd (unhide HG) hr.1

set_option maxHeartbeats 1600000 in
theorem implRun_bad (w : World) (ac : Option Addr) (cap : Nat) (ns : List InsV) (ab : Option Addr) (capb : Nat) (bs : List BindV) (hn : ¬ (CodeGood ns ∧ BindsGood bs)) (hc : InsIn w ac ns) (hs : InsOk ns) (hb : BindIn w ab bs) (hsb : BindOk bs) (hsh : ShapesIn w) (hsg : SignsIn w) :
    Calls Tryd.prog 9 #[.slice ac ns.length cap, .slice ab bs.length capb] w fun e w' => e = .returned (triple (0, 0, 1)) ∧ Below w.heap.size w w' := by
  have HN := hide hn
  have HC := hide hc
  have HS := hide hs
  have HB := hide hb
  have HSB := hide hsb
  have HSH := hide hsh
  have HSG := hide hsg
  clear hn hc hs hb hsb hsh hsg
  go_enter Tryd.func9, Tryd.ntmps9
  go_wp2_with fail
  refine (implCode_any w ac cap ns (unhide HC) (unhide HS) (unhide HSH) (unhide HSG)).mono ?_
  rintro e w1 ⟨hr | hr, b1⟩
  · obtain ⟨hg, rfl⟩ := hr
    have HB1 := hide b1
    clear b1
    go_wp2_with fail
    refine (implBinds_any w1 ab capb bs ((unhide HB).below (unhide HB1)) (unhide HSB)).mono ?_
    rintro e w2 ⟨hr | hr, b2⟩
    · exact absurd ⟨hg, hr.1⟩ (unhide HN)
    · obtain ⟨_, rfl⟩ := hr
      have HB2 := hide ((unhide HB1).trans (b2.mono (unhide HB1).size))
      clear b2
      go_wp2_with fail
      go_ret3
      exact ⟨rfl, unhide HB2⟩
  · obtain ⟨_, rfl⟩ := hr
    go_wp2_with fail
    go_ret3
    exact ⟨rfl, b1⟩
theorem implRun_any (w : World) (ac : Option Addr) (cap : Nat) (ns : List InsV) (ab : Option Addr) (capb : Nat) (bs : List BindV) (hc : InsIn w ac ns) (hs : InsOk ns) (hb : BindIn w ab bs) (hsb : BindOk bs) (hsh : ShapesIn w) (hsg : SignsIn w) :
    Calls Tryd.prog 9 #[.slice ac ns.length cap, .slice ab bs.length capb] w fun e w' => RetRun ns bs e ∧ Below w.heap.size w w' := by
  by_cases hg : CodeGood ns ∧ BindsGood bs
  · rcases hc with rfl | ⟨cb, off, rfl, hcb, hc⟩
    · exact absurd hg.1.1 (by simp)
    · exact implRun_ok w cb off cap ns ab capb bs hg.1 hg.2 hc hcb hs hb hsb hsh hsg
  · refine (implRun_bad w ac cap ns ab capb bs hg hc hs hb hsb hsh hsg).mono ?_
    rintro e w' ⟨rfl, h⟩
    exact ⟨.inl ⟨hg, rfl⟩, h⟩

end Go.Proofs.YtoehjbehfolekaaDoor
