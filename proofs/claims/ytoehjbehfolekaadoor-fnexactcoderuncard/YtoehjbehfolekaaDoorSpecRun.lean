/-
  CodeRun of the specification.
-/
import Derived.Test.YtoehjbehfolekaaDoorSMachRun
import Derived.Test.YtoehjbehfolekaaDoorGoes
import Derived.Test.YtoehjbehfolekaaDoorLoads
set_option linter.unusedVariables false
namespace Go.Proofs.YtoehjbehfolekaaDoor
open Go.RowKit Go.Maps Go.Deep

/-- what a run comes to, by what is asked ahead of it -/
def RetRun (ns : List InsV) (bs : List BindV) (e : Ending) : Prop :=
  (¬ (CodeGood ns ∧ BindsGood bs) ∧ e = .returned (triple (0, 0, 1))) ∨ (CodeGood ns ∧ BindsGood bs ∧ ¬ LoadsOk ns bs ∧ e = .returned (triple (0, 0, 2))) ∨
  (CodeGood ns ∧ BindsGood bs ∧ LoadsOk ns bs ∧ e = .returned (triple (VM.run ns (bvL bs) 400000 vm0)))
theorem retRun_same {ns : List InsV} {bs : List BindV} {e e' : Ending} (h : RetRun ns bs e) (h' : RetRun ns bs e') : ∃ r : Int × Int × Int, e = .returned (triple r) ∧ e' = .returned (triple r) := by
  rcases h with ⟨a, rfl⟩ | ⟨a, b, c, rfl⟩ | ⟨a, b, c, rfl⟩ <;> rcases h' with ⟨a', rfl⟩ | ⟨a', b', c', rfl⟩ | ⟨a', b', c', rfl⟩
  · exact ⟨_, rfl, rfl⟩
  · exact absurd ⟨a', b'⟩ a
  · exact absurd ⟨a', b'⟩ a
  · exact absurd ⟨a, b⟩ a'
  · exact ⟨_, rfl, rfl⟩
  · exact absurd c' c
  · exact absurd ⟨a, b⟩ a'
  · exact absurd c c'
  · exact ⟨_, rfl, rfl⟩

theorem made80 : (madeCells (Value.int .i64 0).cells (80 * 1)).toList = vm0.sl.map i64s := by kernel_rfl

set_option maxRecDepth 100000 in
set_option maxHeartbeats 6400000 in
theorem specRun_yes (w : World) (cb off cap : Nat) (ns : List InsV) (ab : Option Addr) (capb : Nat) (bs : List BindV) (hg : CodeGood ns) (hbg : BindsGood bs) (hld : LoadsOk ns bs) (hc : InsAt w cb off ns) (hcb : cb < w.heap.size) (hs : InsOk ns) (hb : BindIn w ab bs) (hsb : BindOk bs) :
    Calls Tryd.prog 6 #[.slice (some ⟨cb, off, none⟩) ns.length cap, .slice ab bs.length capb] w fun e w' => e = .returned (triple (VM.run ns (bvL bs) 400000 vm0)) ∧ Below w.heap.size w w' := by
  obtain ⟨i0, hi, hz0, hz1, hz2⟩ := info_parts infoIntS
  generalize hR : VM.run ns (bvL bs) 400000 vm0 = R
  have HR := hide hR
  have HG := hide hg
  have HBG := hide hbg
  have HLD := hide hld
  have HC := hide hc
  have HS := hide hs
  have HB := hide hb
  have HSB := hide hsb
  have hl : (ns.length : Int) ≤ 4000 := hg.2.1
  have hl40 : (bs.length : Int) ≤ 40 := hbg.1
  clear hg hbg hld hc hs hb hsb hR
  go_enter Tryd.func6, Tryd.ntmps6
  go_wp2_with fail
  refine (specCode_any w _ cap ns (.inr ⟨cb, off, rfl, hcb, unhide HC⟩) (unhide HS)).mono ?_
  rintro e w1 ⟨hr | hr, b1⟩
  · obtain ⟨_, rfl⟩ := hr
    have HB1 := hide b1
    clear b1
    go_wp2_with fail
    refine (specBinds_any w1 ab capb bs ((unhide HB).below (unhide HB1)) (unhide HSB)).mono ?_
    rintro e w2 ⟨hr | hr, b2⟩
    · obtain ⟨_, rfl⟩ := hr
      have HB2 := hide ((unhide HB1).trans (b2.mono (unhide HB1).size))
      clear b2
      go_wp2_with fail
      refine (l4Loads_any w2 cb off cap ab capb ns bs hl hl40 ((unhide HC).below (unhide HB2) hcb) ((unhide HB).below (unhide HB2))).mono ?_
      rintro e w3 ⟨hr | hr, nn, hw3⟩
      · obtain ⟨_, rfl⟩ := hr
        have HB3 := hide (show Below w.heap.size w w3 by rw [hw3]; exact below_dn (unhide HB2) nn)
        have hz3 := (unhide HB3).size
        clear hw3
        go_wp2_with (at_make; refine wpList_make_full _ rfl _ _ 45 rfl w.heap.size 3 i0 _ 1 Tryd.underlying45 hi hz0 hz1 _ _ _ _ 80 rfl rfl rfl rfl (by rw [hz2]; omega) (by unfold maxLen; omega) hz3 ?_; intro w4 hown hgrow)
        have HB4 := hide ((unhide HB3).grown hgrow hz3 (fun k hk => by cases hk))
        have hz4 := (hown.lt w3.heap.size rfl).2
        rw [made80] at hown
        have HSM : Hid (SMach w.heap.size w4.heap.size w3.heap.size vm0.st vm0.sl vm0.tk false false (w4.alloc (.cells #[.slice none 0 0, .slice (some ⟨w3.heap.size, 0, none⟩) 80 80, .int .i64 0, .bool false, .bool false] 47))) :=
          hide ⟨.slice none 0 0, ⟨(unhide HB4).size, heap_alloc_new w4 _, World.ownsRow_nil _ _ _ _, ownsRow_up hown ((Below.refl w4.heap.size w4).alloc (Nat.le_refl _) _), by simp [Value.ownBlock], by simp [vm0]⟩⟩
        have HB5 := hide ((unhide HB4).alloc (unhide HB4).size (.cells #[.slice none 0 0, .slice (some ⟨w3.heap.size, 0, none⟩) 80 80, .int .i64 0, .bool false, .bool false] 47))
        have hzz : w.heap.size ≤ w4.heap.size := (unhide HB4).size
        have HZ5 := hide (unhide HB5).size
        clear hown hgrow
        go_wp2_with fail
        generalize hbk : w4.heap.size = b at *
        generalize hgk : w3.heap.size = g at *
        clear hbk hgk
        go_loopw [8, 9] (fun at' i wr => ∃ (k : Nat) (m : VM), k ≤ 400000 ∧ at' = .int .i64 m.pc ∧ i = .int .i64 k ∧ Hid (SMach w.heap.size b g m.st m.sl m.tk false false wr) ∧ Hid (m.Ok ns.length) ∧ Hid (VM.run ns (bvL bs) (400000 - k) m = R) ∧ w.heap.size ≤ wr.heap.size ∧ Hid (Below w.heap.size w wr)) (fun _ i _ => 400001 - (intOf i).toNat)
        case atStart => exact ⟨0, vm0, Nat.zero_le _, rfl, rfl, HSM, vm0_ok _, HR, unhide HZ5, HB5⟩
        case round =>
          obtain ⟨k, m, hk, rfl, rfl, HMr, HOr, HRr, hzr, HBr⟩ := hrel
          have hpc : (m.pc : Int) ≤ ns.length := by have := (unhide HOr).place; omega
          by_cases hlt : m.pc < ns.length
          · have hlt' : (m.pc : Int) < ns.length := by omega
            by_cases hk4 : k = 400000
            · subst hk4
              have hR4 := hide (show R = (0, 0, 4) by have := unhide HRr; rw [← this]; exact run_zero ns _ m hlt)
              obtain rfl := unhide hR4
              go_wp2_with fail
              go_ret3
              exact ⟨rfl, unhide HBr⟩
            · have hk' : ((k : Int) == 400000) = false := by simp; omega
              have hkk : (k : Int) ≤ 399999 := by omega
              obtain ⟨c0, c1, c2⟩ := unhide HC m.pc hlt
              rw [← (unhide HBr).cell (by exact hcb)] at c0 c1 c2
              have HI := hide ((unhide HG).2.2 m.pc hlt hlt)
              have HA := hide (show ranged ns[m.pc].a1 from (unhide HS _ (List.getElem_mem hlt)).2.2)
              have HGO := hide (goes_of (f := 400000 - (k + 1)) (R := R) hlt (by rw [show 400000 - (k + 1) + 1 = 400000 - k by omega]; exact unhide HRr))
              generalize ns[m.pc].a0 = op at c0 HI HGO
              generalize ns[m.pc].a1 = av at c1 HI HA HGO
              generalize ns[m.pc].a2 = nm at c2 HI HGO
              have HDO := hide (sdo_any w.heap.size b g m op av nm bs ab capb ns.length wr (unhide HMr) hzr (unhide HOr) (by omega) (unhide HI) hl40 ((unhide HB).below (unhide HBr)))
              have HOK' := hide (fun m' (e : m.stepI (bvL bs) op av nm = .on m') => show m'.Ok ns.length by
                unfold VM.stepI at e
                split at e
                · cases e
                · rename_i hsp
                  exact do_ok (m := m.next) (next_ok (unhide HOr) hlt) (fun e => by have h1 := (unhide HOr).ticks; show m.tk < 20000; have : ¬ m.tk = 20000 := fun h => hsp ⟨e, h⟩; omega) (bvL_ranged bs (unhide HSB)) (unhide HA) (place_fits (unhide HI)) e)
              generalize hO : m.stepI (bvL bs) op av nm = O at HDO HOK' HGO
              clear hO HI HMr
              go_wp2_with fail
              refine (unhide HDO).mono ?_
              rintro e w6 ⟨hd, hb6⟩
              have HB6 := hide ((unhide HBr).trans hb6)
              have hz6 := hb6.size
              clear hb6 HDO
              rcases hd with ⟨m', hm', rfl, hM'⟩ | ⟨hm', r', st', sl', tk', rfl, hM'⟩ | ⟨hm', st', sl', rfl, hM'⟩
              · have HM3 := hide hM'
                have HO3 := hide (unhide HOK' m' hm')
                have HR3 := hide ((unhide HGO).on m' hm')
                obtain ⟨v', hA'⟩ := hM'
                have d3 := hA'.c3
                have d4 := hA'.c4
                clear hA' hm'
                go_wp2_with fail
                go_roundw
                case rel => exact ⟨k + 1, m', by omega, rfl, by go_num, HM3, HO3, HR3, by omega, HB6⟩
                case measure => simp [intOf]; omega
              · have hR3 := hide ((unhide HGO).stuck hm')
                obtain rfl := unhide hR3
                obtain ⟨v', hA'⟩ := hM'
                have d3 := hA'.c3
                have d4 := hA'.c4
                clear hA' hm'
                go_wp2_with fail
                go_ret3
                exact ⟨rfl, unhide HB6⟩
              · have hR3 := hide ((unhide HGO).spent hm')
                obtain rfl := unhide hR3
                obtain ⟨v', hA'⟩ := hM'
                have d3 := hA'.c3
                have d2 : w6.drew.cell? ⟨b, 2, none⟩ = some (.int .i64 (20000 : Nat)) := hA'.c2
                clear hA' hm'
                go_wp2_with fail
                go_region_held3 (fun w' => w' = w6.drew) (rfl) (fail)
                go_wp2
                go_ret3
                exact ⟨rfl, (unhide HB6).drew⟩
          · have hlt' : ¬ (m.pc : Int) < ns.length := by omega
            have hR4 := hide (show R = m.fin by have := unhide HRr; rw [← this]; exact run_end ns _ _ m hlt)
            obtain ⟨v, hA⟩ := unhide HMr
            obtain ⟨ao, cap2, rfl⟩ := hA.form
            have d0 := hA.c0
            by_cases h1 : m.st.length = 1
            · obtain ⟨x, hx⟩ := List.length_eq_one_iff.1 h1
              have hf := hide (show R = (x, (m.tk : Int), 0) by rw [unhide hR4]; unfold VM.fin; rw [hx])
              obtain rfl := unhide hf
              have hrow := hA.row
              rw [h1] at hrow d0
              obtain ⟨gs, hao⟩ : ∃ gs, ao = some ⟨gs, 0, none⟩ := by
                rcases hrow.2 with ⟨hv, h0⟩ | ⟨g', cap', cur, hv, _⟩
                · omega
                · injection hv with hv _ _; exact ⟨_, hv⟩
              subst hao
              have e0 : wr.drew.cell? ⟨gs, 0, none⟩ = some (.int .i64 x) := by
                show wr.cell? ⟨gs, 0, none⟩ = _
                rw [hrow.cellAt 0 (by omega), hx]; rfl
              have e1 : wr.drew.cell? ⟨b, 0, none⟩ = some (.slice (some ⟨gs, 0, none⟩) 1 cap2) := d0
              have e2 : wr.drew.cell? ⟨b, 2, none⟩ = some (.int .i64 m.tk) := hA.c2
              clear hA hrow hx h1 hR4 HMr
              go_wp2_with fail
              go_region_held3 (fun w' => w' = wr.drew) (rfl) (fail)
              go_wp2
              go_ret3
              exact ⟨rfl, (unhide HBr).drew⟩
            · have hf := hide (show R = (0, 0, 4) by
                rw [unhide hR4]
                unfold VM.fin
                match hst : m.st, h1 with
                | [], _ => rfl
                | [x], h1 => exact absurd rfl h1
                | x :: y :: t, _ => rfl)
              obtain rfl := unhide hf
              have hne : ((m.st.length : Int) != 1) = true := by simp; omega
              clear hA h1 hR4 HMr
              go_wp2_with fail
              go_ret3
              exact ⟨rfl, unhide HBr⟩
      · exact absurd (unhide HLD) hr.1
    · exact absurd (unhide HBG) hr.1
  · exact absurd (unhide HG) hr.1

set_option maxHeartbeats 1600000 in
theorem specRun_bad (w : World) (ac : Option Addr) (cap : Nat) (ns : List InsV) (ab : Option Addr) (capb : Nat) (bs : List BindV) (hn : ¬ (CodeGood ns ∧ BindsGood bs)) (hc : InsIn w ac ns) (hs : InsOk ns) (hb : BindIn w ab bs) (hsb : BindOk bs) :
    Calls Tryd.prog 6 #[.slice ac ns.length cap, .slice ab bs.length capb] w fun e w' => e = .returned (triple (0, 0, 1)) ∧ Below w.heap.size w w' := by
  have HN := hide hn
  have HC := hide hc
  have HS := hide hs
  have HB := hide hb
  have HSB := hide hsb
  clear hn hc hs hb hsb
  go_enter Tryd.func6, Tryd.ntmps6
  go_wp2_with fail
  refine (specCode_any w ac cap ns (unhide HC) (unhide HS)).mono ?_
  rintro e w1 ⟨hr | hr, b1⟩
  · obtain ⟨hg, rfl⟩ := hr
    have HB1 := hide b1
    clear b1
    go_wp2_with fail
    refine (specBinds_any w1 ab capb bs ((unhide HB).below (unhide HB1)) (unhide HSB)).mono ?_
    rintro e w2 ⟨hr | hr, b2⟩
    · exact absurd ⟨hg, hr.1⟩ (unhide HN)
    · obtain ⟨_, rfl⟩ := hr
      have HB2 := hide ((unhide HB1).trans (b2.mono (unhide HB1).size))
      clear b2
      go_wp2_with fail
      go_ret3
      exact ⟨rfl, unhide HB2⟩
  · obtain ⟨_, rfl⟩ := hr
    go_wp2_with fail
    go_ret3
    exact ⟨rfl, b1⟩
set_option maxHeartbeats 1600000 in
theorem specRun_free (w : World) (cb off cap : Nat) (ns : List InsV) (ab : Option Addr) (capb : Nat) (bs : List BindV) (hg : CodeGood ns) (hbg : BindsGood bs) (hld : ¬ LoadsOk ns bs) (hc : InsAt w cb off ns) (hcb : cb < w.heap.size) (hs : InsOk ns) (hb : BindIn w ab bs) (hsb : BindOk bs) :
    Calls Tryd.prog 6 #[.slice (some ⟨cb, off, none⟩) ns.length cap, .slice ab bs.length capb] w fun e w' => e = .returned (triple (0, 0, 2)) ∧ Below w.heap.size w w' := by
  have HG := hide hg
  have HBG := hide hbg
  have HLD := hide hld
  have HC := hide hc
  have HS := hide hs
  have HB := hide hb
  have HSB := hide hsb
  have hl : (ns.length : Int) ≤ 4000 := hg.2.1
  have hl40 : (bs.length : Int) ≤ 40 := hbg.1
  clear hg hbg hld hc hs hb hsb
  go_enter Tryd.func6, Tryd.ntmps6
  go_wp2_with fail
  refine (specCode_any w _ cap ns (.inr ⟨cb, off, rfl, hcb, unhide HC⟩) (unhide HS)).mono ?_
  rintro e w1 ⟨hr | hr, b1⟩
  · obtain ⟨_, rfl⟩ := hr
    have HB1 := hide b1
    clear b1
    go_wp2_with fail
    refine (specBinds_any w1 ab capb bs ((unhide HB).below (unhide HB1)) (unhide HSB)).mono ?_
    rintro e w2 ⟨hr | hr, b2⟩
    · obtain ⟨_, rfl⟩ := hr
      have HB2 := hide ((unhide HB1).trans (b2.mono (unhide HB1).size))
      clear b2
      go_wp2_with fail
      refine (l4Loads_any w2 cb off cap ab capb ns bs hl hl40 ((unhide HC).below (unhide HB2) hcb) ((unhide HB).below (unhide HB2))).mono ?_
      rintro e w3 ⟨hr | hr, nn, hw3⟩
      · exact absurd hr.1 (unhide HLD)
      · obtain ⟨_, rfl⟩ := hr
        have HB3 := hide (show Below w.heap.size w w3 by rw [hw3]; exact below_dn (unhide HB2) nn)
        clear hw3
        go_wp2_with fail
        go_ret3
        exact ⟨rfl, unhide HB3⟩
    · exact absurd (unhide HBG) hr.1
  · exact absurd (unhide HG) hr.1
theorem specRun_any (w : World) (ac : Option Addr) (cap : Nat) (ns : List InsV) (ab : Option Addr) (capb : Nat) (bs : List BindV) (hc : InsIn w ac ns) (hs : InsOk ns) (hb : BindIn w ab bs) (hsb : BindOk bs) :
    Calls Tryd.prog 6 #[.slice ac ns.length cap, .slice ab bs.length capb] w fun e w' => RetRun ns bs e ∧ Below w.heap.size w w' := by
  by_cases hg : CodeGood ns ∧ BindsGood bs
  · rcases hc with rfl | ⟨cb, off, rfl, hcb, hc⟩
    · exact absurd hg.1.1 (by simp)
    · by_cases hld : LoadsOk ns bs
      · refine (specRun_yes w cb off cap ns ab capb bs hg.1 hg.2 hld hc hcb hs hb hsb).mono ?_
        rintro e w' ⟨rfl, h⟩
        exact ⟨.inr (.inr ⟨hg.1, hg.2, hld, rfl⟩), h⟩
      · refine (specRun_free w cb off cap ns ab capb bs hg.1 hg.2 hld hc hcb hs hb hsb).mono ?_
        rintro e w' ⟨rfl, h⟩
        exact ⟨.inr (.inl ⟨hg.1, hg.2, hld, rfl⟩), h⟩
  · refine (specRun_bad w ac cap ns ab capb bs hg hc hs hb hsb).mono ?_
    rintro e w' ⟨rfl, h⟩
    exact ⟨.inl ⟨hg, rfl⟩, h⟩

end Go.Proofs.YtoehjbehfolekaaDoor
