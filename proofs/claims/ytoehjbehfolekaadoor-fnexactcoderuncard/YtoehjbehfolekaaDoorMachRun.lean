/-
  The program's machine runs: instruction by instruction, to what the plain machine comes to.
-/
import Derived.Test.YtoehjbehfolekaaDoorMachAny
import Derived.Test.YtoehjbehfolekaaDoorVals
import Derived.Test.YtoehjbehfolekaaDoorGoes
set_option linter.unusedVariables false
namespace Go.Proofs.YtoehjbehfolekaaDoor
open Go.RowKit Go.Maps Go.Deep

set_option maxRecDepth 100000 in
set_option maxHeartbeats 6400000 in
theorem mrun_any (w : World) (B b sg vb nb : Nat) (D : DataW Unit) (bv : ByteArray → Int) (cb off cap : Nat) (ns : List InsV) (m0 : VM)
    (hM : Mach B b sg vb nb D m0 w) (hok : m0.Ok ns.length) (htl : Tells D bv) (hbv : ∀ s, ranged (bv s)) (hg : CodeGood ns) (hs : InsOk ns) (hc : InsAt w cb off ns) (hcb : cb < B) (hBw : B ≤ w.heap.size) :
    Calls Tryd.prog 25 #[.pointer (some ⟨b, 0, none⟩), .slice (some ⟨cb, off, none⟩) ns.length cap] w fun e w' => e = .returned (triple (VM.run ns bv 400000 m0)) ∧ Below B w w' := by
  generalize hR : VM.run ns bv 400000 m0 = R
  have HR := hide hR
  have HM := hide hM
  have HOK := hide hok
  have HT := hide htl
  have HBV := hide hbv
  have HG := hide hg
  have HS := hide hs
  have HC := hide hc
  have hl : (ns.length : Int) ≤ 4000 := hg.2.1
  clear hM hok htl hbv hg hs hc hR
  go_enter Tryd.func25, Tryd.ntmps25
  go_wp2_with fail
  go_loopw [7] (fun i wr => ∃ (k : Nat) (m : VM), k ≤ 400000 ∧ i = .int .i64 k ∧ Hid (Mach B b sg vb nb D m wr) ∧ Hid (m.Ok ns.length) ∧ Hid (VM.run ns bv (400000 - k) m = R) ∧ B ≤ wr.heap.size ∧ Hid (Below B w wr)) (fun i _ => 400001 - (intOf i).toNat)
  case atStart => exact ⟨0, m0, Nat.zero_le _, rfl, HM, HOK, HR, hBw, Below.refl _ _⟩
  case round =>
    obtain ⟨k, m, hk, rfl, HMr, HOr, HRr, hzr, HBr⟩ := hrel
    obtain ⟨v, hA⟩ := unhide HMr
    have e84 := hA.pc
    have hpc : (m.pc : Int) ≤ ns.length := by have := (unhide HOr).place; omega
    have hBb := hA.low
    have hbl := hA.lt
    by_cases hlt : m.pc < ns.length
    · have hlt' : (m.pc : Int) < ns.length := by omega
      by_cases hk4 : k = 400000
      · subst hk4
        have hR4 := hide (show R = (0, 0, 4) by have := unhide HRr; rw [← this]; exact run_zero ns bv m hlt)
        obtain rfl := unhide hR4
        clear hA
        go_wp2_with fail
        go_ret3
        exact ⟨rfl, unhide HBr⟩
      · have hk' : ((k : Int) == 400000) = false := by simp; omega
        have hkk : (k : Int) ≤ 399999 := by omega
        obtain ⟨c0, c1, c2⟩ := unhide HC m.pc hlt
        rw [← (unhide HBr).cell (by exact hcb)] at c0 c1 c2
        have HI := hide ((unhide HG).2.2 m.pc hlt hlt)
        have HN := hide (show ns[m.pc].a2.size ≤ maxLen from (unhide HS _ (List.getElem_mem hlt)).1)
        have HA := hide (show ranged ns[m.pc].a1 from (unhide HS _ (List.getElem_mem hlt)).2.2)
        have HGO := hide (goes_of (f := 400000 - (k + 1)) (R := R) hlt (by rw [show 400000 - (k + 1) + 1 = 400000 - k by omega]; exact unhide HRr))
        generalize ns[m.pc].a0 = op at c0 HI HGO
        generalize ns[m.pc].a1 = av at c1 HI HA HGO
        generalize ns[m.pc].a2 = nm at c2 HI HN HGO
        have e85 := hA.tk
        have f84 := hA.free 84
        by_cases hsp : op = 1 ∧ m.tk = 20000
        · obtain ⟨rfl, htk⟩ := hsp
          have hR3 := hide ((unhide HGO).spent (by unfold VM.stepI; rw [if_pos ⟨rfl, htk⟩]))
          obtain rfl := unhide hR3
          rw [htk] at e85
          have hbF := hide ((unhide HBr).alloc hzr (.cells #[.int .i64 1, .int .i64 av, .string nm] 49))
          clear hA htk HMr
          go_wp2_with fail
          go_ret3
          exact ⟨rfl, unhide hbF⟩
        · have HST := hide (show m.stepI bv op av nm = m.next.do bv op av nm by unfold VM.stepI; rw [if_neg hsp])
          have hP := hA.put 84 (.int .i64 ((m.pc : Int) + 1)) m.next v (by rw [← Int.natCast_succ]; exact set_pc _ _ _ _ _ hA.len) hA.len hA.row hA.apart
          have HP := hide (show Mach B b sg vb nb D m.next ((wr.setCell ⟨b, 84, none⟩ (.int .i64 ((m.pc : Int) + 1))).alloc (.cells #[.int .i64 op, .int .i64 av, .string nm] 49)) from ⟨v, hP.below ((Below.refl (wr.setCell ⟨b, 84, none⟩ (.int .i64 ((m.pc : Int) + 1))).heap.size _).alloc (Nat.le_refl _) _)⟩)
          have HBB := hide (((unhide HBr).setCell (p := ⟨b, 84, none⟩) hBb (.int .i64 ((m.pc : Int) + 1))).alloc (by simpa using hzr) (.cells #[.int .i64 op, .int .i64 av, .string nm] 49))
          have HDO := hide (do_any B b sg vb nb D m.next op av nm bv ns.length _ (unhide HP) (by have := hzr; simp; omega) (next_ok (unhide HOr) hlt) (unhide HI) (unhide HA) (unhide HN) (unhide HT))
          have HOK' := hide (fun m' => do_ok (m := m.next) (m' := m') (bv := bv) (op := op) (a := av) (s := nm) (next_ok (unhide HOr) hlt) (fun e => by have h1 := (unhide HOr).ticks; show m.tk < 20000; have : ¬ m.tk = 20000 := fun h => hsp ⟨e, h⟩; omega) (unhide HBV) (unhide HA) (place_fits (unhide HI)))
          have HGO2 := hide (show Goes ns bv (400000 - (k + 1)) R (m.next.do bv op av nm) by rw [← unhide HST]; exact unhide HGO)
          generalize hO : m.next.do bv op av nm = O at HDO HOK' HGO2
          have hcond : (op == 1) = false ∨ ((op == 1) = true ∧ ((m.tk : Int) == 20000) = false) := by
            by_cases e : op = 1
            · exact .inr ⟨by simpa using e, by simp; intro h; exact hsp ⟨e, by omega⟩⟩
            · exact .inl (by simpa using e)
          clear hA hP hsp HST HP hO HGO HMr HI
          rcases hcond with q | ⟨q, q2⟩
          all_goals
            go_wp2_with (first
              | (go_at_call 41; refine (unhide HDO).mono ?_; rintro e w3 ⟨hd, hb3⟩; have HB3 := hide ((unhide HBB).trans (hb3.mono (Nat.le_refl _))); have hz3 := hb3.size; rcases hd with ⟨m', hm', rfl, hM'⟩ | ⟨hm', rfl⟩)
              | go_in)
            · simp at hz3
              have HM3 := hide hM'
              have HO3 := hide (unhide HOK' m' hm')
              have HR3 := hide ((unhide HGO2).on m' hm')
              clear hM' hm' hb3
              go_roundw
              case rel => exact ⟨k + 1, m', by omega, by go_num, HM3, HO3, HR3, by omega, HB3⟩
              case measure => simp [intOf]; omega
            · have hR3 := hide ((unhide HGO2).stuck hm')
              obtain rfl := unhide hR3
              go_ret3
              exact ⟨rfl, unhide HB3⟩
    · have hlt' : ¬ (m.pc : Int) < ns.length := by omega
      have hR4 := hide (show R = m.fin by have := unhide HRr; rw [← this]; exact run_end ns bv _ m hlt)
      have HD := hide (show Mach B b sg vb nb D m wr from ⟨v, hA⟩)
      by_cases h0 : m.st = []
      · have hf := hide (show R = (0, 0, 4) by rw [unhide hR4]; unfold VM.fin; rw [h0])
        obtain rfl := unhide hf
        clear hA HMr hR4
        go_wp2_with (first
          | (go_at_call 42; refine (mpop_none B b sg vb nb D m _ (unhide HD) h0).mono ?_; rintro e w2 ⟨rfl, rfl⟩)
          | go_in)
        go_ret3
        exact ⟨rfl, unhide HBr⟩
      · clear hA HMr
        go_wp2_with fail
        refine (mpop_some B b sg vb nb D m _ (unhide HD) h0 (unhide HOr).room).mono ?_
        rintro e w2 ⟨rfl, hM2, hb2, u2, hw2⟩
        obtain ⟨v2, hA2⟩ := hM2
        have HB2 := hide ((unhide HBr).trans hb2)
        have d2 := hA2.c2
        have d85 : w2.cell? ⟨b, 85, none⟩ = some (.int .i64 m.tk) := hA2.tk
        have d85' : w2.drew.cell? ⟨b, 85, none⟩ = some (.int .i64 m.tk) := hA2.tk
        obtain ⟨ao, cap2, hv2⟩ : ∃ ao cap2, v2 = .slice ao (m.st.dropLast).length cap2 := by
          rcases hA2.row.2 with ⟨hv, h0⟩ | ⟨g, cap, cur, hv, _⟩
          · exact ⟨_, _, by rw [hv]; simp only at h0; rw [h0]⟩
          · exact ⟨_, _, hv⟩
        subst hv2
        have HL := hide (last_split m.st h0)
        generalize m.st.getLastD 0 = x at HL ⊢
        clear hA2 hw2 hb2 HD
        by_cases h1 : m.st.dropLast = []
        · have hf := hide (show R = (x, (m.tk : Int), 0) by rw [unhide hR4]; unfold VM.fin; rw [unhide HL, h1]; rfl)
          obtain rfl := unhide hf
          rw [h1] at d2
          simp only [List.length_nil] at d2
          clear h0 h1 hR4
          go_wp2_with fail
          go_region_held3 (fun w' => w' = w2.drew) (rfl) (fail)
          go_wp2
          go_ret3
          exact ⟨rfl, (unhide HB2).drew⟩
        · have hpos := List.length_pos_iff.2 h1
          have hf := hide (show R = (0, 0, 4) by
            rw [unhide hR4]
            unfold VM.fin
            rw [unhide HL]
            cases hd : m.st.dropLast with
            | nil => exact absurd hd h1
            | cons y ys => cases ys <;> rfl)
          obtain rfl := unhide hf
          have hp' : (0 : Int) < (m.st.dropLast).length := by omega
          generalize (m.st.dropLast).length = nn at d2 hp' hpos
          clear h0 h1 hR4
          go_wp2_with fail
          go_ret3
          exact ⟨rfl, unhide HB2⟩

end Go.Proofs.YtoehjbehfolekaaDoor
