/-
  StampOnly of the program.
-/
import Derived.Test.YtmgmmgjlagkdoaaOnlyS
import Derived.Test.YtmgmmgjlagkdoaaMarkOwn
set_option linter.unusedVariables false
namespace Go.Proofs.Ytmgmmgjlagkdoaa
open Go.RowKit Go.Maps Go.Deep

theorem contains_has (names : List ByteArray) (s : ByteArray) : Lib.containsS names s = hasB names s := by
  rw [Bool.eq_iff_iff, Lib.containsS_iff]
  unfold hasB
  rw [List.any_eq_true]
  constructor
  · intro h
    exact ⟨s, h, by simp⟩
  · rintro ⟨t, ht, e⟩
    obtain rfl : t = s := by simpa using e
    exact ht
theorem contains_any (names : List ByteArray) (v : Value) (s : ByteArray) (w : World) (hl : names.length ≤ 1048576) (h : StringSRd w v names) :
    Calls Try.prog 27 #[v, .string s] w fun e w' => e = .returned (.bool (hasB names s)) ∧ w' = w := by
  obtain ⟨a, c, rfl, h⟩ := h
  rcases h with rfl | ⟨b, off, rfl, hb, hc⟩
  · exact Try.slices_Contains_string_empty a c s w
  · refine (Try.slices_Contains_string b off names.length c names s w (Nat.le_refl _) (by omega) (fun j hj => by
      rw [hc j hj]
      simp [hj])).mono ?_
    rintro e w' ⟨rfl, rfl⟩
    rw [List.take_length, contains_has]
    exact ⟨rfl, rfl⟩
set_option maxRecDepth 20000 in
set_option maxHeartbeats 6400000 in
theorem implOnly_yes (a b : Option Addr) (ca cb : Nat) (ns : List MarkV) (names : List ByteArray) (w : World) (hsa : SmallMarkS ns) (hsb : SmallStringS names) (oa : mstampB ns = true) (hA : MarkIn w a ns) (hB : StrsIn w b names) :
    Calls Try.prog 7 #[.slice a ns.length ca, .slice b names.length cb] w fun e w' => RetOnly ns names w e w' := by
  have HO1 := hide (fun W (bb : Below w.heap.size w W) => implStampOk_any ns (.slice a ns.length ca) W hsa ⟨a, ca, rfl, hA.below bb⟩)
  have HN := hide (fun (s : ByteArray) W (bb : Below w.heap.size w W) => contains_any names (.slice b names.length cb) s W hsb.1 ⟨b, cb, rfl, hB.below bb⟩)
  have HE := hide (show onlyV ns names = onlyL names ns by unfold onlyV; rw [oa]; rfl)
  have HA := hide hA
  have HSZ := hide hsa.1.2
  have hla := onlyLen12 oa
  rw [oa] at HO1
  clear hA hB hsa hsb oa
  go_enter Try.func7, Try.ntmps7
  go_wp2_with fail
  refine (unhide HO1 _ (Below.refl _ _)).mono ?_
  rintro e w1 ⟨rfl, b1⟩
  have B1 := hide b1
  clear b1 HO1
  go_wp2_with fail
  go_loopw [5, 13] (fun v i wr => ∃ (k : Nat) (out : List MarkV), k ≤ ns.length ∧ i = .int .i64 k ∧ Hid (out = onlyL names (ns.take k)) ∧ Hid (MkRow w.heap.size wr v out) ∧ Hid (Below w.heap.size w wr)) (fun _ i _ => ns.length - (intOf i).toNat)
  case atStart => exact ⟨0, [], Nat.zero_le _, rfl, hide (by simp [onlyL]), MkRow.nil _ _, B1⟩
  case round =>
    obtain ⟨k, out, hk, rfl, HOU, HR, HBr⟩ := hrel
    have hlo : out.length ≤ 12 := by have h1 := onlyL_len names (ns.take k); rw [← unhide HOU] at h1; simp at h1; omega
    obtain ⟨av, cv, hv⟩ := (unhide HR).slice
    subst hv
    by_cases hlt : k < ns.length
    · rcases unhide HA with rfl | ⟨ba, oa, rfl, hba, hca⟩
      · simp at hlt
      have HT := hide (onlyL_take names ns k hlt)
      rw [← unhide HOU] at HT
      obtain ⟨c0, c1⟩ := hca.below (unhide HBr) hba k hlt
      have hms := unhide HSZ _ (List.getElem_mem hlt)
      obtain ⟨m, hm⟩ : ∃ m, ns[k] = m := ⟨_, rfl⟩
      simp only [hm] at c0 c1 HT hms
      have HCA := hide hca
      clear hca HOU hm
      obtain ⟨m0, m1⟩ := m
      simp only at c0 c1 HT hms
      obtain ⟨bx, bb, zz⟩ := boxNew2 wr (.string m0) (.int .i64 m1) 45
      have HOWN := hide (fun X => markOwn_any m0 m1 X hms)
      have HNm := hide (fun X bX => unhide HN m0 X bX)
      clear hms
      obtain ⟨d0, d1⟩ := bx.two
      go_wp2_with fail
      generalize wr.alloc (.cells #[.string m0, .int .i64 m1] 45) = W1 at *
      have BW := hide ((unhide HBr).trans (bb.mono (unhide HBr).size))
      have RW := hide ((unhide HR).up bb)
      clear bx bb zz c0 c1
      cases hh : hasB names m0
      · rw [hh] at HT HNm
        simp only [Bool.false_eq_true, if_false] at HT
        refine (unhide HNm _ (unhide BW)).mono ?_
        rintro e w2 ⟨rfl, hw⟩
        rw [hw]
        clear hw hh
        go_wp2_with fail
        go_roundw
        case rel => exact ⟨k + 1, out, by omega, by go_num, hide (unhide HT).symm, RW, BW⟩
        case measure => simp [intOf]; omega
      · rw [hh] at HT HNm
        simp only [if_true] at HT
        refine (unhide HNm _ (unhide BW)).mono ?_
        rintro e w2 ⟨rfl, hw⟩
        rw [hw]
        clear hw hh
        go_wp2_with fail
        refine (unhide HOWN _).mono ?_
        rintro e w3 ⟨rfl, b3⟩
        have B3 := hide ((unhide BW).trans (b3.mono (unhide BW).size))
        have R3 := hide ((unhide RW).up b3)
        clear b3 d0 d1
        have hz1 : w.heap.size ≤ (w3.alloc (.cells #[.string m0, .int .i64 m1] 45)).heap.size := by have := (unhide B3).size; simp; omega
        have RA1 := hide ((unhide R3).up ((Below.refl _ _).alloc (Nat.le_refl _) (.cells #[.string m0, .int .i64 m1] 45)))
        have BA1 := hide ((unhide B3).alloc (unhide B3).size (.cells #[.string m0, .int .i64 m1] 45))
        have ca1 : (w3.alloc (.cells #[.string m0, .int .i64 m1] 45)).cell? ⟨w3.heap.size, 0, none⟩ = some (.string m0) := World.cell?_alloc_at _ _ _ _ rfl
        have cb1 : (w3.alloc (.cells #[.string m0, .int .i64 m1] 45)).cell? ⟨w3.heap.size, 1, none⟩ = some (.int .i64 m1) := World.cell?_alloc_at _ _ _ _ rfl
        go_wp2_with (first
          | (at_builtin; have _g := RA1; refine wpList_markAppend rfl _ _ rfl w.heap.size (.slice av out.length cv) out ⟨m0, m1⟩ w3.heap.size rfl rfl (unhide RA1) ca1 cb1 (by omega) hz1 ?_; intro g1 n1 cp1 X1 hr1 hg1 hlie1; have RX1 := hide hr1; have BX1 := hide ((unhide BA1).grown hg1 (unhide BA1).size (fun q hq => (unhide RA1).ge q hq)); clear hr1 hg1 hlie1 RA1 BA1)
          | fail)
        clear ca1 cb1 hz1
        go_roundw
        case rel => exact ⟨k + 1, _, by omega, by go_num, hide (unhide HT).symm, RX1, BX1⟩
        case measure => simp [intOf]; omega
    · obtain rfl : k = ns.length := by omega
      rw [List.take_length] at HOU
      go_wp2_with fail
      go_ret
      exact ⟨_, rfl, hide (by rw [unhide HE, ← unhide HOU]; exact unhide HR), unhide HBr⟩
end Go.Proofs.Ytmgmmgjlagkdoaa
