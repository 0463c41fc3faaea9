/-
  CodeOk of both sides.
-/
import Derived.Test.YtoehjbehfolekaaDoorCodeSpec
set_option linter.unusedVariables false
namespace Go.Proofs.YtoehjbehfolekaaDoor
open Go.RowKit Go.Maps Go.Deep

theorem code_short {xs : List InsV} (h : (xs.length : Int) < 1) : ¬ CodeGood xs := fun g => by have := g.1; omega
theorem code_long {xs : List InsV} (h : 4000 < (xs.length : Int)) : ¬ CodeGood xs := fun g => by have := g.2.1; omega

set_option maxHeartbeats 1600000 in
theorem implCode_row (w : World) (b off cap : Nat) (ns : List InsV) (hl1 : (1 : Int) ≤ ns.length) (hl : (ns.length : Int) ≤ 4000) (hc : InsAt w b off ns) (hb : b < w.heap.size) (hs : InsOk ns) (hsh : ShapesIn w) (hsg : SignsIn w) :
    Calls Tryd.prog 20 #[.slice (some ⟨b, off, none⟩) ns.length cap] w fun e w' => RetCode ns e ∧ Below w.heap.size w w' := by
  have HS := hide hs
  have HC := hide hc
  have HSH := hide hsh
  have HSG := hide hsg
  clear hs hc hsh hsg
  go_enter Tryd.func20, Tryd.ntmps20
  go_wp2_with fail
  refine (newKeySet_any _).mono ?_
  rintro e w1 ⟨rfl, hown, hbel⟩
  have HK := hide hown
  have hz := hown.lt
  have HB := hide hbel
  have hz1 := hbel.size
  clear hown hbel
  go_wp2_with fail
  go_loopw [17] (fun i wr => ∃ k : Nat, k ≤ ns.length ∧ i = .int .i64 k ∧ w.heap.size < wr.heap.size ∧ Hid (CodeTo ns k) ∧ Hid (wr.ownsMap Tryd.prog 9 (unitElem (H := Unit)) w.heap.size 15 (setOf (.agg []) keyLits)) ∧ Hid (Below w.heap.size w wr)) (fun i _ => ns.length - (intOf i).toNat)
  case atStart => exact ⟨0, Nat.zero_le _, rfl, hz, code_zero ns, HK, HB⟩
  case round =>
    obtain ⟨k, hk, rfl, hzr, HG, HKr, HBr⟩ := hrel
    by_cases hlt : k < ns.length
    · obtain ⟨c0, c1, c2⟩ := unhide HC k hlt
      rw [← (unhide HBr).cell (by exact hb)] at c0 c1 c2
      have hname := hide (unhide HS _ (List.getElem_mem hlt)).1
      have hgood := hide (code_step hlt (unhide HG))
      have hbad := hide (code_bad (xs := ns) hlt)
      generalize ns[k].a0 = op at c0 hgood hbad
      generalize ns[k].a1 = av at c1 hgood hbad
      generalize ns[k].a2 = nm at c2 hname hgood hbad
      have bA := Below.alloc (Below.refl wr.heap.size wr) (Nat.le_refl _) (.cells #[.int .i64 op, .int .i64 av, .string nm] 49)
      have HKA := hide (ownsMap_below (unhide HKr) bA hzr)
      have HBA := hide ((unhide HBr).trans (bA.mono (unhide HBr).size))
      have SH := hide (((unhide HSH).below (unhide HBr) (Nat.le_refl _)).below bA (Nat.le_refl _))
      have SG := hide (((unhide HSG).below (unhide HBr) (Nat.le_refl _)).below bA (Nat.le_refl _))
      clear bA
      cases hi : insB op av nm ns.length
      · go_wp2_with (first
          | (go_at_call 36; refine (insOk_any _ op av nm _ _ _ (unhide hname) (unhide SH) (unhide SG) (unhide HKA)).mono ?_; rw [hi]; rintro e w2 ⟨rfl, hb2⟩; have HB2 := hide ((unhide HBA).trans (hb2.mono (unhide HBA).size)); clear hb2)
          | go_in)
        go_ret
        exact ⟨code_no (unhide hbad hi), unhide HB2⟩
      · go_wp2_with (first
          | (go_at_call 36; refine (insOk_any _ op av nm _ _ _ (unhide hname) (unhide SH) (unhide SG) (unhide HKA)).mono ?_; rw [hi]; rintro e w2 ⟨rfl, hb2⟩; have HB2 := hide ((unhide HBA).trans (hb2.mono (unhide HBA).size)); have HK2 := hide (ownsMap_below (unhide HKA) hb2 (by simp; omega)); have hz2 := hb2.size; clear hb2)
          | go_in)
        simp at hz2
        go_roundw
        case rel => exact ⟨k + 1, by omega, by go_num, by omega, unhide hgood hi, HK2, HB2⟩
        case measure => simp [intOf]; omega
    · have e : k = ns.length := by omega
      have HG' := hide (show CodeGood ns from ⟨hl1, hl, by rw [e] at HG; exact unhide HG⟩)
      clear e
      go_wp2_with fail
      go_ret
      exact ⟨code_yes (unhide HG'), unhide HBr⟩

theorem implCode_short (w : World) (a : Option Addr) (cap : Nat) (ns : List InsV) (hl : (ns.length : Int) < 1) :
    Calls Tryd.prog 20 #[.slice a ns.length cap] w fun e w' => RetCode ns e ∧ Below w.heap.size w w' := by
  have HP := hide (code_short hl)
  go_enter Tryd.func20, Tryd.ntmps20
  go_wp2_with fail
  go_ret
  exact ⟨code_no (unhide HP), Below.refl _ _⟩
theorem implCode_long (w : World) (a : Option Addr) (cap : Nat) (ns : List InsV) (hl : 4000 < (ns.length : Int)) :
    Calls Tryd.prog 20 #[.slice a ns.length cap] w fun e w' => RetCode ns e ∧ Below w.heap.size w w' := by
  have HP := hide (code_long hl)
  have hl' : ¬ (ns.length : Int) < 1 := by omega
  go_enter Tryd.func20, Tryd.ntmps20
  go_wp2_with fail
  go_ret
  exact ⟨code_no (unhide HP), Below.refl _ _⟩
theorem implCode_any (w : World) (a : Option Addr) (cap : Nat) (ns : List InsV) (hc : InsIn w a ns) (hs : InsOk ns) (hsh : ShapesIn w) (hsg : SignsIn w) :
    Calls Tryd.prog 20 #[.slice a ns.length cap] w fun e w' => RetCode ns e ∧ Below w.heap.size w w' := by
  by_cases h1 : (ns.length : Int) < 1
  · exact implCode_short w a cap ns h1
  · by_cases hl : 4000 < (ns.length : Int)
    · exact implCode_long w a cap ns hl
    · rcases hc with rfl | ⟨b, off, rfl, hb, hc⟩
      · exact absurd (show ((([] : List InsV).length : Nat) : Int) < 1 by simp) h1
      · exact implCode_row w b off cap ns (by omega) (by omega) hc hb hs hsh hsg

set_option maxHeartbeats 1600000 in
theorem specCode_row (w : World) (b off cap : Nat) (ns : List InsV) (hl1 : (1 : Int) ≤ ns.length) (hl : (ns.length : Int) ≤ 4000) (hc : InsAt w b off ns) (hb : b < w.heap.size) (hs : InsOk ns) :
    Calls Tryd.prog 14 #[.slice (some ⟨b, off, none⟩) ns.length cap] w fun e w' => RetCode ns e ∧ Below w.heap.size w w' := by
  have HS := hide hs
  have HC := hide hc
  clear hs hc
  go_enter Tryd.func14, Tryd.ntmps14
  go_wp2_with fail
  go_loopw [3] (fun i wr => ∃ k : Nat, k ≤ ns.length ∧ i = .int .i64 k ∧ Hid (CodeTo ns k) ∧ Hid (Below w.heap.size w wr)) (fun i _ => ns.length - (intOf i).toNat)
  case atStart => exact ⟨0, Nat.zero_le _, rfl, code_zero ns, Below.refl _ _⟩
  case round =>
    obtain ⟨k, hk, rfl, HG, HBr⟩ := hrel
    by_cases hlt : k < ns.length
    · obtain ⟨c0, c1, c2⟩ := unhide HC k hlt
      rw [← (unhide HBr).cell (by exact hb)] at c0 c1 c2
      have hname := hide (unhide HS _ (List.getElem_mem hlt)).1
      have hgood := hide (code_step hlt (unhide HG))
      have hbad := hide (code_bad (xs := ns) hlt)
      generalize ns[k].a0 = op at c0 hgood hbad
      generalize ns[k].a1 = av at c1 hgood hbad
      generalize ns[k].a2 = nm at c2 hname hgood hbad
      cases hi : insB op av nm ns.length
      · go_wp2_with (first
          | (go_at_call 28; refine (l4Ok_any _ op av nm _ (unhide hname)).mono ?_; rw [hi]; rintro e w2 ⟨rfl, hb2⟩; have HB2 := hide ((unhide HBr).trans (hb2.mono (unhide HBr).size)); clear hb2)
          | go_in)
        go_ret
        exact ⟨code_no (unhide hbad hi), unhide HB2⟩
      · go_wp2_with (first
          | (go_at_call 28; refine (l4Ok_any _ op av nm _ (unhide hname)).mono ?_; rw [hi]; rintro e w2 ⟨rfl, hb2⟩; have HB2 := hide ((unhide HBr).trans (hb2.mono (unhide HBr).size)); clear hb2)
          | go_in)
        go_roundw
        case rel => exact ⟨k + 1, by omega, by go_num, unhide hgood hi, HB2⟩
        case measure => simp [intOf]; omega
    · have e : k = ns.length := by omega
      have HG' := hide (show CodeGood ns from ⟨hl1, hl, by rw [e] at HG; exact unhide HG⟩)
      clear e
      go_wp2_with fail
      go_ret
      exact ⟨code_yes (unhide HG'), unhide HBr⟩
theorem specCode_short (w : World) (a : Option Addr) (cap : Nat) (ns : List InsV) (hl : (ns.length : Int) < 1) :
    Calls Tryd.prog 14 #[.slice a ns.length cap] w fun e w' => RetCode ns e ∧ Below w.heap.size w w' := by
  have HP := hide (code_short hl)
  go_enter Tryd.func14, Tryd.ntmps14
  go_wp2_with fail
  go_ret
  exact ⟨code_no (unhide HP), Below.refl _ _⟩
theorem specCode_long (w : World) (a : Option Addr) (cap : Nat) (ns : List InsV) (hl : 4000 < (ns.length : Int)) :
    Calls Tryd.prog 14 #[.slice a ns.length cap] w fun e w' => RetCode ns e ∧ Below w.heap.size w w' := by
  have HP := hide (code_long hl)
  have hl' : ¬ (ns.length : Int) < 1 := by omega
  go_enter Tryd.func14, Tryd.ntmps14
  go_wp2_with fail
  go_ret
  exact ⟨code_no (unhide HP), Below.refl _ _⟩
theorem specCode_any (w : World) (a : Option Addr) (cap : Nat) (ns : List InsV) (hc : InsIn w a ns) (hs : InsOk ns) :
    Calls Tryd.prog 14 #[.slice a ns.length cap] w fun e w' => RetCode ns e ∧ Below w.heap.size w w' := by
  by_cases h1 : (ns.length : Int) < 1
  · exact specCode_short w a cap ns h1
  · by_cases hl : 4000 < (ns.length : Int)
    · exact specCode_long w a cap ns hl
    · rcases hc with rfl | ⟨b, off, rfl, hb, hc⟩
      · exact absurd (show ((([] : List InsV).length : Nat) : Int) < 1 by simp) h1
      · exact specCode_row w b off cap ns (by omega) (by omega) hc hb hs

end Go.Proofs.YtoehjbehfolekaaDoor
