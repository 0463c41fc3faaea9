/-
  BindsOk of both sides: the program's set of names taken so far, the specification's two loops.
-/
import Derived.Test.YtoehjbehfolekaaDoorBindsMath
import Derived.Deep.RegionHeld3
set_option linter.unusedVariables false
namespace Go.Proofs.YtoehjbehfolekaaDoor
open Go.RowKit Go.Maps Go.Deep

set_option maxHeartbeats 1600000 in
theorem implBinds_row (w : World) (b off cap : Nat) (ns : List BindV) (hl : (ns.length : Int) ≤ 40) (hc : BindAt w b off ns) (hb : b < w.heap.size) (hs : BindOk ns) :
    Calls Tryd.prog 21 #[.slice (some ⟨b, off, none⟩) ns.length cap] w fun e w' => RetGood ns e ∧ Below w.heap.size w w' := by
  have hmm := @run_makeMap Tryd.prog
  have HS := hide hs
  have HC := hide hc
  clear hs hc
  go_enter Tryd.func21, Tryd.ntmps21
  go_wp2_with fail
  refine (newKeySet_any _).mono ?_
  rintro e w1 ⟨rfl, hown, hbel⟩
  have HK := hide hown
  have hz := hown.lt
  have HB := hide (hbel.alloc hbel.size (.map #[] 0))
  have HTK := hide (World.ownsMap_made w1 Tryd.prog 9 (unitElem (H := Unit)))
  have hz1 := hbel.size
  clear hown hbel
  go_wp2_with fail
  go_loopw [16] (fun i wr => ∃ k : Nat, k ≤ ns.length ∧ i = .int .i64 k ∧ w1.heap.size < wr.heap.size ∧ Hid (GoodTo ns k) ∧ Hid (wr.ownsMap Tryd.prog 9 (unitElem (H := Unit)) w.heap.size 15 (setOf (.agg []) keyLits)) ∧ Hid (wr.ownsMap Tryd.prog 9 (unitElem (H := Unit)) w1.heap.size k (takenMap ns k)) ∧ Hid (Below w.heap.size w wr)) (fun i _ => ns.length - (intOf i).toNat)
  case atStart => exact ⟨0, Nat.zero_le _, rfl, by simp, good_zero ns, ownsMap_below (unhide HK) (Below.alloc (Below.refl _ _) (Nat.le_refl _) _) hz, unhide HTK, unhide HB⟩
  case round =>
    obtain ⟨k, hk, rfl, hzr, HG, HKr, HTr, HBr⟩ := hrel
    by_cases hlt : k < ns.length
    · obtain ⟨c0, c1⟩ := unhide HC k hlt
      rw [← (unhide HBr).cell (by exact hb)] at c0 c1
      have hname := hide (unhide HS _ (List.getElem_mem hlt)).1
      have hkey := WideMaps.keyOf_string_mk (k := 9) Tryd.underlying9 (unhide hname)
      have hkeep := hide (taken_has ns k hlt)
      have hkn := hide hlt
      generalize hnm : ns[k].a0 = nm at c0 hname hkey hkeep
      generalize ns[k].a1 = vl at c1
      have HNM := hide hnm
      have bA := Below.alloc (Below.refl wr.heap.size wr) (Nat.le_refl _) (.cells #[.string nm, .int .i64 vl] 51)
      have bB := Below.alloc bA (by simp) (.cells #[] 72)
      have HTA := hide (ownsMap_below (unhide HTr) bA hzr)
      have HKB := hide (ownsMap_below (unhide HKr) bB (by omega))
      have HTB := hide (ownsMap_below (unhide HTr) bB hzr)
      have HBB := hide ((unhide HBr).trans (bB.mono (unhide HBr).size))
      have hzB : w1.heap.size < ((wr.alloc (.cells #[.string nm, .int .i64 vl] 51)).alloc (.cells #[] 72)).heap.size := by have := bB.size; omega
      have HCB : Hid (((wr.alloc (.cells #[.string nm, .int .i64 vl] 51)).alloc (.cells #[] 72)).cell? ⟨wr.heap.size, 0, none⟩ = some (.string nm)) := by
        refine hide ?_
        rw [World.cell?_alloc_past _ _ _ (by simp), World.cell?_alloc_at _ _ _ _ rfl]
        rfl
      clear bA bB hnm
      by_cases hh : Maps.has (takenMap ns k) (.string nm.data.toList) = true
      · go_wp2_with (first
          | (at_lookup; refine wpList_lookup_own_unit _ rfl _ _ 68 rfl 9 72 lawStr Tryd.underlying68 (zeroUnit _) w1.heap.size k (takenMap ns k) rfl (unhide HTA) _ _ rfl hkey ?_; rw [hh])
          | go_in)
        go_ret
        refine ⟨ret_no ?_, unhide HBB⟩
        obtain ⟨j, _, hj, he⟩ := (unhide hkeep).1 hh
        exact bad_twice hlt hj (he.trans (unhide HNM).symm)
      · have hh' : Maps.has (takenMap ns k) (.string nm.data.toList) = false := by simpa using hh
        by_cases hn : nameB nm = true
        · go_wp2_with (first
            | (at_lookup; refine wpList_lookup_own_unit _ rfl _ _ 68 rfl 9 72 lawStr Tryd.underlying68 (zeroUnit _) w1.heap.size k (takenMap ns k) rfl (unhide HTA) _ _ rfl hkey ?_; rw [hh'])
            | (go_at_call 37; refine (isName_any _ _ _ nm (unhide hname) (unhide HKB)).mono ?_; rw [hn]; rintro e w2 ⟨rfl, hb2⟩; have HT2 := hide (ownsMap_below (unhide HTB) hb2 hzB); have HK2 := hide (ownsMap_below (unhide HKB) hb2 (by omega)); have HB2 := hide ((unhide HBB).trans (hb2.mono (unhide HBB).size)); have hz2 := hb2.size; have c0' := hide (show w2.cell? ⟨wr.heap.size, 0, none⟩ = some (.string nm) from (hb2.cell (by simp; omega)).trans (unhide HCB)); have c0'' := unhide c0'; clear hb2)
            | (at_mapUpdate; refine wpList_mapUpdate_own _ rfl _ _ _ 68 rfl 9 72 lawStr Tryd.underlying68 (unitElem (H := Unit)) w1.heap.size k (takenMap ns k) rfl (unhide HT2) (by unfold maxLen; omega) _ _ _ rfl rfl hkey _ [] unitElem_mk ?_; intro w3 hown3 hgr3)
            | go_in)
          have hb3 := hide (Below.grown (unhide HB2) hgr3 (unhide HB2).size (fun x hx => by cases hx; omega))
          have HK3 := hide (ownsMap_grown (unhide HK2) hgr3 (by omega) (unhide HK2).lt)
          have hsz3 := hgr3.size
          have HT3 := hide (show w3.ownsMap Tryd.prog 9 (unitElem (H := Unit)) w1.heap.size (k + 1) (takenMap ns (k + 1)) by rw [taken_next hlt (unhide HNM)]; exact hown3)
          have HG3 := hide (good_step hlt (unhide HG) (name_at hlt (unhide HNM) hn) (fun j hj hjk he => hh ((unhide hkeep).2 ⟨j, hj, hjk, he.trans (unhide HNM)⟩)))
          clear hown3 hgr3 c0''
          go_roundw
          case rel => exact ⟨k + 1, by omega, by go_num, by omega, HG3, HK3, HT3, hb3⟩
          case measure => simp [intOf]; omega
        · have hn' : nameB nm = false := by simpa using hn
          go_wp2_with (first
            | (at_lookup; refine wpList_lookup_own_unit _ rfl _ _ 68 rfl 9 72 lawStr Tryd.underlying68 (zeroUnit _) w1.heap.size k (takenMap ns k) rfl (unhide HTA) _ _ rfl hkey ?_; rw [hh'])
            | (go_at_call 37; refine (isName_any _ _ _ nm (unhide hname) (unhide HKB)).mono ?_; rw [hn']; rintro e w2 ⟨rfl, hb2⟩; have HB2 := hide ((unhide HBB).trans (hb2.mono (unhide HBB).size)); clear hb2)
            | go_in)
          go_ret
          exact ⟨ret_no (bad_name hlt (name_at hlt (unhide HNM) hn')), unhide HB2⟩
    · have e : k = ns.length := by omega
      have HG' := hide (show BindsGood ns from ⟨hl, by rw [e] at HG; exact unhide HG⟩)
      clear e
      go_wp2_with fail
      go_ret
      exact ⟨ret_yes (unhide HG'), unhide HBr⟩

set_option maxHeartbeats 800000 in
theorem implBinds_none (w : World) (a : Option Addr) (cap : Nat) :
    Calls Tryd.prog 21 #[.slice a 0 cap] w fun e w' => RetGood [] e ∧ Below w.heap.size w w' := by
  have hmm := @run_makeMap Tryd.prog
  go_enter Tryd.func21, Tryd.ntmps21
  go_wp2_with fail
  refine (newKeySet_any _).mono ?_
  rintro e w1 ⟨rfl, hown, hbel⟩
  have HB := hide (hbel.alloc hbel.size (.map #[] 0))
  clear hown hbel
  go_wp2_with fail
  refine wp_loop_rounds 1 ?_
  rw [rounds_succ]
  go_wp2_with fail
  go_ret
  exact ⟨ret_yes ⟨by simp, good_zero []⟩, unhide HB⟩
theorem implBinds_long (w : World) (a : Option Addr) (cap : Nat) (ns : List BindV) (hl : ¬ (ns.length : Int) ≤ 40) :
    Calls Tryd.prog 21 #[.slice a ns.length cap] w fun e w' => RetGood ns e ∧ Below w.heap.size w w' := by
  have HP := hide (bad_long hl)
  have hl' : (40 : Int) < (ns.length : Int) := by omega
  clear hl
  go_enter Tryd.func21, Tryd.ntmps21
  go_wp2_with fail
  go_ret
  exact ⟨ret_no (unhide HP), Below.refl _ _⟩
theorem implBinds_any (w : World) (a : Option Addr) (cap : Nat) (ns : List BindV) (hc : BindIn w a ns) (hs : BindOk ns) :
    Calls Tryd.prog 21 #[.slice a ns.length cap] w fun e w' => RetGood ns e ∧ Below w.heap.size w w' := by
  by_cases hl : (ns.length : Int) ≤ 40
  · rcases hc with rfl | ⟨b, off, rfl, hb, hc⟩
    · exact implBinds_none w a cap
    · exact implBinds_row w b off cap ns hl hc hb hs
  · exact implBinds_long w a cap ns hl

set_option maxHeartbeats 1600000 in
theorem specBinds_row (w : World) (b off cap : Nat) (ns : List BindV) (hl : (ns.length : Int) ≤ 40) (hc : BindAt w b off ns) (hb : b < w.heap.size) (hs : BindOk ns) :
    Calls Tryd.prog 15 #[.slice (some ⟨b, off, none⟩) ns.length cap] w fun e w' => RetGood ns e ∧ Below w.heap.size w w' := by
  have HS := hide hs
  have HC := hide hc
  clear hs hc
  go_enter Tryd.func15, Tryd.ntmps15
  go_wp2_with fail
  go_loopw [3] (fun i wr => ∃ k : Nat, k ≤ ns.length ∧ i = .int .i64 k ∧ Hid (GoodTo ns k) ∧ Hid (Below w.heap.size w wr)) (fun i _ => ns.length - (intOf i).toNat)
  case atStart => exact ⟨0, Nat.zero_le _, rfl, good_zero ns, Below.refl _ _⟩
  case round =>
    obtain ⟨k, hk, rfl, HG, HBr⟩ := hrel
    by_cases hlt : k < ns.length
    · obtain ⟨c0, c1⟩ := unhide HC k hlt
      rw [← (unhide HBr).cell (by exact hb)] at c0 c1
      have hname := hide (unhide HS _ (List.getElem_mem hlt)).1
      generalize hnm : ns[k].a0 = nm at c0 hname
      have HNM := hide hnm
      clear hnm c1
      by_cases hn : nameB nm = true
      · go_wp2_with (first
          | (go_at_call 29; refine (specName_any _ _ (unhide hname)).mono ?_; rw [hn]; rintro e w2 ⟨rfl, hb2⟩; have HB2 := hide ((unhide HBr).trans (hb2.mono (unhide HBr).size)); clear hb2)
          | fail)
        clear c0
        go_loopw [4] (fun i2 wr2 => ∃ j : Nat, j ≤ k ∧ i2 = .int .i64 j ∧ Hid (∀ x (hx : x < ns.length), x < j → ns[x].a0 ≠ nm) ∧ Hid (Below w.heap.size w wr2)) (fun i2 _ => k - (intOf i2).toNat)
        case atStart => exact ⟨0, Nat.zero_le _, rfl, fun x _ hx => absurd hx (Nat.not_lt_zero _), unhide HB2⟩
        case round =>
          obtain ⟨j, hj, rfl, HN, HBj⟩ := hrel
          by_cases hjk : j < k
          · have hjl : j < ns.length := by omega
            obtain ⟨c0, c1⟩ := unhide HC k hlt
            obtain ⟨d0, d1⟩ := unhide HC j hjl
            rw [← (unhide HBj).drew.cell (by exact hb)] at c0 c1 d0 d1
            rw [show ns[k].a0 = nm from unhide HNM] at c0
            generalize hnj : ns[j].a0 = nj at d0
            have HNJ := hide hnj
            clear hnj c1 d1
            have HBd := hide (unhide HBj).drew
            by_cases he : nj = nm
            · subst he
              go_wp2_with fail
              go_region_held3 (fun w' => w' = wr.drew) (rfl) (fail)
              go_wp2_with fail
              go_ret
              exact ⟨ret_no (bad_twice hlt hjk ((unhide HNJ).trans (unhide HNM).symm)), unhide HBd⟩
            · have he' : (nj.toList == nm.toList) = false := by rw [str_eq]; simpa using he
              go_wp2_with fail
              go_region_held3 (fun w' => w' = wr.drew) (rfl) (fail)
              clear c0 d0
              go_wp2_with fail
              go_roundw
              case rel =>
                refine ⟨j + 1, by omega, by go_num, hide (fun x hx hxj => ?_), HBd⟩
                by_cases e : x = j
                · subst e; exact fun h => he ((unhide HNJ).symm.trans h)
                · exact unhide HN x hx (by omega)
              case measure => simp [intOf]; omega
          · have e : j = k := by omega
            have HG' := hide (good_step hlt (unhide HG) (name_at hlt (unhide HNM) hn) (fun x hx hxk h => unhide HN x hx (by omega) (h.trans (unhide HNM))))
            clear e
            go_wp2_with fail
            go_roundw
            case rel => exact ⟨k + 1, by omega, by go_num, HG', HBj⟩
            case measure => simp [intOf]; omega
      · have hn' : nameB nm = false := by simpa using hn
        go_wp2_with (first
          | (go_at_call 29; refine (specName_any _ _ (unhide hname)).mono ?_; rw [hn']; rintro e w2 ⟨rfl, hb2⟩; have HB2 := hide ((unhide HBr).trans (hb2.mono (unhide HBr).size)); clear hb2)
          | fail)
        go_ret
        exact ⟨ret_no (bad_name hlt (name_at hlt (unhide HNM) hn')), unhide HB2⟩
    · have e : k = ns.length := by omega
      have HG' := hide (show BindsGood ns from ⟨hl, by rw [e] at HG; exact unhide HG⟩)
      clear e
      go_wp2_with fail
      go_ret
      exact ⟨ret_yes (unhide HG'), unhide HBr⟩

set_option maxHeartbeats 800000 in
theorem specBinds_none (w : World) (a : Option Addr) (cap : Nat) :
    Calls Tryd.prog 15 #[.slice a 0 cap] w fun e w' => RetGood [] e ∧ Below w.heap.size w w' := by
  go_enter Tryd.func15, Tryd.ntmps15
  go_wp2_with fail
  refine wp_loop_rounds 1 ?_
  rw [rounds_succ]
  go_wp2_with fail
  go_ret
  exact ⟨ret_yes ⟨by simp, good_zero []⟩, Below.refl _ _⟩
theorem specBinds_long (w : World) (a : Option Addr) (cap : Nat) (ns : List BindV) (hl : ¬ (ns.length : Int) ≤ 40) :
    Calls Tryd.prog 15 #[.slice a ns.length cap] w fun e w' => RetGood ns e ∧ Below w.heap.size w w' := by
  have HP := hide (bad_long hl)
  have hl' : (40 : Int) < (ns.length : Int) := by omega
  clear hl
  go_enter Tryd.func15, Tryd.ntmps15
  go_wp2_with fail
  go_ret
  exact ⟨ret_no (unhide HP), Below.refl _ _⟩
theorem specBinds_any (w : World) (a : Option Addr) (cap : Nat) (ns : List BindV) (hc : BindIn w a ns) (hs : BindOk ns) :
    Calls Tryd.prog 15 #[.slice a ns.length cap] w fun e w' => RetGood ns e ∧ Below w.heap.size w w' := by
  by_cases hl : (ns.length : Int) ≤ 40
  · rcases hc with rfl | ⟨b, off, rfl, hb, hc⟩
    · exact specBinds_none w a cap
    · exact specBinds_row w b off cap ns hl hc hb hs
  · exact specBinds_long w a cap ns hl
end Go.Proofs.YtoehjbehfolekaaDoor
