/-
  The program's reader: a tree out of words.
-/
/-
  Cutting a text into words: the specification.
-/
import Derived.Test.YtldgffkippejiaaGreatDoorMerged25
import Derived.Test.YtldgffkippejiaaGreatDoorRdrAp
import Derived.Test.YtldgffkippejiaaGreatDoorMerged14
import Derived.Deep.RegionHeld3
import Derived.Test.YtldgffkippejiaaGreatDoorBodyM
import Derived.Test.YtldgffkippejiaaGreatDoorMerged10
set_option linter.unusedVariables false
namespace Go.Proofs.YtldgffkippejiaaGreatDoor
open Go.RowKit Go.Maps Go.Deep

/-- a tree, or what the reader gave up with -/
def RetTi (rb : Nat) (r : TrRes) (w : World) (e : Ending) (w' : World) : Prop := match r with
  | .bad c a => e = .panicked [{ v := errV c a, recovered := false }] ∧ Hid (Turn [rb] w w')
  | .ok x => ∃ v, e = .returned v ∧ Hid (NdRow w.heap.size w' v (fl x.f)) ∧ Hid (Turn [rb] w w')
theorem fl_f (x : TreeV) : fl x.f = x.x :: fl x.l := by show x.x :: (fl x.l ++ []) = _; rw [List.append_nil]
set_option maxHeartbeats 6400000 in
set_option maxRecDepth 20000 in
theorem tree_any (t : ByteArray) (w : World) (rb : Nat) (a : Option Addr) (c : Nat) (hc : bwCode t = 0) (h : PrK (bwWords t) t.size w rb a c 0) :
    Calls Tryz.prog 58 #[.pointer (some ⟨rb, 0, none⟩)] w fun e w' => RetTi rb (trRes t) w e w' := by
  obtain ⟨hlen, hwis⟩ := bw_words t
  have HRB := h.pr.lt
  have P0 := hide h
  have HEX := hide ((isaid_all (bwWords t) hwis t.size (fuelT (bwWords t))).1)
  have HFU := hide (fuel_ok (bwWords t))
  have HTR := hide (tr_tree t)
  have HGD := hide (tr_good t)
  have HNM := hide (parse_norm (bwWords t) (fuelT (bwWords t)) .expr 0 trivial)
  have TB := hide (fun k h => tr_bad (t := t) (k := k) hc h)
  have TM := hide (fun k x h1 h2 => tr_more (t := t) (k := k) (x := x) hc h1 h2)
  have TN := hide (fun k x h1 h2 h3 => tr_many (t := t) (k := k) (x := x) hc h1 h2 h3)
  have TD := hide (fun k x h1 h2 h3 h4 => tr_deep (t := t) (k := k) (x := x) hc h1 h2 h3 h4)
  have TO := hide (fun k x h1 h2 h3 h4 => tr_ok (t := t) (k := k) (x := x) hc h1 h2 h3 h4)
  clear hc h
  generalize trRes t = R at *
  have HMIS := hide (fun W k (hp : PrI (bwWords t) t.size W rb a c k) => misplaced_any (bwWords t) t.size W rb a c k hp)
  generalize bwWords t = ws at *
  go_enter Tryz.func58, Tryz.ntmps58
  go_wp2_with fail
  refine (unhide HEX _ rb a c _ (unhide P0) (unhide HFU)).mono ?_
  rintro e w1 (⟨k1, hp1, rfl, t1⟩ | ⟨x1, k1, y1, u1, hp1, rfl, p1, t1, f1⟩)
  · refine ⟨rfl, ?_⟩
    rw [unhide TB _ hp1]
    exact ⟨rfl, t1⟩
  have HOK := unhide HTR
  rw [hp1] at HOK
  have HSZ := hide HOK.2.2
  have HNT := unhide HNM
  rw [hp1] at HNT
  have HNT := hide HNT
  have G1 := unhide HGD
  rw [hp1] at G1
  have hk1 : k1 ≤ ws.length := G1.2
  have TM1 := hide (unhide TM _ _ hp1)
  have TN1 := hide (unhide TN _ _ hp1)
  have TD1 := hide (unhide TD _ _ hp1)
  have TO1 := hide (unhide TO _ _ hp1)
  obtain ⟨⟨c0, c1, c2⟩, f0, ff1, f2⟩ := (unhide p1).pr.box.triR
  clear HOK HTR HNM G1 HGD TB TM TN TD TO hp1 HEX P0 HFU
  by_cases hlt : k1 < ws.length
  · have hlt2 : (k1 : Int) < (ws.length : Int) := by omega
    have HR := hide (unhide TM1 hlt)
    clear hlt TM1 TN1 TD1 TO1
    have PD := hide ((unhide p1).up (Below.refl _ _).drew)
    have TD := hide ((unhide t1).trans (Turn.of_below (Below.refl _ _).drew))
    go_wp2_with fail
    go_region
    all_goals
      go_wp2_with (first
        | (go_at_call 78; refine (unhide HMIS _ _ (unhide PD).pr).mono ?_; rintro e w2 ⟨rfl, b2⟩)
        | fail)
      refine ⟨rfl, ?_⟩
      rw [unhide HR]
      exact ⟨rfl, hide ((unhide TD).trans (Turn.of_below b2))⟩
  · have hlt2 : ¬ (k1 : Int) < (ws.length : Int) := by omega
    have BD := hide ((Below.refl w1.heap.size w1).drew)
    have TD0 := hide ((unhide t1).trans (Turn.of_below (Below.refl w1.heap.size w1).drew))
    have F1 := hide ((unhide f1).upR (Below.refl w1.heap.size w1).drew)
    have TN2 := hide (unhide TN1 hlt)
    have TD2 := hide (unhide TD1 hlt)
    have TO2 := hide (unhide TO1 hlt)
    clear hlt TM1 TN1 TD1 TO1
    go_wp2_with fail
    go_region
    all_goals
      go_wp2_with fail
      generalize w1.drew = W1 at *
      obtain ⟨v1, rest1, kvs, ev, h1, h2, h3⟩ := unhide F1
      cases ev
      have HS : (fl x1.l).length + 1 ≤ 1500 := by have := unhide HSZ; rw [sizeT_is] at this; omega
      have HA := hide (app_any x1.x x1.l W1 W1 w.heap.size (.iface y1 u1) (.slice none 0 0) kvs [] h1 h2 (unhide HNT x1.x (by rw [fl_f]; simp)) (fun y hy => unhide HNT y (by rw [fl_f]; simp [hy])) (Below.refl _ _) (NdRow.nil _ _) (by simp; omega))
      have HFD := hide (fun (W : World) (b : Below W1.heap.size W1 W) => fdeep_any x1.x x1.l (by omega) W w.heap.size (.iface y1 u1) kvs (h1.upR b) (h2.agree (Agree.of_below b)))
      clear h1 h2 h3 F1
      refine (unhide HA).mono ?_
      rintro e w2 ⟨nv, rfl, R2, G2⟩
      have B2 := hide ((unhide G2).below (Below.refl W1.heap.size W1) (fun g hg => by cases hg))
      obtain ⟨a2, c2', e2⟩ := (unhide R2).slice
      subst e2
      have hm : ([] ++ x1.x :: fl x1.l).length = sizeT x1 := by rw [sizeT_is]; simp
      have R3 := hide (show NdRow W1.heap.size w2 (.slice a2 (sizeT x1) c2') (fl x1.f) from by have := unhide R2; rw [hm] at this; rw [fl_f]; exact this)
      rw [hm]
      clear R2 hm G2 HA
      by_cases h400 : 400 < sizeT x1
      · have h4i : (400 : Int) < (sizeT x1 : Int) := by omega
        have HR := hide (unhide TN2 h400)
        clear h400
        generalize sizeT x1 = m at *
        go_wp2_with (first
          | (go_at_call 73; refine (wrongAt_any 6 0 _).mono ?_; rintro e w4 ⟨rfl, rfl⟩)
          | fail)
        refine ⟨rfl, ?_⟩
        rw [unhide HR]
        exact ⟨rfl, hide ((unhide TD0).trans (Turn.of_below (unhide B2)))⟩
      · have h4i : ¬ (400 : Int) < (sizeT x1 : Int) := by omega
        have HD2 := hide (unhide TD2 h400)
        have HO2 := hide (unhide TO2 h400)
        clear h400
        have HFW := hide (unhide HFD w2 (unhide B2))
        obtain ⟨dn, hdn⟩ : ∃ dn : Nat, dn = dp x1.l + 1 := ⟨_, rfl⟩
        rw [← hdn] at HFW HD2 HO2
        clear hdn
        generalize sizeT x1 = m at *
        go_wp2_with fail
        refine (unhide HFW).mono ?_
        rintro e w5 ⟨rfl, b5⟩
        have T5 := hide (((unhide TD0).trans (Turn.of_below (unhide B2))).trans (Turn.of_below b5))
        have R5 := hide (((unhide R3).up b5).mono (unhide TD0).size)
        clear HFW HFD R3 b5 B2 TD0
        by_cases h40 : 40 < dn
        · have h4d : (40 : Int) < (dn : Int) := by omega
          have HR := hide (unhide HD2 h40)
          clear h40
          go_wp2_with (first
            | (go_at_call 73; refine (wrongAt_any 7 0 _).mono ?_; rintro e w6 ⟨rfl, rfl⟩)
            | fail)
          refine ⟨rfl, ?_⟩
          rw [unhide HR]
          exact ⟨rfl, T5⟩
        · have h4d : ¬ (40 : Int) < (dn : Int) := by omega
          have HR := hide (unhide HO2 h40)
          clear h40
          go_wp2_with fail
          go_ret
          rw [unhide HR]
          exact ⟨_, rfl, R5, T5⟩
end Go.Proofs.YtldgffkippejiaaGreatDoor

set_option linter.unusedVariables false
namespace Go.Proofs.YtldgffkippejiaaGreatDoor
open Go.RowKit Go.Maps Go.Deep

theorem run_go {s : ByteArray} {ls : Bool} {j : Nat} (h : j < s.size) (hd : (digB (byteAt s j) || (ls && letB (byteAt s j))) = true) : runEnd s ls j = runEnd s ls (j + 1) := by
  conv => lhs; rw [runEnd, dif_pos h, if_pos hd]
theorem run_stop {s : ByteArray} {ls : Bool} {j : Nat} (h : j < s.size) (hd : (digB (byteAt s j) || (ls && letB (byteAt s j))) = false) : runEnd s ls j = j := by
  rw [runEnd, dif_pos h, if_neg (by rw [hd]; simp)]
theorem run_end {s : ByteArray} {ls : Bool} {j : Nat} (h : ¬ j < s.size) : runEnd s ls j = j := by
  rw [runEnd, dif_neg h]
theorem run_le (s : ByteArray) (ls : Bool) : ∀ n j, s.size - j = n → j ≤ s.size → j ≤ runEnd s ls j ∧ runEnd s ls j ≤ s.size := by
  intro n
  induction n with
  | zero => intro j h1 h2; rw [run_end (by omega)]; omega
  | succ n ih =>
    intro j h1 h2
    cases hd : (digB (byteAt s j) || (ls && letB (byteAt s j)))
    · rw [run_stop (by omega) hd]; omega
    · rw [run_go (by omega) hd]
      have := ih (j + 1) (by omega) (by omega)
      omega
set_option maxHeartbeats 1600000 in
theorem l1Run_any (s : ByteArray) (k : Nat) (ls : Bool) (w : World) (hs : s.size ≤ 1500) (hk : k ≤ s.size) :
    Calls Tryz.prog 51 #[.string s, .int .i64 (k : Int), .bool ls] w fun e w' => e = .returned (.int .i64 (runEnd s ls k : Int)) ∧ w' = w := by
  go_enter Tryz.func51, Tryz.ntmps51
  go_wp2_with fail
  go_loopw [1] (fun av wr => ∃ j : Nat, j ≤ s.size ∧ av = .int .i64 (j : Int) ∧ Hid (runEnd s ls k = runEnd s ls j) ∧ wr = w) (fun av _ => s.size - (intOf av).toNat)
  case atStart => exact ⟨k, hk, rfl, hide rfl, rfl⟩
  case round =>
    obtain ⟨j, hj, rfl, HR, rfl⟩ := hrel
    by_cases hlt : j < s.size
    · have hbk := hide (byteAt_eq s j hlt)
      cases hd : digB (s[j]'hlt).toNat
      · cases ls
        · have HX := hide ((unhide HR).trans (run_stop hlt (by rw [unhide hbk, hd]; rfl)))
          go_wp2_with (first
            | (go_at_call 30; refine (l1Digit_any _ _).mono ?_; rintro e w1 ⟨rfl, rfl⟩)
            | go_in)
          go_ret
          exact ⟨by rw [unhide HX]; rfl, rfl⟩
        · cases hl : letB (s[j]'hlt).toNat
          · have HX := hide ((unhide HR).trans (run_stop hlt (by rw [unhide hbk, hd, hl]; rfl)))
            go_wp2_with (first
              | (go_at_call 30; refine (l1Digit_any _ _).mono ?_; rintro e w1 ⟨rfl, rfl⟩)
              | (go_at_call 29; refine (l1Letter_any _ _).mono ?_; rintro e w1 ⟨rfl, rfl⟩)
              | go_in)
            go_ret
            exact ⟨by rw [unhide HX]; rfl, rfl⟩
          · have HX := hide ((unhide HR).trans (run_go hlt (by rw [unhide hbk, hd, hl]; rfl)))
            go_wp2_with (first
              | (go_at_call 30; refine (l1Digit_any _ _).mono ?_; rintro e w1 ⟨rfl, rfl⟩)
              | (go_at_call 29; refine (l1Letter_any _ _).mono ?_; rintro e w1 ⟨rfl, rfl⟩)
              | go_in)
            go_roundw
            case rel => exact ⟨j + 1, by omega, by go_num, HX, trivial⟩
            case measure => simp [intOf]; omega
      · have HX := hide ((unhide HR).trans (run_go hlt (by rw [unhide hbk, hd]; rfl)))
        go_wp2_with (first
          | (go_at_call 30; refine (l1Digit_any _ _).mono ?_; rintro e w1 ⟨rfl, rfl⟩)
          | go_in)
        go_roundw
        case rel => exact ⟨j + 1, by omega, by go_num, HX, trivial⟩
        case measure => simp [intOf]; omega
    · have HX := hide ((unhide HR).trans (run_end hlt))
      go_wp2_with go_in
      go_ret
      exact ⟨by rw [unhide HX]; rfl, rfl⟩

def signStrs : List ByteArray := signLs.map fun l => ⟨l.toArray⟩
theorem l1Signs_any (w : World) : Calls Tryz.prog 70 #[] w fun e w' => e = .returned (.slice (some ⟨w.heap.size, 0, none⟩) 14 14) ∧ w' = w.alloc (.cells (signStrs.map Value.string).toArray 9) := by
  go_enter Tryz.func70, Tryz.ntmps70
  go_wp2
  go_ret
  exact ⟨rfl, rfl⟩
theorem pick_at (l : List UInt8) (k : Nat) (hk : k < signLs.length) (no : ∀ j (h : j < signLs.length), j < k → signLs[j].isPrefixOf l = false) (yes : signLs[k].isPrefixOf l = true) : signPreL l = signLs[k] := by
  unfold signPreL
  have : (signLs.find? fun g => g.isPrefixOf l) = some signLs[k] := by
    rw [List.find?_eq_some_iff_getElem]
    exact ⟨yes, k, hk, rfl, fun j hj => by rw [no j (by omega) hj]; rfl⟩
  rw [this]
  rfl
theorem pick_no (l : List UInt8) (no : ∀ j (h : j < signLs.length), signLs[j].isPrefixOf l = false) : signPreL l = [] := by
  unfold signPreL
  have : (signLs.find? fun g => g.isPrefixOf l) = none := by
    rw [List.find?_eq_none]
    intro g hg
    obtain ⟨j, hj, rfl⟩ := List.getElem_of_mem hg
    rw [no j hj]
    simp
  rw [this]
  rfl
theorem pre_same (t g : ByteArray) (h : g.size ≤ t.size) : ((t.extract 0 g.size).toList == g.toList) = g.data.toList.isPrefixOf t.data.toList := by
  rw [ByteArray.toList_eq, ByteArray.toList_eq, ext_lst, Bool.eq_iff_iff]
  simp only [Nat.sub_zero, List.drop_zero, beq_iff_eq, List.isPrefixOf_iff_prefix]
  constructor
  · intro e
    rw [← e]
    exact List.take_prefix _ _
  · intro e
    rw [List.prefix_iff_eq_take] at e
    rw [Array.length_toList] at e
    exact e.symm
theorem pre_long (t g : ByteArray) (h : ¬ g.size ≤ t.size) : g.data.toList.isPrefixOf t.data.toList = false := by
  cases hq : g.data.toList.isPrefixOf t.data.toList
  · rfl
  · rw [List.isPrefixOf_iff_prefix] at hq
    have := hq.length_le
    rw [Array.length_toList, Array.length_toList] at this
    exact absurd this h
set_option maxHeartbeats 1600000 in
theorem l1Sign_any (t : ByteArray) (w : World) (ht : t.size ≤ 1500) :
    Calls Tryz.prog 52 #[.string t] w fun e w' => e = .returned (.string ⟨(signPreL t.data.toList).toArray⟩) ∧ Below w.heap.size w w' := by
  have hcell : ∀ j (h : j < signLs.length), (w.alloc (.cells (signStrs.map Value.string).toArray 9)).cell? ⟨w.heap.size, j, none⟩ = some (.string ⟨signLs[j].toArray⟩) := by
    intro j hj
    rw [World.cell?_alloc_at _ _ _ _ rfl]
    simp [signStrs, hj]
  have HC := hide hcell
  have A0 := hide ((Below.refl w.heap.size w).alloc (Nat.le_refl _) (.cells (signStrs.map Value.string).toArray 9))
  have H14 := hide (show signLs.length = 14 from rfl)
  clear hcell
  go_enter Tryz.func52, Tryz.ntmps52
  go_wp2_with (first
    | (go_at_call 70; refine (l1Signs_any _).mono ?_; rintro e w1 ⟨rfl, rfl⟩)
    | go_in)
  generalize w.alloc (.cells (signStrs.map Value.string).toArray 9) = W at *
  go_loopw [4] (fun iv wr => ∃ k : Nat, k ≤ 14 ∧ iv = .int .i64 (k : Int) ∧ Hid (∀ j (h : j < signLs.length), j < k → signLs[j].isPrefixOf t.data.toList = false) ∧ Hid (Below W.heap.size W wr)) (fun iv _ => 14 - (intOf iv).toNat)
  case atStart => exact ⟨0, by omega, rfl, hide (fun j _ h => absurd h (Nat.not_lt_zero _)), hide (Below.refl _ _)⟩
  case round =>
    obtain ⟨k, hk, rfl, HN, HB⟩ := hrel
    have hwl : w.heap.size < W.heap.size := by
      have := unhide HC 0 (by decide)
      exact lt_of_cell0 this
    by_cases hlt : k < 14
    · have hlt2 : (k : Int) < 14 := by omega
      have hkl : k < signLs.length := by rw [unhide H14]; exact hlt
      have c0 := ((unhide HB).cell (p := ⟨w.heap.size, k, none⟩) hwl).trans (unhide HC k hkl)
      have c1 := ((unhide HB).drew.cell (p := ⟨w.heap.size, k, none⟩) hwl).trans (unhide HC k hkl)
      have BD := hide (unhide HB).drew
      have PK := hide (fun (h : signLs[k].isPrefixOf t.data.toList = true) => pick_at t.data.toList k hkl (fun j h1 h2 => unhide HN j h1 h2) h)
      have NX := hide (fun (h : signLs[k].isPrefixOf t.data.toList = false) => show ∀ j (h : j < signLs.length), j < k + 1 → signLs[j].isPrefixOf t.data.toList = false from fun j h1 h2 => by
        by_cases e : j = k
        · subst e; exact h
        · exact unhide HN j h1 (by omega))
      obtain ⟨g, hg⟩ : ∃ g : ByteArray, Hid (g = ⟨signLs[k].toArray⟩) := ⟨_, hide rfl⟩
      have HGL := hide (show signLs[k] = g.data.toList from by rw [unhide hg])
      rw [← unhide hg] at c0 c1
      rw [unhide HGL] at PK NX
      by_cases hz : g.size ≤ t.size
      · have hz2 : (g.size : Int) ≤ (t.size : Int) := by omega
        have hq := pre_same t g hz
        cases hp : g.data.toList.isPrefixOf t.data.toList
        · rw [hp] at hq
          have NX2 := hide (unhide NX hp)
          clear hp PK NX hg HGL
          go_wp2_with fail
          go_region_held3 (fun X : World => X.cell? ⟨w.heap.size, k, none⟩ = some (.string g) ∧ X = wr.drew) ((exact ⟨c1, rfl⟩)) (fail)
          all_goals
            go_wp2_with fail
            go_roundw
            case rel => exact ⟨k + 1, by omega, by go_num, NX2, BD⟩
            case measure => simp [intOf]; omega
        · rw [hp] at hq
          have PK2 := hide (unhide PK hp)
          clear hp PK NX
          go_wp2_with fail
          go_region_held3 (fun X : World => X.cell? ⟨w.heap.size, k, none⟩ = some (.string g) ∧ X = wr.drew) ((exact ⟨c1, rfl⟩)) (fail)
          all_goals
            go_wp2_with fail
            go_ret
            exact ⟨by rw [unhide PK2]; rfl, (unhide A0).trans ((unhide BD).mono (unhide A0).size)⟩
      · have hz2 : ¬ (g.size : Int) ≤ (t.size : Int) := by omega
        have NX2 := hide (unhide NX (pre_long t g hz))
        clear PK NX hg HGL
        go_wp2_with fail
        go_region
        all_goals
          go_wp2_with fail
          go_roundw
          case rel => exact ⟨k + 1, by omega, by go_num, NX2, BD⟩
          case measure => simp [intOf]; omega
    · have HE := hide (pick_no t.data.toList (fun j h => unhide HN j h (by rw [unhide H14] at h; omega)))
      have hnl : ¬ (k : Int) < 14 := by omega
      go_wp2_with fail
      go_ret
      exact ⟨by rw [unhide HE]; rfl, (unhide A0).trans ((unhide HB).mono (unhide A0).size)⟩
end Go.Proofs.YtldgffkippejiaaGreatDoor
