/-
  Cutting a text into words: the specification.
-/
import Derived.Test.YtaonajalokhngaaGreatDoorBodyM
import Derived.Test.YtaonajalokhngaaGreatDoorMerged18
import Derived.Test.YtaonajalokhngaaGreatDoorBoxes
set_option linter.unusedVariables false
namespace Go.Proofs.YtaonajalokhngaaGreatDoor
open Go.RowKit Go.Maps Go.Deep

theorem run_go {s : ByteArray} {ls : Bool} {j : Nat} (h : j < s.size) (hd : (digB (byteAt s j) || (ls && letB (byteAt s j))) = true) : runEnd s ls j = runEnd s ls (j + 1) := by
  conv => lhs; rw [runEnd, dif_pos h, if_pos hd]
theorem run_stop {s : ByteArray} {ls : Bool} {j : Nat} (h : j < s.size) (hd : (digB (byteAt s j) || (ls && letB (byteAt s j))) = false) : runEnd s ls j = j := by
  rw [runEnd, dif_pos h, if_neg (by rw [hd]; simp)]
theorem run_end {s : ByteArray} {ls : Bool} {j : Nat} (h : ¬ j < s.size) : runEnd s ls j = j := by
  rw [runEnd, dif_neg h]
theorem run_le (s : ByteArray) (ls : Bool) : ∀ n j, s.size - j = n → j ≤ s.size → j ≤ runEnd s ls j ∧ runEnd s ls j ≤ s.size := by
  intro n
  induction n with
  | zero => intro j h1 h2; rw [run_end (by omega)]; omega
  | succ n ih =>
    intro j h1 h2
    cases hd : (digB (byteAt s j) || (ls && letB (byteAt s j)))
    · rw [run_stop (by omega) hd]; omega
    · rw [run_go (by omega) hd]
      have := ih (j + 1) (by omega) (by omega)
      omega
set_option maxHeartbeats 1600000 in
theorem l1Run_any (s : ByteArray) (k : Nat) (ls : Bool) (w : World) (hs : s.size ≤ 1500) (hk : k ≤ s.size) :
    Calls Tryz.prog 29 #[.string s, .int .i64 (k : Int), .bool ls] w fun e w' => e = .returned (.int .i64 (runEnd s ls k : Int)) ∧ w' = w := by
  go_enter Tryz.func29, Tryz.ntmps29
  go_wp2_with fail
  go_loopw [1] (fun av wr => ∃ j : Nat, j ≤ s.size ∧ av = .int .i64 (j : Int) ∧ Hid (runEnd s ls k = runEnd s ls j) ∧ wr = w) (fun av _ => s.size - (intOf av).toNat)
  case atStart => exact ⟨k, hk, rfl, hide rfl, rfl⟩
  case round =>
    obtain ⟨j, hj, rfl, HR, rfl⟩ := hrel
    by_cases hlt : j < s.size
    · have hbk := hide (byteAt_eq s j hlt)
      cases hd : digB (s[j]'hlt).toNat
      · cases ls
        · have HX := hide ((unhide HR).trans (run_stop hlt (by rw [unhide hbk, hd]; rfl)))
          go_wp2_with (first
            | (go_at_call 28; refine (l1Digit_any _ _).mono ?_; rintro e w1 ⟨rfl, rfl⟩)
            | go_in)
          go_ret
          exact ⟨by rw [unhide HX]; rfl, rfl⟩
        · cases hl : letB (s[j]'hlt).toNat
          · have HX := hide ((unhide HR).trans (run_stop hlt (by rw [unhide hbk, hd, hl]; rfl)))
            go_wp2_with (first
              | (go_at_call 28; refine (l1Digit_any _ _).mono ?_; rintro e w1 ⟨rfl, rfl⟩)
              | (go_at_call 30; refine (l1Letter_any _ _).mono ?_; rintro e w1 ⟨rfl, rfl⟩)
              | go_in)
            go_ret
            exact ⟨by rw [unhide HX]; rfl, rfl⟩
          · have HX := hide ((unhide HR).trans (run_go hlt (by rw [unhide hbk, hd, hl]; rfl)))
            go_wp2_with (first
              | (go_at_call 28; refine (l1Digit_any _ _).mono ?_; rintro e w1 ⟨rfl, rfl⟩)
              | (go_at_call 30; refine (l1Letter_any _ _).mono ?_; rintro e w1 ⟨rfl, rfl⟩)
              | go_in)
            go_roundw
            case rel => exact ⟨j + 1, by omega, by go_num, HX, trivial⟩
            case measure => simp [intOf]; omega
      · have HX := hide ((unhide HR).trans (run_go hlt (by rw [unhide hbk, hd]; rfl)))
        go_wp2_with (first
          | (go_at_call 28; refine (l1Digit_any _ _).mono ?_; rintro e w1 ⟨rfl, rfl⟩)
          | go_in)
        go_roundw
        case rel => exact ⟨j + 1, by omega, by go_num, HX, trivial⟩
        case measure => simp [intOf]; omega
    · have HX := hide ((unhide HR).trans (run_end hlt))
      go_wp2_with go_in
      go_ret
      exact ⟨by rw [unhide HX]; rfl, rfl⟩

def signStrs : List ByteArray := signLs.map fun l => ⟨l.toArray⟩
theorem l1Signs_any (w : World) : Calls Tryz.prog 50 #[] w fun e w' => e = .returned (.slice (some ⟨w.heap.size, 0, none⟩) 14 14) ∧ w' = w.alloc (.cells (signStrs.map Value.string).toArray 9) := by
  go_enter Tryz.func50, Tryz.ntmps50
  go_wp2
  go_ret
  exact ⟨rfl, rfl⟩
theorem pick_at (l : List UInt8) (k : Nat) (hk : k < signLs.length) (no : ∀ j (h : j < signLs.length), j < k → signLs[j].isPrefixOf l = false) (yes : signLs[k].isPrefixOf l = true) : signPreL l = signLs[k] := by
  unfold signPreL
  have : (signLs.find? fun g => g.isPrefixOf l) = some signLs[k] := by
    rw [List.find?_eq_some_iff_getElem]
    exact ⟨yes, k, hk, rfl, fun j hj => by rw [no j (by omega) hj]; rfl⟩
  rw [this]
  rfl
theorem pick_no (l : List UInt8) (no : ∀ j (h : j < signLs.length), signLs[j].isPrefixOf l = false) : signPreL l = [] := by
  unfold signPreL
  have : (signLs.find? fun g => g.isPrefixOf l) = none := by
    rw [List.find?_eq_none]
    intro g hg
    obtain ⟨j, hj, rfl⟩ := List.getElem_of_mem hg
    rw [no j hj]
    simp
  rw [this]
  rfl
theorem pre_same (t g : ByteArray) (h : g.size ≤ t.size) : ((t.extract 0 g.size).toList == g.toList) = g.data.toList.isPrefixOf t.data.toList := by
  rw [ByteArray.toList_eq, ByteArray.toList_eq, ext_lst, Bool.eq_iff_iff]
  simp only [Nat.sub_zero, List.drop_zero, beq_iff_eq, List.isPrefixOf_iff_prefix]
  constructor
  · intro e
    rw [← e]
    exact List.take_prefix _ _
  · intro e
    rw [List.prefix_iff_eq_take] at e
    rw [Array.length_toList] at e
    exact e.symm
theorem pre_long (t g : ByteArray) (h : ¬ g.size ≤ t.size) : g.data.toList.isPrefixOf t.data.toList = false := by
  cases hq : g.data.toList.isPrefixOf t.data.toList
  · rfl
  · rw [List.isPrefixOf_iff_prefix] at hq
    have := hq.length_le
    rw [Array.length_toList, Array.length_toList] at this
    exact absurd this h
set_option maxHeartbeats 1600000 in
theorem l1Sign_any (t : ByteArray) (w : World) (ht : t.size ≤ 1500) :
    Calls Tryz.prog 32 #[.string t] w fun e w' => e = .returned (.string ⟨(signPreL t.data.toList).toArray⟩) ∧ Below w.heap.size w w' := by
  have hcell : ∀ j (h : j < signLs.length), (w.alloc (.cells (signStrs.map Value.string).toArray 9)).cell? ⟨w.heap.size, j, none⟩ = some (.string ⟨signLs[j].toArray⟩) := by
    intro j hj
    rw [World.cell?_alloc_at _ _ _ _ rfl]
    simp [signStrs, hj]
  have HC := hide hcell
  have A0 := hide ((Below.refl w.heap.size w).alloc (Nat.le_refl _) (.cells (signStrs.map Value.string).toArray 9))
  have H14 := hide (show signLs.length = 14 from rfl)
  clear hcell
  go_enter Tryz.func32, Tryz.ntmps32
  go_wp2_with (first
    | (go_at_call 50; refine (l1Signs_any _).mono ?_; rintro e w1 ⟨rfl, rfl⟩)
    | go_in)
  generalize w.alloc (.cells (signStrs.map Value.string).toArray 9) = W at *
  go_loopw [4] (fun iv wr => ∃ k : Nat, k ≤ 14 ∧ iv = .int .i64 (k : Int) ∧ Hid (∀ j (h : j < signLs.length), j < k → signLs[j].isPrefixOf t.data.toList = false) ∧ Hid (Below W.heap.size W wr)) (fun iv _ => 14 - (intOf iv).toNat)
  case atStart => exact ⟨0, by omega, rfl, hide (fun j _ h => absurd h (Nat.not_lt_zero _)), hide (Below.refl _ _)⟩
  case round =>
    obtain ⟨k, hk, rfl, HN, HB⟩ := hrel
    have hwl : w.heap.size < W.heap.size := by
      have := unhide HC 0 (by decide)
      exact lt_of_cell0 this
    by_cases hlt : k < 14
    · have hlt2 : (k : Int) < 14 := by omega
      have hkl : k < signLs.length := by rw [unhide H14]; exact hlt
      have c0 := ((unhide HB).cell (p := ⟨w.heap.size, k, none⟩) hwl).trans (unhide HC k hkl)
      have c1 := ((unhide HB).drew.cell (p := ⟨w.heap.size, k, none⟩) hwl).trans (unhide HC k hkl)
      have BD := hide (unhide HB).drew
      have PK := hide (fun (h : signLs[k].isPrefixOf t.data.toList = true) => pick_at t.data.toList k hkl (fun j h1 h2 => unhide HN j h1 h2) h)
      have NX := hide (fun (h : signLs[k].isPrefixOf t.data.toList = false) => show ∀ j (h : j < signLs.length), j < k + 1 → signLs[j].isPrefixOf t.data.toList = false from fun j h1 h2 => by
        by_cases e : j = k
        · subst e; exact h
        · exact unhide HN j h1 (by omega))
      obtain ⟨g, hg⟩ : ∃ g : ByteArray, Hid (g = ⟨signLs[k].toArray⟩) := ⟨_, hide rfl⟩
      have HGL := hide (show signLs[k] = g.data.toList from by rw [unhide hg])
      rw [← unhide hg] at c0 c1
      rw [unhide HGL] at PK NX
      by_cases hz : g.size ≤ t.size
      · have hz2 : (g.size : Int) ≤ (t.size : Int) := by omega
        have hq := pre_same t g hz
        cases hp : g.data.toList.isPrefixOf t.data.toList
        · rw [hp] at hq
          have NX2 := hide (unhide NX hp)
          clear hp PK NX hg HGL
          go_wp2_with fail
          go_region_held3 (fun X : World => X.cell? ⟨w.heap.size, k, none⟩ = some (.string g) ∧ X = wr.drew) ((exact ⟨c1, rfl⟩)) (fail)
          all_goals
            go_wp2_with fail
            go_roundw
            case rel => exact ⟨k + 1, by omega, by go_num, NX2, BD⟩
            case measure => simp [intOf]; omega
        · rw [hp] at hq
          have PK2 := hide (unhide PK hp)
          clear hp PK NX
          go_wp2_with fail
          go_region_held3 (fun X : World => X.cell? ⟨w.heap.size, k, none⟩ = some (.string g) ∧ X = wr.drew) ((exact ⟨c1, rfl⟩)) (fail)
          all_goals
            go_wp2_with fail
            go_ret
            exact ⟨by rw [unhide PK2]; rfl, (unhide A0).trans ((unhide BD).mono (unhide A0).size)⟩
      · have hz2 : ¬ (g.size : Int) ≤ (t.size : Int) := by omega
        have NX2 := hide (unhide NX (pre_long t g hz))
        clear PK NX hg HGL
        go_wp2_with fail
        go_region
        all_goals
          go_wp2_with fail
          go_roundw
          case rel => exact ⟨k + 1, by omega, by go_num, NX2, BD⟩
          case measure => simp [intOf]; omega
    · have HE := hide (pick_no t.data.toList (fun j h => unhide HN j h (by rw [unhide H14] at h; omega)))
      have hnl : ¬ (k : Int) < 14 := by omega
      go_wp2_with fail
      go_ret
      exact ⟨by rw [unhide HE]; rfl, (unhide A0).trans ((unhide HB).mono (unhide A0).size)⟩
end Go.Proofs.YtaonajalokhngaaGreatDoor
