/-
  Cutting a text into words: the specification.
-/
/-
  Cutting a text into words: one word of the specification, and all.
-/
import Derived.Test.YtkfhokeoooafnaaGreatDoorBodyM
import Derived.Test.YtkfhokeoooafnaaGreatDoorMerged23
import Derived.Deep.RegionHeld3
set_option linter.unusedVariables false
namespace Go.Proofs.YtkfhokeoooafnaaGreatDoor
open Go.RowKit Go.Maps Go.Deep

theorem run_go {s : ByteArray} {ls : Bool} {j : Nat} (h : j < s.size) (hd : (digB (byteAt s j) || (ls && letB (byteAt s j))) = true) : runEnd s ls j = runEnd s ls (j + 1) := by
  conv => lhs; rw [runEnd, dif_pos h, if_pos hd]
theorem run_stop {s : ByteArray} {ls : Bool} {j : Nat} (h : j < s.size) (hd : (digB (byteAt s j) || (ls && letB (byteAt s j))) = false) : runEnd s ls j = j := by
  rw [runEnd, dif_pos h, if_neg (by rw [hd]; simp)]
theorem run_end {s : ByteArray} {ls : Bool} {j : Nat} (h : ¬ j < s.size) : runEnd s ls j = j := by
  rw [runEnd, dif_neg h]
theorem run_le (s : ByteArray) (ls : Bool) : ∀ n j, s.size - j = n → j ≤ s.size → j ≤ runEnd s ls j ∧ runEnd s ls j ≤ s.size := by
  intro n
  induction n with
  | zero => intro j h1 h2; rw [run_end (by omega)]; omega
  | succ n ih =>
    intro j h1 h2
    cases hd : (digB (byteAt s j) || (ls && letB (byteAt s j)))
    · rw [run_stop (by omega) hd]; omega
    · rw [run_go (by omega) hd]
      have := ih (j + 1) (by omega) (by omega)
      omega
set_option maxHeartbeats 1600000 in
theorem l1Run_any (s : ByteArray) (k : Nat) (ls : Bool) (w : World) (hs : s.size ≤ 1500) (hk : k ≤ s.size) :
    Calls Tryz.prog 80 #[.string s, .int .i64 (k : Int), .bool ls] w fun e w' => e = .returned (.int .i64 (runEnd s ls k : Int)) ∧ w' = w := by
  go_enter Tryz.func80, Tryz.ntmps80
  go_wp2_with fail
  go_loopw [1] (fun av wr => ∃ j : Nat, j ≤ s.size ∧ av = .int .i64 (j : Int) ∧ Hid (runEnd s ls k = runEnd s ls j) ∧ wr = w) (fun av _ => s.size - (intOf av).toNat)
  case atStart => exact ⟨k, hk, rfl, hide rfl, rfl⟩
  case round =>
    obtain ⟨j, hj, rfl, HR, rfl⟩ := hrel
    by_cases hlt : j < s.size
    · have hbk := hide (byteAt_eq s j hlt)
      cases hd : digB (s[j]'hlt).toNat
      · cases ls
        · have HX := hide ((unhide HR).trans (run_stop hlt (by rw [unhide hbk, hd]; rfl)))
          go_wp2_with (first
            | (go_at_call 78; refine (l1Digit_any _ _).mono ?_; rintro e w1 ⟨rfl, rfl⟩)
            | go_in)
          go_ret
          exact ⟨by rw [unhide HX]; rfl, rfl⟩
        · cases hl : letB (s[j]'hlt).toNat
          · have HX := hide ((unhide HR).trans (run_stop hlt (by rw [unhide hbk, hd, hl]; rfl)))
            go_wp2_with (first
              | (go_at_call 78; refine (l1Digit_any _ _).mono ?_; rintro e w1 ⟨rfl, rfl⟩)
              | (go_at_call 77; refine (l1Letter_any _ _).mono ?_; rintro e w1 ⟨rfl, rfl⟩)
              | go_in)
            go_ret
            exact ⟨by rw [unhide HX]; rfl, rfl⟩
          · have HX := hide ((unhide HR).trans (run_go hlt (by rw [unhide hbk, hd, hl]; rfl)))
            go_wp2_with (first
              | (go_at_call 78; refine (l1Digit_any _ _).mono ?_; rintro e w1 ⟨rfl, rfl⟩)
              | (go_at_call 77; refine (l1Letter_any _ _).mono ?_; rintro e w1 ⟨rfl, rfl⟩)
              | go_in)
            go_roundw
            case rel => exact ⟨j + 1, by omega, by go_num, HX, trivial⟩
            case measure => simp [intOf]; omega
      · have HX := hide ((unhide HR).trans (run_go hlt (by rw [unhide hbk, hd]; rfl)))
        go_wp2_with (first
          | (go_at_call 78; refine (l1Digit_any _ _).mono ?_; rintro e w1 ⟨rfl, rfl⟩)
          | go_in)
        go_roundw
        case rel => exact ⟨j + 1, by omega, by go_num, HX, trivial⟩
        case measure => simp [intOf]; omega
    · have HX := hide ((unhide HR).trans (run_end hlt))
      go_wp2_with go_in
      go_ret
      exact ⟨by rw [unhide HX]; rfl, rfl⟩

def signStrs : List ByteArray := signLs.map fun l => ⟨l.toArray⟩
theorem l1Signs_any (w : World) : Calls Tryz.prog 104 #[] w fun e w' => e = .returned (.slice (some ⟨w.heap.size, 0, none⟩) 14 14) ∧ w' = w.alloc (.cells (signStrs.map Value.string).toArray 9) := by
  go_enter Tryz.func104, Tryz.ntmps104
  go_wp2
  go_ret
  exact ⟨rfl, rfl⟩
theorem pick_at (l : List UInt8) (k : Nat) (hk : k < signLs.length) (no : ∀ j (h : j < signLs.length), j < k → signLs[j].isPrefixOf l = false) (yes : signLs[k].isPrefixOf l = true) : signPreL l = signLs[k] := by
  unfold signPreL
  have : (signLs.find? fun g => g.isPrefixOf l) = some signLs[k] := by
    rw [List.find?_eq_some_iff_getElem]
    exact ⟨yes, k, hk, rfl, fun j hj => by rw [no j (by omega) hj]; rfl⟩
  rw [this]
  rfl
theorem pick_no (l : List UInt8) (no : ∀ j (h : j < signLs.length), signLs[j].isPrefixOf l = false) : signPreL l = [] := by
  unfold signPreL
  have : (signLs.find? fun g => g.isPrefixOf l) = none := by
    rw [List.find?_eq_none]
    intro g hg
    obtain ⟨j, hj, rfl⟩ := List.getElem_of_mem hg
    rw [no j hj]
    simp
  rw [this]
  rfl
theorem pre_same (t g : ByteArray) (h : g.size ≤ t.size) : ((t.extract 0 g.size).toList == g.toList) = g.data.toList.isPrefixOf t.data.toList := by
  rw [ByteArray.toList_eq, ByteArray.toList_eq, ext_lst, Bool.eq_iff_iff]
  simp only [Nat.sub_zero, List.drop_zero, beq_iff_eq, List.isPrefixOf_iff_prefix]
  constructor
  · intro e
    rw [← e]
    exact List.take_prefix _ _
  · intro e
    rw [List.prefix_iff_eq_take] at e
    rw [Array.length_toList] at e
    exact e.symm
theorem pre_long (t g : ByteArray) (h : ¬ g.size ≤ t.size) : g.data.toList.isPrefixOf t.data.toList = false := by
  cases hq : g.data.toList.isPrefixOf t.data.toList
  · rfl
  · rw [List.isPrefixOf_iff_prefix] at hq
    have := hq.length_le
    rw [Array.length_toList, Array.length_toList] at this
    exact absurd this h
set_option maxHeartbeats 1600000 in
theorem l1Sign_any (t : ByteArray) (w : World) (ht : t.size ≤ 1500) :
    Calls Tryz.prog 81 #[.string t] w fun e w' => e = .returned (.string ⟨(signPreL t.data.toList).toArray⟩) ∧ Below w.heap.size w w' := by
  have hcell : ∀ j (h : j < signLs.length), (w.alloc (.cells (signStrs.map Value.string).toArray 9)).cell? ⟨w.heap.size, j, none⟩ = some (.string ⟨signLs[j].toArray⟩) := by
    intro j hj
    rw [World.cell?_alloc_at _ _ _ _ rfl]
    simp [signStrs, hj]
  have HC := hide hcell
  have A0 := hide ((Below.refl w.heap.size w).alloc (Nat.le_refl _) (.cells (signStrs.map Value.string).toArray 9))
  have H14 := hide (show signLs.length = 14 from rfl)
  clear hcell
  go_enter Tryz.func81, Tryz.ntmps81
  go_wp2_with (first
    | (go_at_call 104; refine (l1Signs_any _).mono ?_; rintro e w1 ⟨rfl, rfl⟩)
    | go_in)
  generalize w.alloc (.cells (signStrs.map Value.string).toArray 9) = W at *
  go_loopw [4] (fun iv wr => ∃ k : Nat, k ≤ 14 ∧ iv = .int .i64 (k : Int) ∧ Hid (∀ j (h : j < signLs.length), j < k → signLs[j].isPrefixOf t.data.toList = false) ∧ Hid (Below W.heap.size W wr)) (fun iv _ => 14 - (intOf iv).toNat)
  case atStart => exact ⟨0, by omega, rfl, hide (fun j _ h => absurd h (Nat.not_lt_zero _)), hide (Below.refl _ _)⟩
  case round =>
    obtain ⟨k, hk, rfl, HN, HB⟩ := hrel
    have hwl : w.heap.size < W.heap.size := by
      have := unhide HC 0 (by decide)
      exact lt_of_cell0 this
    by_cases hlt : k < 14
    · have hlt2 : (k : Int) < 14 := by omega
      have hkl : k < signLs.length := by rw [unhide H14]; exact hlt
      have c0 := ((unhide HB).cell (p := ⟨w.heap.size, k, none⟩) hwl).trans (unhide HC k hkl)
      have c1 := ((unhide HB).drew.cell (p := ⟨w.heap.size, k, none⟩) hwl).trans (unhide HC k hkl)
      have BD := hide (unhide HB).drew
      have PK := hide (fun (h : signLs[k].isPrefixOf t.data.toList = true) => pick_at t.data.toList k hkl (fun j h1 h2 => unhide HN j h1 h2) h)
      have NX := hide (fun (h : signLs[k].isPrefixOf t.data.toList = false) => show ∀ j (h : j < signLs.length), j < k + 1 → signLs[j].isPrefixOf t.data.toList = false from fun j h1 h2 => by
        by_cases e : j = k
        · subst e; exact h
        · exact unhide HN j h1 (by omega))
      obtain ⟨g, hg⟩ : ∃ g : ByteArray, Hid (g = ⟨signLs[k].toArray⟩) := ⟨_, hide rfl⟩
      have HGL := hide (show signLs[k] = g.data.toList from by rw [unhide hg])
      rw [← unhide hg] at c0 c1
      rw [unhide HGL] at PK NX
      by_cases hz : g.size ≤ t.size
      · have hz2 : (g.size : Int) ≤ (t.size : Int) := by omega
        have hq := pre_same t g hz
        cases hp : g.data.toList.isPrefixOf t.data.toList
        · rw [hp] at hq
          have NX2 := hide (unhide NX hp)
          clear hp PK NX hg HGL
          go_wp2_with fail
          go_region_held3 (fun X : World => X.cell? ⟨w.heap.size, k, none⟩ = some (.string g) ∧ X = wr.drew) ((exact ⟨c1, rfl⟩)) (fail)
          all_goals
            go_wp2_with fail
            go_roundw
            case rel => exact ⟨k + 1, by omega, by go_num, NX2, BD⟩
            case measure => simp [intOf]; omega
        · rw [hp] at hq
          have PK2 := hide (unhide PK hp)
          clear hp PK NX
          go_wp2_with fail
          go_region_held3 (fun X : World => X.cell? ⟨w.heap.size, k, none⟩ = some (.string g) ∧ X = wr.drew) ((exact ⟨c1, rfl⟩)) (fail)
          all_goals
            go_wp2_with fail
            go_ret
            exact ⟨by rw [unhide PK2]; rfl, (unhide A0).trans ((unhide BD).mono (unhide A0).size)⟩
      · have hz2 : ¬ (g.size : Int) ≤ (t.size : Int) := by omega
        have NX2 := hide (unhide NX (pre_long t g hz))
        clear PK NX hg HGL
        go_wp2_with fail
        go_region
        all_goals
          go_wp2_with fail
          go_roundw
          case rel => exact ⟨k + 1, by omega, by go_num, NX2, BD⟩
          case measure => simp [intOf]; omega
    · have HE := hide (pick_no t.data.toList (fun j h => unhide HN j h (by rw [unhide H14] at h; omega)))
      have hnl : ¬ (k : Int) < 14 := by omega
      go_wp2_with fail
      go_ret
      exact ⟨by rw [unhide HE]; rfl, (unhide A0).trans ((unhide HB).mono (unhide A0).size)⟩
end Go.Proofs.YtkfhokeoooafnaaGreatDoor

set_option linter.unusedVariables false
namespace Go.Proofs.YtkfhokeoooafnaaGreatDoor
open Go.RowKit Go.Maps Go.Deep

theorem BoxF.triW {w : World} {g : Nat} {a b c : Value} (h : BoxF w g [a, b, c]) : (w.cell? ⟨g, 0, none⟩ = some a ∧ w.cell? ⟨g, 1, none⟩ = some b ∧ w.cell? ⟨g, 2, none⟩ = some c) ∧ (w.frozen? ⟨g, 0, none⟩ = false ∧ w.frozen? ⟨g, 1, none⟩ = false ∧ w.frozen? ⟨g, 2, none⟩ = false) :=
  ⟨⟨h.1.at 0 _ rfl, h.1.at 1 _ rfl, h.1.at 2 _ rfl⟩, h.2 0 (by simp), h.2 1 (by simp), h.2 2 (by simp)⟩
theorem pre_prefix (l : List UInt8) : signPreL l <+: l := by
  unfold signPreL
  cases hq : (signLs.find? fun g => g.isPrefixOf l) with
  | none => exact List.nil_prefix
  | some g =>
    have := List.find?_some hq
    exact List.isPrefixOf_iff_prefix.1 this
def RetWd (r : WRes) (e : Ending) : Prop := match r with
  | .bad c => e = .returned (.tuple #[.agg #[.int .i64 0, .string ⟨#[]⟩, .int .i64 0], .int .i64 0, .int .i64 c])
  | .word x n => e = .returned (.tuple #[.agg #[.int .i64 x.a0, .string x.a1, .int .i64 x.a2], .int .i64 (n : Int), .int .i64 0])
set_option maxHeartbeats 6400000 in
set_option maxRecDepth 20000 in
theorem l1Word_any (s : ByteArray) (k : Nat) (w : World) (hs : s.size ≤ 1500) (hk : k < s.size) :
    Calls Tryz.prog 49 #[.string s, .int .i64 (k : Int)] w fun e w' => RetWd (wordAt s k) e ∧ Below w.heap.size w w' := by
  have hbk := hide (byteAt_eq s k hk)
  have A0 := hide ((Below.refl _ w).alloc (Nat.le_refl _) (.cells #[.int .i64 0, .string ⟨#[]⟩, .int .i64 0] 62))
  have X0 := hide (boxF_new w [.int .i64 0, .string ⟨#[]⟩, .int .i64 0] 62)
  simp only [List.toArray] at X0
  have hk2 : (k : Int) ≤ (s.size : Int) := by omega
  cases hd : digB (s[k]'hk).toNat
  rotate_left
  · have HW := hide (show wordAt s k = if 18 < (s.extract k (runEnd s false k)).size ∨ (byteAt s k = 48 ∧ 1 < (s.extract k (runEnd s false k)).size) then .bad 3 else .word ⟨1, s.extract k (runEnd s false k), k⟩ (runEnd s false k) from by unfold wordAt; rw [unhide hbk, if_pos hd])
    have HR := hide (fun (W : World) => l1Run_any s k false W hs (by omega))
    have hle := run_le s false _ k rfl (by omega)
    generalize runEnd s false k = en at *
    have q1 : (k : Int) ≤ (en : Int) := by omega
    have q2 : (en : Int) ≤ (s.size : Int) := by omega
    generalize hex : s.extract k en = tx at *
    go_enter Tryz.func49, Tryz.ntmps49
    go_wp2_with (first
      | (go_at_call 78; refine (l1Digit_any _ _).mono ?_; rintro e w1 ⟨rfl, rfl⟩)
      | (go_at_call 80; refine (unhide HR _).mono ?_; rintro e w1 ⟨rfl, rfl⟩)
      | fail)
    all_goals
      have hbk2 := unhide hbk
      first
      | (refine bodyPost_ret (v := .tuple #[.agg #[.int .i64 0, .string ⟨#[]⟩, .int .i64 0], .int .i64 0, .int .i64 3]) (by simp [results, Tryz.results49, go_sem]) rfl ?_
         refine ⟨?_, ((Below.refl _ w).alloc (Nat.le_refl _) _).alloc (by simp) _⟩
         rw [unhide HW, if_pos (by omega)]
         rfl)
      | (refine bodyPost_ret (v := .tuple #[.agg #[.int .i64 1, .string tx, .int .i64 (k : Int)], .int .i64 (en : Int), .int .i64 0]) (by simp [results, Tryz.results49, go_sem]) rfl ?_
         refine ⟨?_, ((Below.refl _ w).alloc (Nat.le_refl _) _).alloc (by simp) _⟩
         rw [unhide HW, if_neg (by omega)]
         rfl)
  cases hl : letB (s[k]'hk).toNat
  rotate_left
  · have HW := hide (show wordAt s k = if 8 < (s.extract k (runEnd s true k)).size then .bad 4 else .word ⟨if isKeyB (s.extract k (runEnd s true k)) then 3 else 2, s.extract k (runEnd s true k), k⟩ (runEnd s true k) from by unfold wordAt; rw [unhide hbk, if_neg (by rw [hd]; simp), if_pos hl])
    have HR := hide (fun (W : World) => l1Run_any s k true W hs (by omega))
    have hle := run_le s true _ k rfl (by omega)
    generalize runEnd s true k = en at *
    have q1 : (k : Int) ≤ (en : Int) := by omega
    have q2 : (en : Int) ≤ (s.size : Int) := by omega
    have HZ := hide (show (s.extract k en).size ≤ 1500 from by rw [ByteArray.size_extract]; omega)
    generalize hex : s.extract k en = tx at *
    have HK := hide (fun (W : World) => specKey_any W tx)
    by_cases h8 : (8 : Int) < (tx.size : Int)
    · have HW2 := hide ((unhide HW).trans (if_pos (by omega)))
      clear HW HK
      go_enter Tryz.func49, Tryz.ntmps49
      go_wp2_with (first
        | (go_at_call 78; refine (l1Digit_any _ _).mono ?_; rintro e w1 ⟨rfl, rfl⟩)
        | (go_at_call 77; refine (l1Letter_any _ _).mono ?_; rintro e w1 ⟨rfl, rfl⟩)
        | (go_at_call 80; refine (unhide HR _).mono ?_; rintro e w1 ⟨rfl, rfl⟩)
        | fail)
      refine bodyPost_ret (v := .tuple #[.agg #[.int .i64 0, .string ⟨#[]⟩, .int .i64 0], .int .i64 0, .int .i64 4]) (by simp [results, Tryz.results49, go_sem]) rfl ?_
      refine ⟨?_, ((Below.refl _ w).alloc (Nat.le_refl _) _).alloc (by simp) _⟩
      rw [unhide HW2]
      rfl
    · have HW2 := hide ((unhide HW).trans (if_neg (by omega)))
      clear HW
      have A1 := hide ((unhide A0).alloc (by simp) (.cells #[.int .i64 2, .string tx, .int .i64 (k : Int)] 62))
      have X1 := hide (boxF_new (w.alloc (.cells #[.int .i64 0, .string ⟨#[]⟩, .int .i64 0] 62)) [.int .i64 2, .string tx, .int .i64 (k : Int)] 62)
      have Y1 := hide ((unhide X0).up ((Below.refl _ (w.alloc (.cells #[.int .i64 0, .string ⟨#[]⟩, .int .i64 0] 62))).alloc (Nat.le_refl _) (.cells #[.int .i64 2, .string tx, .int .i64 (k : Int)] 62)))
      simp only [List.toArray] at X1
      have HQ := hide (show (w.alloc (.cells #[.int .i64 0, .string ⟨#[]⟩, .int .i64 0] 62)).heap.size = w.heap.size + 1 from by simp)
      rw [unhide HQ] at X1
      go_enter Tryz.func49, Tryz.ntmps49
      go_wp2_with (first
        | (go_at_call 78; refine (l1Digit_any _ _).mono ?_; rintro e w1 ⟨rfl, rfl⟩)
        | (go_at_call 77; refine (l1Letter_any _ _).mono ?_; rintro e w1 ⟨rfl, rfl⟩)
        | (go_at_call 80; refine (unhide HR _).mono ?_; rintro e w1 ⟨rfl, rfl⟩)
        | fail)
      refine (unhide HK _).mono ?_
      rintro e w2 ⟨rfl, b2⟩
      have X2 := hide ((unhide X1).up b2)
      have Y2 := hide ((unhide Y1).up b2)
      have A2 := hide ((unhide A1).trans (b2.mono (unhide A1).size))
      clear b2 X1 Y1 A1 A0 X0
      obtain ⟨⟨x0, x1, x2⟩, f0, f1, f2⟩ := (unhide X2).triW
      obtain ⟨⟨y0, y1, y2⟩, g0, g1, g2⟩ := (unhide Y2).triW
      cases hkk : isKeyB tx
      · rw [hkk] at HW2
        go_wp2_with fail
        refine bodyPost_ret (v := .tuple #[.agg #[.int .i64 2, .string tx, .int .i64 (k : Int)], .int .i64 (en : Int), .int .i64 0]) (by simp [results, Tryz.results49, go_sem, y0, y1, y2]) rfl ?_
        refine ⟨by rw [unhide HW2]; rfl, ?_⟩
        (iterate 3 (refine Below.setCell ?_ (by exact Nat.le_refl _) _))
        exact unhide A2
      · rw [hkk] at HW2
        have X3 := hide ((unhide X2).set 0 (.int .i64 3) (by simp))
        simp only [List.set] at X3
        obtain ⟨⟨u0, u1, u2⟩, -⟩ := (unhide X3).triW
        go_wp2_with fail
        refine bodyPost_ret (v := .tuple #[.agg #[.int .i64 3, .string tx, .int .i64 (k : Int)], .int .i64 (en : Int), .int .i64 0]) (by simp [results, Tryz.results49, go_sem, y0, y1, y2]) rfl ?_
        refine ⟨by rw [unhide HW2]; rfl, ?_⟩
        (iterate 3 (refine Below.setCell ?_ (by exact Nat.le_refl _) _))
        exact (unhide A2).setCell (by simp) _
  · have HW := hide (show wordAt s k = if signPreL (tailL s k) = [] then .bad 2 else .word ⟨4, ⟨(signPreL (tailL s k)).toArray⟩, k⟩ (k + (signPreL (tailL s k)).length) from by unfold wordAt; rw [unhide hbk, if_neg (by rw [hd]; simp), if_neg (by rw [hl]; simp)])
    have HS := hide (fun (W : World) => l1Sign_any (s.extract k s.size) W (by rw [ByteArray.size_extract]; omega))
    have e1 : (s.extract k s.size).data.toList = tailL s k := rfl
    rw [e1] at HS
    have hpl : (signPreL (tailL s k)).length ≤ s.size - k := by
      have := (pre_prefix (tailL s k)).length_le
      rw [tail_lst, List.length_drop, Array.length_toList] at this
      rw [tail_lst]
      exact this
    clear e1
    generalize signPreL (tailL s k) = sg at *
    generalize hrest : s.extract k s.size = rest at *
    have A1 := hide ((unhide A0).alloc (by simp) (.cells #[.int .i64 4, .string ⟨#[]⟩, .int .i64 (k : Int)] 62))
    have X1 := hide (boxF_new (w.alloc (.cells #[.int .i64 0, .string ⟨#[]⟩, .int .i64 0] 62)) [.int .i64 4, .string ⟨#[]⟩, .int .i64 (k : Int)] 62)
    have Y1 := hide ((unhide X0).up ((Below.refl _ (w.alloc (.cells #[.int .i64 0, .string ⟨#[]⟩, .int .i64 0] 62))).alloc (Nat.le_refl _) (.cells #[.int .i64 4, .string ⟨#[]⟩, .int .i64 (k : Int)] 62)))
    simp only [List.toArray] at X1
    have HQ := hide (show (w.alloc (.cells #[.int .i64 0, .string ⟨#[]⟩, .int .i64 0] 62)).heap.size = w.heap.size + 1 from by simp)
    rw [unhide HQ] at X1
    go_enter Tryz.func49, Tryz.ntmps49
    go_wp2_with (first
      | (go_at_call 78; refine (l1Digit_any _ _).mono ?_; rintro e w1 ⟨rfl, rfl⟩)
      | (go_at_call 77; refine (l1Letter_any _ _).mono ?_; rintro e w1 ⟨rfl, rfl⟩)
      | fail)
    refine (unhide HS _).mono ?_
    rintro e w2 ⟨rfl, b2⟩
    have X2 := hide ((unhide X1).up b2)
    have Y2 := hide ((unhide Y1).up b2)
    have A2 := hide ((unhide A1).trans (b2.mono (unhide A1).size))
    clear b2 X1 Y1 A1 A0 X0 HS
    have htz : (⟨sg.toArray⟩ : ByteArray).size = sg.length := rfl
    have X3 := hide ((unhide X2).set 1 (.string ⟨sg.toArray⟩) (by simp))
    simp only [List.set] at X3
    have Y3 := hide (show BoxF (w2.setCell ⟨w.heap.size + 1, 1, none⟩ (.string ⟨sg.toArray⟩)) w.heap.size [.int .i64 0, .string ⟨#[]⟩, .int .i64 0] from (unhide Y2).turn ((Turn.refl [w.heap.size + 1] w2).setCell (by simp) 1 (.string ⟨sg.toArray⟩)) (by simp))
    have A3 := hide (show Below w.heap.size w (w2.setCell ⟨w.heap.size + 1, 1, none⟩ (.string ⟨sg.toArray⟩)) from (unhide A2).setCell (by simp) _)
    obtain ⟨⟨x0, x1, x2⟩, f0, f1, f2⟩ := (unhide X2).triW
    cases hsg : sg with
    | nil =>
      subst hsg
      rw [if_pos rfl] at HW
      obtain ⟨⟨y0, y1, y2⟩, g0, g1, g2⟩ := (unhide Y3).triW
      obtain ⟨⟨u0, u1, u2⟩, -⟩ := (unhide X3).triW
      clear X2 Y2 X3 Y3
      go_wp2_with fail
      refine bodyPost_ret (v := .tuple #[.agg #[.int .i64 0, .string ⟨#[]⟩, .int .i64 0], .int .i64 0, .int .i64 2]) (by simp [results, Tryz.results49, go_sem, y0, y1, y2]) rfl ?_
      refine ⟨by rw [unhide HW]; rfl, ?_⟩
      (iterate 3 (refine Below.setCell ?_ (by exact Nat.le_refl _) _))
      exact unhide A3
    | cons b r =>
      subst hsg
      rw [if_neg (by simp)] at HW
      have HLN := hide (show (⟨(b :: r).toArray⟩ : ByteArray).size = (b :: r).length from rfl)
      have hne : ((⟨(b :: r).toArray⟩ : ByteArray).toList == []) = false := by rw [ByteArray.toList_eq]; rfl
      clear htz
      generalize (b :: r).length = m at *
      generalize (⟨(b :: r).toArray⟩ : ByteArray) = tx at *
      obtain ⟨⟨y0, y1, y2⟩, g0, g1, g2⟩ := (unhide Y3).triW
      obtain ⟨⟨u0, u1, u2⟩, -⟩ := (unhide X3).triW
      have hm := unhide HLN
      have hsum : IntKind.i64.wrap ((k : Int) + (m : Int)) = (k : Int) + (m : Int) := by rw [IntKind.wrap_i64]; omega
      have hce : ((k + m : Nat) : Int) = (k : Int) + (m : Int) := by omega
      clear X2 Y2 X3 Y3 HLN
      go_wp2_with fail
      go_region
      all_goals
        go_wp2_with fail
        refine bodyPost_ret (v := .tuple #[.agg #[.int .i64 4, .string tx, .int .i64 (k : Int)], .int .i64 ((k : Int) + (m : Int)), .int .i64 0]) (by simp [results, Tryz.results49, go_sem, y0, y1, y2]) rfl ?_
        refine ⟨by rw [unhide HW, ← hce]; rfl, Below.drew ?_⟩
        (iterate 3 (refine Below.setCell ?_ (by exact Nat.le_refl _) _))
        exact unhide A3
end Go.Proofs.YtkfhokeoooafnaaGreatDoor
