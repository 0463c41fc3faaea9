/-
  Cutting a text into words: one word of the specification, and all.
-/
import Derived.Test.YtldgffkippejiaaGreatDoorMerged29
import Derived.Deep.RegionHeld3
set_option linter.unusedVariables false
namespace Go.Proofs.YtldgffkippejiaaGreatDoor
open Go.RowKit Go.Maps Go.Deep

theorem BoxF.triW {w : World} {g : Nat} {a b c : Value} (h : BoxF w g [a, b, c]) : (w.cell? ⟨g, 0, none⟩ = some a ∧ w.cell? ⟨g, 1, none⟩ = some b ∧ w.cell? ⟨g, 2, none⟩ = some c) ∧ (w.frozen? ⟨g, 0, none⟩ = false ∧ w.frozen? ⟨g, 1, none⟩ = false ∧ w.frozen? ⟨g, 2, none⟩ = false) :=
  ⟨⟨h.1.at 0 _ rfl, h.1.at 1 _ rfl, h.1.at 2 _ rfl⟩, h.2 0 (by simp), h.2 1 (by simp), h.2 2 (by simp)⟩
theorem pre_prefix (l : List UInt8) : signPreL l <+: l := by
  unfold signPreL
  cases hq : (signLs.find? fun g => g.isPrefixOf l) with
  | none => exact List.nil_prefix
  | some g =>
    have := List.find?_some hq
    exact List.isPrefixOf_iff_prefix.1 this
def RetWd (r : WRes) (e : Ending) : Prop := match r with
  | .bad c => e = .returned (.tuple #[.agg #[.int .i64 0, .string ⟨#[]⟩, .int .i64 0], .int .i64 0, .int .i64 c])
  | .word x n => e = .returned (.tuple #[.agg #[.int .i64 x.a0, .string x.a1, .int .i64 x.a2], .int .i64 (n : Int), .int .i64 0])
set_option maxHeartbeats 6400000 in
set_option maxRecDepth 20000 in
theorem l1Word_any (s : ByteArray) (k : Nat) (w : World) (hs : s.size ≤ 1500) (hk : k < s.size) :
    Calls Tryz.prog 33 #[.string s, .int .i64 (k : Int)] w fun e w' => RetWd (wordAt s k) e ∧ Below w.heap.size w w' := by
  have hbk := hide (byteAt_eq s k hk)
  have A0 := hide ((Below.refl _ w).alloc (Nat.le_refl _) (.cells #[.int .i64 0, .string ⟨#[]⟩, .int .i64 0] 54))
  have X0 := hide (boxF_new w [.int .i64 0, .string ⟨#[]⟩, .int .i64 0] 54)
  simp only [List.toArray] at X0
  have hk2 : (k : Int) ≤ (s.size : Int) := by omega
  cases hd : digB (s[k]'hk).toNat
  rotate_left
  · have HW := hide (show wordAt s k = if 18 < (s.extract k (runEnd s false k)).size ∨ (byteAt s k = 48 ∧ 1 < (s.extract k (runEnd s false k)).size) then .bad 3 else .word ⟨1, s.extract k (runEnd s false k), k⟩ (runEnd s false k) from by unfold wordAt; rw [unhide hbk, if_pos hd])
    have HR := hide (fun (W : World) => l1Run_any s k false W hs (by omega))
    have hle := run_le s false _ k rfl (by omega)
    generalize runEnd s false k = en at *
    have q1 : (k : Int) ≤ (en : Int) := by omega
    have q2 : (en : Int) ≤ (s.size : Int) := by omega
    generalize hex : s.extract k en = tx at *
    go_enter Tryz.func33, Tryz.ntmps33
    go_wp2_with (first
      | (go_at_call 30; refine (l1Digit_any _ _).mono ?_; rintro e w1 ⟨rfl, rfl⟩)
      | (go_at_call 51; refine (unhide HR _).mono ?_; rintro e w1 ⟨rfl, rfl⟩)
      | fail)
    all_goals
      have hbk2 := unhide hbk
      first
      | (refine bodyPost_ret (v := .tuple #[.agg #[.int .i64 0, .string ⟨#[]⟩, .int .i64 0], .int .i64 0, .int .i64 3]) (by simp [results, Tryz.results33, go_sem]) rfl ?_
         refine ⟨?_, ((Below.refl _ w).alloc (Nat.le_refl _) _).alloc (by simp) _⟩
         rw [unhide HW, if_pos (by omega)]
         rfl)
      | (refine bodyPost_ret (v := .tuple #[.agg #[.int .i64 1, .string tx, .int .i64 (k : Int)], .int .i64 (en : Int), .int .i64 0]) (by simp [results, Tryz.results33, go_sem]) rfl ?_
         refine ⟨?_, ((Below.refl _ w).alloc (Nat.le_refl _) _).alloc (by simp) _⟩
         rw [unhide HW, if_neg (by omega)]
         rfl)
  cases hl : letB (s[k]'hk).toNat
  rotate_left
  · have HW := hide (show wordAt s k = if 8 < (s.extract k (runEnd s true k)).size then .bad 4 else .word ⟨if isKeyB (s.extract k (runEnd s true k)) then 3 else 2, s.extract k (runEnd s true k), k⟩ (runEnd s true k) from by unfold wordAt; rw [unhide hbk, if_neg (by rw [hd]; simp), if_pos hl])
    have HR := hide (fun (W : World) => l1Run_any s k true W hs (by omega))
    have hle := run_le s true _ k rfl (by omega)
    generalize runEnd s true k = en at *
    have q1 : (k : Int) ≤ (en : Int) := by omega
    have q2 : (en : Int) ≤ (s.size : Int) := by omega
    have HZ := hide (show (s.extract k en).size ≤ 1500 from by rw [ByteArray.size_extract]; omega)
    generalize hex : s.extract k en = tx at *
    have HK := hide (fun (W : World) => specKey_any W tx)
    by_cases h8 : (8 : Int) < (tx.size : Int)
    · have HW2 := hide ((unhide HW).trans (if_pos (by omega)))
      clear HW HK
      go_enter Tryz.func33, Tryz.ntmps33
      go_wp2_with (first
        | (go_at_call 30; refine (l1Digit_any _ _).mono ?_; rintro e w1 ⟨rfl, rfl⟩)
        | (go_at_call 29; refine (l1Letter_any _ _).mono ?_; rintro e w1 ⟨rfl, rfl⟩)
        | (go_at_call 51; refine (unhide HR _).mono ?_; rintro e w1 ⟨rfl, rfl⟩)
        | fail)
      refine bodyPost_ret (v := .tuple #[.agg #[.int .i64 0, .string ⟨#[]⟩, .int .i64 0], .int .i64 0, .int .i64 4]) (by simp [results, Tryz.results33, go_sem]) rfl ?_
      refine ⟨?_, ((Below.refl _ w).alloc (Nat.le_refl _) _).alloc (by simp) _⟩
      rw [unhide HW2]
      rfl
    · have HW2 := hide ((unhide HW).trans (if_neg (by omega)))
      clear HW
      have A1 := hide ((unhide A0).alloc (by simp) (.cells #[.int .i64 2, .string tx, .int .i64 (k : Int)] 54))
      have X1 := hide (boxF_new (w.alloc (.cells #[.int .i64 0, .string ⟨#[]⟩, .int .i64 0] 54)) [.int .i64 2, .string tx, .int .i64 (k : Int)] 54)
      have Y1 := hide ((unhide X0).up ((Below.refl _ (w.alloc (.cells #[.int .i64 0, .string ⟨#[]⟩, .int .i64 0] 54))).alloc (Nat.le_refl _) (.cells #[.int .i64 2, .string tx, .int .i64 (k : Int)] 54)))
      simp only [List.toArray] at X1
      have HQ := hide (show (w.alloc (.cells #[.int .i64 0, .string ⟨#[]⟩, .int .i64 0] 54)).heap.size = w.heap.size + 1 from by simp)
      rw [unhide HQ] at X1
      go_enter Tryz.func33, Tryz.ntmps33
      go_wp2_with (first
        | (go_at_call 30; refine (l1Digit_any _ _).mono ?_; rintro e w1 ⟨rfl, rfl⟩)
        | (go_at_call 29; refine (l1Letter_any _ _).mono ?_; rintro e w1 ⟨rfl, rfl⟩)
        | (go_at_call 51; refine (unhide HR _).mono ?_; rintro e w1 ⟨rfl, rfl⟩)
        | fail)
      refine (unhide HK _).mono ?_
      rintro e w2 ⟨rfl, b2⟩
      have X2 := hide ((unhide X1).up b2)
      have Y2 := hide ((unhide Y1).up b2)
      have A2 := hide ((unhide A1).trans (b2.mono (unhide A1).size))
      clear b2 X1 Y1 A1 A0 X0
      obtain ⟨⟨x0, x1, x2⟩, f0, f1, f2⟩ := (unhide X2).triW
      obtain ⟨⟨y0, y1, y2⟩, g0, g1, g2⟩ := (unhide Y2).triW
      cases hkk : isKeyB tx
      · rw [hkk] at HW2
        go_wp2_with fail
        refine bodyPost_ret (v := .tuple #[.agg #[.int .i64 2, .string tx, .int .i64 (k : Int)], .int .i64 (en : Int), .int .i64 0]) (by simp [results, Tryz.results33, go_sem, y0, y1, y2]) rfl ?_
        refine ⟨by rw [unhide HW2]; rfl, ?_⟩
        (iterate 3 (refine Below.setCell ?_ (by exact Nat.le_refl _) _))
        exact unhide A2
      · rw [hkk] at HW2
        have X3 := hide ((unhide X2).set 0 (.int .i64 3) (by simp))
        simp only [List.set] at X3
        obtain ⟨⟨u0, u1, u2⟩, -⟩ := (unhide X3).triW
        go_wp2_with fail
        refine bodyPost_ret (v := .tuple #[.agg #[.int .i64 3, .string tx, .int .i64 (k : Int)], .int .i64 (en : Int), .int .i64 0]) (by simp [results, Tryz.results33, go_sem, y0, y1, y2]) rfl ?_
        refine ⟨by rw [unhide HW2]; rfl, ?_⟩
        (iterate 3 (refine Below.setCell ?_ (by exact Nat.le_refl _) _))
        exact (unhide A2).setCell (by simp) _
  · have HW := hide (show wordAt s k = if signPreL (tailL s k) = [] then .bad 2 else .word ⟨4, ⟨(signPreL (tailL s k)).toArray⟩, k⟩ (k + (signPreL (tailL s k)).length) from by unfold wordAt; rw [unhide hbk, if_neg (by rw [hd]; simp), if_neg (by rw [hl]; simp)])
    have HS := hide (fun (W : World) => l1Sign_any (s.extract k s.size) W (by rw [ByteArray.size_extract]; omega))
    have e1 : (s.extract k s.size).data.toList = tailL s k := rfl
    rw [e1] at HS
    have hpl : (signPreL (tailL s k)).length ≤ s.size - k := by
      have := (pre_prefix (tailL s k)).length_le
      rw [tail_lst, List.length_drop, Array.length_toList] at this
      rw [tail_lst]
      exact this
    clear e1
    generalize signPreL (tailL s k) = sg at *
    generalize hrest : s.extract k s.size = rest at *
    have A1 := hide ((unhide A0).alloc (by simp) (.cells #[.int .i64 4, .string ⟨#[]⟩, .int .i64 (k : Int)] 54))
    have X1 := hide (boxF_new (w.alloc (.cells #[.int .i64 0, .string ⟨#[]⟩, .int .i64 0] 54)) [.int .i64 4, .string ⟨#[]⟩, .int .i64 (k : Int)] 54)
    have Y1 := hide ((unhide X0).up ((Below.refl _ (w.alloc (.cells #[.int .i64 0, .string ⟨#[]⟩, .int .i64 0] 54))).alloc (Nat.le_refl _) (.cells #[.int .i64 4, .string ⟨#[]⟩, .int .i64 (k : Int)] 54)))
    simp only [List.toArray] at X1
    have HQ := hide (show (w.alloc (.cells #[.int .i64 0, .string ⟨#[]⟩, .int .i64 0] 54)).heap.size = w.heap.size + 1 from by simp)
    rw [unhide HQ] at X1
    go_enter Tryz.func33, Tryz.ntmps33
    go_wp2_with (first
      | (go_at_call 30; refine (l1Digit_any _ _).mono ?_; rintro e w1 ⟨rfl, rfl⟩)
      | (go_at_call 29; refine (l1Letter_any _ _).mono ?_; rintro e w1 ⟨rfl, rfl⟩)
      | fail)
    refine (unhide HS _).mono ?_
    rintro e w2 ⟨rfl, b2⟩
    have X2 := hide ((unhide X1).up b2)
    have Y2 := hide ((unhide Y1).up b2)
    have A2 := hide ((unhide A1).trans (b2.mono (unhide A1).size))
    clear b2 X1 Y1 A1 A0 X0 HS
    have htz : (⟨sg.toArray⟩ : ByteArray).size = sg.length := rfl
    have X3 := hide ((unhide X2).set 1 (.string ⟨sg.toArray⟩) (by simp))
    simp only [List.set] at X3
    have Y3 := hide (show BoxF (w2.setCell ⟨w.heap.size + 1, 1, none⟩ (.string ⟨sg.toArray⟩)) w.heap.size [.int .i64 0, .string ⟨#[]⟩, .int .i64 0] from (unhide Y2).turn ((Turn.refl [w.heap.size + 1] w2).setCell (by simp) 1 (.string ⟨sg.toArray⟩)) (by simp))
    have A3 := hide (show Below w.heap.size w (w2.setCell ⟨w.heap.size + 1, 1, none⟩ (.string ⟨sg.toArray⟩)) from (unhide A2).setCell (by simp) _)
    obtain ⟨⟨x0, x1, x2⟩, f0, f1, f2⟩ := (unhide X2).triW
    cases hsg : sg with
    | nil =>
      subst hsg
      rw [if_pos rfl] at HW
      obtain ⟨⟨y0, y1, y2⟩, g0, g1, g2⟩ := (unhide Y3).triW
      obtain ⟨⟨u0, u1, u2⟩, -⟩ := (unhide X3).triW
      clear X2 Y2 X3 Y3
      go_wp2_with fail
      refine bodyPost_ret (v := .tuple #[.agg #[.int .i64 0, .string ⟨#[]⟩, .int .i64 0], .int .i64 0, .int .i64 2]) (by simp [results, Tryz.results33, go_sem, y0, y1, y2]) rfl ?_
      refine ⟨by rw [unhide HW]; rfl, ?_⟩
      (iterate 3 (refine Below.setCell ?_ (by exact Nat.le_refl _) _))
      exact unhide A3
    | cons b r =>
      subst hsg
      rw [if_neg (by simp)] at HW
      have HLN := hide (show (⟨(b :: r).toArray⟩ : ByteArray).size = (b :: r).length from rfl)
      have hne : ((⟨(b :: r).toArray⟩ : ByteArray).toList == []) = false := by rw [ByteArray.toList_eq]; rfl
      clear htz
      generalize (b :: r).length = m at *
      generalize (⟨(b :: r).toArray⟩ : ByteArray) = tx at *
      obtain ⟨⟨y0, y1, y2⟩, g0, g1, g2⟩ := (unhide Y3).triW
      obtain ⟨⟨u0, u1, u2⟩, -⟩ := (unhide X3).triW
      have hm := unhide HLN
      have hsum : IntKind.i64.wrap ((k : Int) + (m : Int)) = (k : Int) + (m : Int) := by rw [IntKind.wrap_i64]; omega
      have hce : ((k + m : Nat) : Int) = (k : Int) + (m : Int) := by omega
      clear X2 Y2 X3 Y3 HLN
      go_wp2_with fail
      go_region
      all_goals
        go_wp2_with fail
        refine bodyPost_ret (v := .tuple #[.agg #[.int .i64 4, .string tx, .int .i64 (k : Int)], .int .i64 ((k : Int) + (m : Int)), .int .i64 0]) (by simp [results, Tryz.results33, go_sem, y0, y1, y2]) rfl ?_
        refine ⟨by rw [unhide HW, ← hce]; rfl, Below.drew ?_⟩
        (iterate 3 (refine Below.setCell ?_ (by exact Nat.le_refl _) _))
        exact unhide A3
end Go.Proofs.YtldgffkippejiaaGreatDoor
