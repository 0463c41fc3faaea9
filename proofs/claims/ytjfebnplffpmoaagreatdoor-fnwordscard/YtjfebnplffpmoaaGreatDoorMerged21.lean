/-
  Cutting a text into words: one word of the specification, and all.
-/
/-
  Cutting a text into words: the whole of the specification.
-/
import Derived.Test.YtjfebnplffpmoaaGreatDoorMerged20
import Derived.Deep.RegionHeld3
set_option linter.unusedVariables false
namespace Go.Proofs.YtjfebnplffpmoaaGreatDoor
open Go.RowKit Go.Maps Go.Deep

theorem BoxF.triW {w : World} {g : Nat} {a b c : Value} (h : BoxF w g [a, b, c]) : (w.cell? ⟨g, 0, none⟩ = some a ∧ w.cell? ⟨g, 1, none⟩ = some b ∧ w.cell? ⟨g, 2, none⟩ = some c) ∧ (w.frozen? ⟨g, 0, none⟩ = false ∧ w.frozen? ⟨g, 1, none⟩ = false ∧ w.frozen? ⟨g, 2, none⟩ = false) :=
  ⟨⟨h.1.at 0 _ rfl, h.1.at 1 _ rfl, h.1.at 2 _ rfl⟩, h.2 0 (by simp), h.2 1 (by simp), h.2 2 (by simp)⟩
theorem pre_prefix (l : List UInt8) : signPreL l <+: l := by
  unfold signPreL
  cases hq : (signLs.find? fun g => g.isPrefixOf l) with
  | none => exact List.nil_prefix
  | some g =>
    have := List.find?_some hq
    exact List.isPrefixOf_iff_prefix.1 this
def RetWd (r : WRes) (e : Ending) : Prop := match r with
  | .bad c => e = .returned (.tuple #[.agg #[.int .i64 0, .string ⟨#[]⟩, .int .i64 0], .int .i64 0, .int .i64 c])
  | .word x n => e = .returned (.tuple #[.agg #[.int .i64 x.a0, .string x.a1, .int .i64 x.a2], .int .i64 (n : Int), .int .i64 0])
set_option maxHeartbeats 6400000 in
set_option maxRecDepth 20000 in
theorem l1Word_any (s : ByteArray) (k : Nat) (w : World) (hs : s.size ≤ 1500) (hk : k < s.size) :
    Calls Tryz.prog 13 #[.string s, .int .i64 (k : Int)] w fun e w' => RetWd (wordAt s k) e ∧ Below w.heap.size w w' := by
  have hbk := hide (byteAt_eq s k hk)
  have A0 := hide ((Below.refl _ w).alloc (Nat.le_refl _) (.cells #[.int .i64 0, .string ⟨#[]⟩, .int .i64 0] 30))
  have X0 := hide (boxF_new w [.int .i64 0, .string ⟨#[]⟩, .int .i64 0] 30)
  simp only [List.toArray] at X0
  have hk2 : (k : Int) ≤ (s.size : Int) := by omega
  cases hd : digB (s[k]'hk).toNat
  rotate_left
  · have HW := hide (show wordAt s k = if 18 < (s.extract k (runEnd s false k)).size ∨ (byteAt s k = 48 ∧ 1 < (s.extract k (runEnd s false k)).size) then .bad 3 else .word ⟨1, s.extract k (runEnd s false k), k⟩ (runEnd s false k) from by unfold wordAt; rw [unhide hbk, if_pos hd])
    have HR := hide (fun (W : World) => l1Run_any s k false W hs (by omega))
    have hle := run_le s false _ k rfl (by omega)
    generalize runEnd s false k = en at *
    have q1 : (k : Int) ≤ (en : Int) := by omega
    have q2 : (en : Int) ≤ (s.size : Int) := by omega
    generalize hex : s.extract k en = tx at *
    go_enter Tryz.func13, Tryz.ntmps13
    go_wp2_with (first
      | (go_at_call 25; refine (l1Digit_any _ _).mono ?_; rintro e w1 ⟨rfl, rfl⟩)
      | (go_at_call 26; refine (unhide HR _).mono ?_; rintro e w1 ⟨rfl, rfl⟩)
      | fail)
    all_goals
      have hbk2 := unhide hbk
      first
      | (refine bodyPost_ret (v := .tuple #[.agg #[.int .i64 0, .string ⟨#[]⟩, .int .i64 0], .int .i64 0, .int .i64 3]) (by simp [results, Tryz.results13, go_sem]) rfl ?_
         refine ⟨?_, ((Below.refl _ w).alloc (Nat.le_refl _) _).alloc (by simp) _⟩
         rw [unhide HW, if_pos (by omega)]
         rfl)
      | (refine bodyPost_ret (v := .tuple #[.agg #[.int .i64 1, .string tx, .int .i64 (k : Int)], .int .i64 (en : Int), .int .i64 0]) (by simp [results, Tryz.results13, go_sem]) rfl ?_
         refine ⟨?_, ((Below.refl _ w).alloc (Nat.le_refl _) _).alloc (by simp) _⟩
         rw [unhide HW, if_neg (by omega)]
         rfl)
  cases hl : letB (s[k]'hk).toNat
  rotate_left
  · have HW := hide (show wordAt s k = if 8 < (s.extract k (runEnd s true k)).size then .bad 4 else .word ⟨if isKeyB (s.extract k (runEnd s true k)) then 3 else 2, s.extract k (runEnd s true k), k⟩ (runEnd s true k) from by unfold wordAt; rw [unhide hbk, if_neg (by rw [hd]; simp), if_pos hl])
    have HR := hide (fun (W : World) => l1Run_any s k true W hs (by omega))
    have hle := run_le s true _ k rfl (by omega)
    generalize runEnd s true k = en at *
    have q1 : (k : Int) ≤ (en : Int) := by omega
    have q2 : (en : Int) ≤ (s.size : Int) := by omega
    have HZ := hide (show (s.extract k en).size ≤ 1500 from by rw [ByteArray.size_extract]; omega)
    generalize hex : s.extract k en = tx at *
    have HK := hide (fun (W : World) => specKey_any W tx)
    by_cases h8 : (8 : Int) < (tx.size : Int)
    · have HW2 := hide ((unhide HW).trans (if_pos (by omega)))
      clear HW HK
      go_enter Tryz.func13, Tryz.ntmps13
      go_wp2_with (first
        | (go_at_call 25; refine (l1Digit_any _ _).mono ?_; rintro e w1 ⟨rfl, rfl⟩)
        | (go_at_call 27; refine (l1Letter_any _ _).mono ?_; rintro e w1 ⟨rfl, rfl⟩)
        | (go_at_call 26; refine (unhide HR _).mono ?_; rintro e w1 ⟨rfl, rfl⟩)
        | fail)
      refine bodyPost_ret (v := .tuple #[.agg #[.int .i64 0, .string ⟨#[]⟩, .int .i64 0], .int .i64 0, .int .i64 4]) (by simp [results, Tryz.results13, go_sem]) rfl ?_
      refine ⟨?_, ((Below.refl _ w).alloc (Nat.le_refl _) _).alloc (by simp) _⟩
      rw [unhide HW2]
      rfl
    · have HW2 := hide ((unhide HW).trans (if_neg (by omega)))
      clear HW
      have A1 := hide ((unhide A0).alloc (by simp) (.cells #[.int .i64 2, .string tx, .int .i64 (k : Int)] 30))
      have X1 := hide (boxF_new (w.alloc (.cells #[.int .i64 0, .string ⟨#[]⟩, .int .i64 0] 30)) [.int .i64 2, .string tx, .int .i64 (k : Int)] 30)
      have Y1 := hide ((unhide X0).up ((Below.refl _ (w.alloc (.cells #[.int .i64 0, .string ⟨#[]⟩, .int .i64 0] 30))).alloc (Nat.le_refl _) (.cells #[.int .i64 2, .string tx, .int .i64 (k : Int)] 30)))
      simp only [List.toArray] at X1
      have HQ := hide (show (w.alloc (.cells #[.int .i64 0, .string ⟨#[]⟩, .int .i64 0] 30)).heap.size = w.heap.size + 1 from by simp)
      rw [unhide HQ] at X1
      go_enter Tryz.func13, Tryz.ntmps13
      go_wp2_with (first
        | (go_at_call 25; refine (l1Digit_any _ _).mono ?_; rintro e w1 ⟨rfl, rfl⟩)
        | (go_at_call 27; refine (l1Letter_any _ _).mono ?_; rintro e w1 ⟨rfl, rfl⟩)
        | (go_at_call 26; refine (unhide HR _).mono ?_; rintro e w1 ⟨rfl, rfl⟩)
        | fail)
      refine (unhide HK _).mono ?_
      rintro e w2 ⟨rfl, b2⟩
      have X2 := hide ((unhide X1).up b2)
      have Y2 := hide ((unhide Y1).up b2)
      have A2 := hide ((unhide A1).trans (b2.mono (unhide A1).size))
      clear b2 X1 Y1 A1 A0 X0
      obtain ⟨⟨x0, x1, x2⟩, f0, f1, f2⟩ := (unhide X2).triW
      obtain ⟨⟨y0, y1, y2⟩, g0, g1, g2⟩ := (unhide Y2).triW
      cases hkk : isKeyB tx
      · rw [hkk] at HW2
        go_wp2_with fail
        refine bodyPost_ret (v := .tuple #[.agg #[.int .i64 2, .string tx, .int .i64 (k : Int)], .int .i64 (en : Int), .int .i64 0]) (by simp [results, Tryz.results13, go_sem, y0, y1, y2]) rfl ?_
        refine ⟨by rw [unhide HW2]; rfl, ?_⟩
        (iterate 3 (refine Below.setCell ?_ (by exact Nat.le_refl _) _))
        exact unhide A2
      · rw [hkk] at HW2
        have X3 := hide ((unhide X2).set 0 (.int .i64 3) (by simp))
        simp only [List.set] at X3
        obtain ⟨⟨u0, u1, u2⟩, -⟩ := (unhide X3).triW
        go_wp2_with fail
        refine bodyPost_ret (v := .tuple #[.agg #[.int .i64 3, .string tx, .int .i64 (k : Int)], .int .i64 (en : Int), .int .i64 0]) (by simp [results, Tryz.results13, go_sem, y0, y1, y2]) rfl ?_
        refine ⟨by rw [unhide HW2]; rfl, ?_⟩
        (iterate 3 (refine Below.setCell ?_ (by exact Nat.le_refl _) _))
        exact (unhide A2).setCell (by simp) _
  · have HW := hide (show wordAt s k = if signPreL (tailL s k) = [] then .bad 2 else .word ⟨4, ⟨(signPreL (tailL s k)).toArray⟩, k⟩ (k + (signPreL (tailL s k)).length) from by unfold wordAt; rw [unhide hbk, if_neg (by rw [hd]; simp), if_neg (by rw [hl]; simp)])
    have HS := hide (fun (W : World) => l1Sign_any (s.extract k s.size) W (by rw [ByteArray.size_extract]; omega))
    have e1 : (s.extract k s.size).data.toList = tailL s k := rfl
    rw [e1] at HS
    have hpl : (signPreL (tailL s k)).length ≤ s.size - k := by
      have := (pre_prefix (tailL s k)).length_le
      rw [tail_lst, List.length_drop, Array.length_toList] at this
      rw [tail_lst]
      exact this
    clear e1
    generalize signPreL (tailL s k) = sg at *
    generalize hrest : s.extract k s.size = rest at *
    have A1 := hide ((unhide A0).alloc (by simp) (.cells #[.int .i64 4, .string ⟨#[]⟩, .int .i64 (k : Int)] 30))
    have X1 := hide (boxF_new (w.alloc (.cells #[.int .i64 0, .string ⟨#[]⟩, .int .i64 0] 30)) [.int .i64 4, .string ⟨#[]⟩, .int .i64 (k : Int)] 30)
    have Y1 := hide ((unhide X0).up ((Below.refl _ (w.alloc (.cells #[.int .i64 0, .string ⟨#[]⟩, .int .i64 0] 30))).alloc (Nat.le_refl _) (.cells #[.int .i64 4, .string ⟨#[]⟩, .int .i64 (k : Int)] 30)))
    simp only [List.toArray] at X1
    have HQ := hide (show (w.alloc (.cells #[.int .i64 0, .string ⟨#[]⟩, .int .i64 0] 30)).heap.size = w.heap.size + 1 from by simp)
    rw [unhide HQ] at X1
    go_enter Tryz.func13, Tryz.ntmps13
    go_wp2_with (first
      | (go_at_call 25; refine (l1Digit_any _ _).mono ?_; rintro e w1 ⟨rfl, rfl⟩)
      | (go_at_call 27; refine (l1Letter_any _ _).mono ?_; rintro e w1 ⟨rfl, rfl⟩)
      | fail)
    refine (unhide HS _).mono ?_
    rintro e w2 ⟨rfl, b2⟩
    have X2 := hide ((unhide X1).up b2)
    have Y2 := hide ((unhide Y1).up b2)
    have A2 := hide ((unhide A1).trans (b2.mono (unhide A1).size))
    clear b2 X1 Y1 A1 A0 X0 HS
    have htz : (⟨sg.toArray⟩ : ByteArray).size = sg.length := rfl
    have X3 := hide ((unhide X2).set 1 (.string ⟨sg.toArray⟩) (by simp))
    simp only [List.set] at X3
    have Y3 := hide (show BoxF (w2.setCell ⟨w.heap.size + 1, 1, none⟩ (.string ⟨sg.toArray⟩)) w.heap.size [.int .i64 0, .string ⟨#[]⟩, .int .i64 0] from (unhide Y2).turn ((Turn.refl [w.heap.size + 1] w2).setCell (by simp) 1 (.string ⟨sg.toArray⟩)) (by simp))
    have A3 := hide (show Below w.heap.size w (w2.setCell ⟨w.heap.size + 1, 1, none⟩ (.string ⟨sg.toArray⟩)) from (unhide A2).setCell (by simp) _)
    obtain ⟨⟨x0, x1, x2⟩, f0, f1, f2⟩ := (unhide X2).triW
    cases hsg : sg with
    | nil =>
      subst hsg
      rw [if_pos rfl] at HW
      obtain ⟨⟨y0, y1, y2⟩, g0, g1, g2⟩ := (unhide Y3).triW
      obtain ⟨⟨u0, u1, u2⟩, -⟩ := (unhide X3).triW
      clear X2 Y2 X3 Y3
      go_wp2_with fail
      refine bodyPost_ret (v := .tuple #[.agg #[.int .i64 0, .string ⟨#[]⟩, .int .i64 0], .int .i64 0, .int .i64 2]) (by simp [results, Tryz.results13, go_sem, y0, y1, y2]) rfl ?_
      refine ⟨by rw [unhide HW]; rfl, ?_⟩
      (iterate 3 (refine Below.setCell ?_ (by exact Nat.le_refl _) _))
      exact unhide A3
    | cons b r =>
      subst hsg
      rw [if_neg (by simp)] at HW
      have HLN := hide (show (⟨(b :: r).toArray⟩ : ByteArray).size = (b :: r).length from rfl)
      have hne : ((⟨(b :: r).toArray⟩ : ByteArray).toList == []) = false := by rw [ByteArray.toList_eq]; rfl
      clear htz
      generalize (b :: r).length = m at *
      generalize (⟨(b :: r).toArray⟩ : ByteArray) = tx at *
      obtain ⟨⟨y0, y1, y2⟩, g0, g1, g2⟩ := (unhide Y3).triW
      obtain ⟨⟨u0, u1, u2⟩, -⟩ := (unhide X3).triW
      have hm := unhide HLN
      have hsum : IntKind.i64.wrap ((k : Int) + (m : Int)) = (k : Int) + (m : Int) := by rw [IntKind.wrap_i64]; omega
      have hce : ((k + m : Nat) : Int) = (k : Int) + (m : Int) := by omega
      clear X2 Y2 X3 Y3 HLN
      go_wp2_with fail
      go_region
      all_goals
        go_wp2_with fail
        refine bodyPost_ret (v := .tuple #[.agg #[.int .i64 4, .string tx, .int .i64 (k : Int)], .int .i64 ((k : Int) + (m : Int)), .int .i64 0]) (by simp [results, Tryz.results13, go_sem, y0, y1, y2]) rfl ?_
        refine ⟨by rw [unhide HW, ← hce]; rfl, Below.drew ?_⟩
        (iterate 3 (refine Below.setCell ?_ (by exact Nat.le_refl _) _))
        exact unhide A3
end Go.Proofs.YtjfebnplffpmoaaGreatDoor

set_option linter.unusedVariables false
namespace Go.Proofs.YtjfebnplffpmoaaGreatDoor
open Go.RowKit Go.Maps Go.Deep

def RetBw (t : ByteArray) (w : World) (e : Ending) (w' : World) : Prop := ∃ oa on oc, e = .returned (.tuple #[.slice oa on oc, .agg #[.int .i64 (bwCode t), .int .i64 (bwAt t)]]) ∧ Hid (WdRow w.heap.size w' (.slice oa on oc) (bwWords t)) ∧ Below w.heap.size w w'
theorem BoxF.duoW {w : World} {g : Nat} {a b : Value} (h : BoxF w g [a, b]) : (w.cell? ⟨g, 0, none⟩ = some a ∧ w.cell? ⟨g, 1, none⟩ = some b) ∧ (w.frozen? ⟨g, 0, none⟩ = false ∧ w.frozen? ⟨g, 1, none⟩ = false) :=
  ⟨⟨h.1.at 0 _ rfl, h.1.at 1 _ rfl⟩, h.2 0 (by simp), h.2 1 (by simp)⟩
theorem bw_ok {t : ByteArray} {ws : List WordV} (h : ¬ 1500 < t.size) (hl : lexR t 0 = .ok ws) : bwWords t = ws ∧ bwCode t = 0 ∧ bwAt t = 0 := by
  unfold bwWords bwCode bwAt
  simp only [if_neg h, hl, and_self]
theorem bw_bad {t : ByteArray} {c a : Int} (h : ¬ 1500 < t.size) (hl : lexR t 0 = .bad c a) : bwWords t = [] ∧ bwCode t = c ∧ bwAt t = a := by
  unfold bwWords bwCode bwAt
  simp only [if_neg h, hl, and_self]
theorem bw_long {t : ByteArray} (h : 1500 < t.size) : bwWords t = [] ∧ bwCode t = 1 ∧ bwAt t = 0 := by
  unfold bwWords bwCode bwAt
  simp only [if_pos h, and_self]
theorem lex_blank {s : ByteArray} {k : Nat} (hk : k < s.size) (h : byteAt s k = 32) : lexR s k = lexR s (k + 1) := by
  conv => lhs; rw [lexR, dif_pos hk, if_pos h]
theorem lex_word {s : ByteArray} {k n : Nat} {x : WordV} (hk : k < s.size) (h : byteAt s k ≠ 32) (hw : wordAt s k = .word x n) : lexR s k = (lexR s n).cons x := by
  have := (word_good hk hw).1
  conv => lhs; rw [lexR, dif_pos hk, if_neg h, hw]
  simp only
  rw [Nat.max_eq_left (by omega)]
theorem lex_wrong {s : ByteArray} {k : Nat} {c : Int} (hk : k < s.size) (h : byteAt s k ≠ 32) (hw : wordAt s k = .bad c) : lexR s k = .bad c k := by
  rw [lexR, dif_pos hk, if_neg h, hw]
set_option maxHeartbeats 6400000 in
set_option maxRecDepth 20000 in
theorem specWords_any (t : ByteArray) (w : World) (hs : t.size ≤ 1048576) :
    Calls Tryz.prog 6 #[.string t] w fun e w' => RetBw t w e w' := by
  have A0 := hide ((Below.refl _ w).alloc (Nat.le_refl _) (.cells #[.int .i64 0, .int .i64 0] 26))
  have X0 := hide (boxF_new w [.int .i64 0, .int .i64 0] 26)
  simp only [List.toArray] at X0
  have HNONE := hide (fun (c a : Int) (h : bwWords t = [] ∧ bwCode t = c ∧ bwAt t = a) (W : World) (bW : Below w.heap.size w W) => show RetBw t w (.returned (.tuple #[.slice none 0 0, .agg #[.int .i64 c, .int .i64 a]])) W from ⟨none, 0, 0, by rw [h.2.1, h.2.2], hide (by rw [h.1]; exact WdRow.nil _ _), bW⟩)
  by_cases hbig : 1500 < t.size
  · have hb2 : (1500 : Int) < (t.size : Int) := by omega
    have HL := hide (unhide HNONE 1 0 (bw_long hbig))
    clear hbig
    go_enter Tryz.func6, Tryz.ntmps6
    go_wp2_with fail
    refine bodyPost_ret (v := .tuple #[.slice none 0 0, .agg #[.int .i64 1, .int .i64 0]]) (by simp [results, Tryz.results6, go_sem]) rfl ?_
    exact unhide HL _ ((Below.refl _ w).alloc (Nat.le_refl _) _)
  have hb2 : ¬ (1500 : Int) < (t.size : Int) := by omega
  have hw0 : w.heap.size < (w.alloc (.cells #[.int .i64 0, .int .i64 0] 26)).heap.size := (unhide X0).1.1
  go_enter Tryz.func6, Tryz.ntmps6
  go_wp2_with fail
  generalize w.alloc (.cells #[.int .i64 0, .int .i64 0] 26) = W at *
  go_loopw [4, 5] (fun ov av wr => ∃ (k : Nat) (ws : List WordV) (oa : Option Addr) (on oc : Nat), k ≤ t.size ∧ av = .int .i64 (k : Int) ∧ ov = .slice oa on oc ∧ Hid (lexR t 0 = (lexR t k).pre ws) ∧ Hid (ws.length ≤ k) ∧ Hid (WdRow W.heap.size wr (.slice oa on oc) ws) ∧ Hid (Below W.heap.size W wr)) (fun _ av _ => t.size - (intOf av).toNat)
  case atStart => exact ⟨0, [], none, 0, 0, Nat.zero_le _, rfl, rfl, hide (LRes.pre_nil _).symm, hide (Nat.le_refl _), hide (WdRow.nil _ _), hide (Below.refl _ _)⟩
  case round =>
    obtain ⟨k, ws, oa, on, oc, hk, rfl, rfl, HL, HN, HR, HB⟩ := hrel
    have Xr := hide ((unhide X0).up (unhide HB))
    have Br := hide ((unhide A0).trans ((unhide HB).mono (unhide A0).size))
    by_cases hlt : k < t.size
    · have hbk := hide (byteAt_eq t k hlt)
      by_cases h32 : ((t[k]'hlt).toNat : Int) = 32
      · have hq : (((t[k]'hlt).toNat : Int) == 32) = true := by rw [h32]; rfl
        have HL2 := hide (show lexR t 0 = (lexR t (k + 1)).pre ws from by rw [unhide HL, lex_blank hlt (by rw [unhide hbk]; exact h32)])
        have HN2 := hide (show ws.length ≤ k + 1 from by have := unhide HN; omega)
        clear h32 HL HN Xr Br
        go_wp2_with fail
        go_roundw
        case rel => exact ⟨k + 1, ws, oa, on, oc, by omega, by go_num, rfl, HL2, HN2, HR, HB⟩
        case measure => simp [intOf]; omega
      · have hq : (((t[k]'hlt).toNat : Int) == 32) = false := by rw [beq_eq_false_iff_ne]; exact h32
        have HNB := hide (show byteAt t k ≠ 32 from by rw [unhide hbk]; exact h32)
        have HW := hide (fun (W : World) => l1Word_any t k W (by omega) hlt)
        clear h32
        cases hw : wordAt t k with
        | bad c =>
          have hc := word_bad hw
          have HEND := hide (unhide HNONE c k (bw_bad hbig (by rw [unhide HL, lex_wrong hlt (unhide HNB) hw]; rfl)))
          have hc0 : (c == 0) = false := by rw [beq_eq_false_iff_ne]; omega
          rw [hw] at HW
          clear hw hc HL HN HR HNB
          go_wp2_with fail
          refine (unhide HW _).mono ?_
          rintro e w2 ⟨h2, b2⟩
          have h2' : e = .returned (.tuple #[.agg #[.int .i64 0, .string ⟨#[]⟩, .int .i64 0], .int .i64 0, .int .i64 c]) := h2
          subst h2'
          have A2 := hide ((unhide Br).trans (b2.mono (unhide Br).size))
          have X2 := hide ((unhide Xr).up b2)
          have A3 := hide ((unhide A2).alloc (unhide A2).size (.cells #[.int .i64 0, .string ⟨#[]⟩, .int .i64 0] 30))
          have X3 := hide ((unhide X2).up ((Below.refl _ w2).alloc (Nat.le_refl _) (.cells #[.int .i64 0, .string ⟨#[]⟩, .int .i64 0] 30)))
          clear b2 HW A2 X2 Br Xr h2
          obtain ⟨⟨x0, x1⟩, f0, f1⟩ := (unhide X3).duoW
          go_wp2_with fail
          refine bodyPost_ret (v := .tuple #[.slice none 0 0, .agg #[.int .i64 c, .int .i64 (k : Int)]]) (by simp [results, Tryz.results6, go_sem, x0, x1]) rfl ?_
          refine unhide HEND _ ?_
          (iterate 2 (refine Below.setCell ?_ (by exact Nat.le_refl _) _))
          exact unhide A3
        | word x n =>
          have hg := word_good hlt hw
          have HL2 := hide (show lexR t 0 = (lexR t n).pre (ws ++ [x]) from by rw [unhide HL, lex_word hlt (unhide HNB) hw, LRes.pre_cons])
          rw [hw] at HW
          have hkn := hg.1
          have hnt := hg.2.1
          have HN2 := hide (show (ws ++ [x]).length ≤ n from by have := unhide HN; simp; omega)
          have HLL := hide (show ws.length ≤ 1000000 from by have := unhide HN; omega)
          clear hw hg HL HN HNB Xr
          go_wp2_with fail
          refine (unhide HW _).mono ?_
          rintro e w2 ⟨h2, b2⟩
          have h2' : e = .returned (.tuple #[.agg #[.int .i64 x.a0, .string x.a1, .int .i64 x.a2], .int .i64 (n : Int), .int .i64 0]) := h2
          subst h2'
          have B2 := hide ((unhide HB).trans (b2.mono (unhide HB).size))
          have R2 := hide ((unhide HR).up b2)
          have B3 := hide ((unhide B2).alloc (unhide B2).size (.cells #[.int .i64 x.a0, .string x.a1, .int .i64 x.a2] 30))
          have bA := (Below.refl _ w2).alloc (Nat.le_refl _) (.cells #[.int .i64 x.a0, .string x.a1, .int .i64 x.a2] 30)
          have R3 := hide ((unhide R2).up bA)
          have bB := (Below.refl _ (w2.alloc (.cells #[.int .i64 x.a0, .string x.a1, .int .i64 x.a2] 30))).alloc (Nat.le_refl _) (.cells #[.int .i64 x.a0, .string x.a1, .int .i64 x.a2] 30)
          have R4 := hide ((unhide R3).up bB)
          have B4 := hide ((unhide B3).trans (bB.mono (unhide B3).size))
          have N4 := hide (boxF_new (w2.alloc (.cells #[.int .i64 x.a0, .string x.a1, .int .i64 x.a2] 30)) [.int .i64 x.a0, .string x.a1, .int .i64 x.a2] 30).triW.1
          have HQ := hide (show (w2.alloc (.cells #[.int .i64 x.a0, .string x.a1, .int .i64 x.a2] 30)).heap.size = w2.heap.size + 1 from by simp)
          rw [unhide HQ] at N4
          clear b2 HW B2 R2 R3 B3 h2 bA bB HR
          go_wp2_with (first
            | (at_builtin; refine wpList_wdAppend rfl _ _ rfl W.heap.size (.slice oa on oc) ws x (w2.heap.size + 1) rfl rfl (unhide R4) (unhide N4).1 (unhide N4).2.1 (unhide N4).2.2 (unhide HLL) (unhide B4).size ?_; intro g5 n5 c5 w5 r5 gr5 hor; have R5 := hide r5; have B5 := hide (Below.grown (unhide B4) gr5 (unhide B4).size (fun y hy => (unhide R4).ge y hy)); clear r5 gr5 hor)
            | fail)
          go_roundw
          case rel => exact ⟨n, _, _, n5, c5, hnt, rfl, rfl, HL2, HN2, R5, B5⟩
          case measure => simp [intOf]; omega
    · obtain rfl : k = t.size := by omega
      have HE := hide (bw_ok hbig (show lexR t 0 = .ok ws from by rw [unhide HL, lex_end t t.size (by omega)]; simp [LRes.pre]))
      have HEND := hide (fun (V : World) (tV : Turn [w.heap.size] wr V) => show RetBw t w (.returned (.tuple #[.slice oa on oc, .agg #[.int .i64 0, .int .i64 0]])) V from ⟨oa, on, oc, by rw [(unhide HE).2.1, (unhide HE).2.2], hide (by
        rw [(unhide HE).1]
        exact ((unhide HR).keep (fun y hy => tV.block y ((unhide HR).lt y hy) (by have := (unhide HR).ge y hy; simp; omega))).mono (by omega)), (unhide Br).trans (tV.below (unhide Br).size (by simp))⟩)
      obtain ⟨⟨x0, x1⟩, f0, f1⟩ := (unhide Xr).duoW
      clear HE HR HL HN HB Br Xr HNONE
      go_wp2_with fail
      refine bodyPost_ret (v := .tuple #[.slice oa on oc, .agg #[.int .i64 0, .int .i64 0]]) (by simp [results, Tryz.results6, go_sem, x0, x1]) rfl ?_
      refine unhide HEND _ ?_
      (iterate 2 (refine Turn.setCell ?_ (by simp) _ _))
      exact Turn.refl _ _
end Go.Proofs.YtjfebnplffpmoaaGreatDoor
