/-
  Cutting a text into words: the program's small functions.
-/
import Derived.Test.YtkfhokeoooafnaaGreatDoorBodyM
import Derived.Test.YtkfhokeoooafnaaGreatDoorMerged23
import Derived.Deep.RegionHeld3
set_option linter.unusedVariables false
namespace Go.Proofs.YtkfhokeoooafnaaGreatDoor
open Go.RowKit Go.Maps Go.Deep
theorem sgn_any (l : List UInt8) : isSgnL l = ((l == [33,61]) || (l == [60,61]) || (l == [62,61]) || (l == [40]) || (l == [41]) || (l == [44]) || (l == [43]) || (l == [45]) || (l == [42]) || (l == [47]) || (l == [37]) || (l == [61]) || (l == [60]) || (l == [62])) := by
  unfold isSgnL signLs
  simp only [List.any_cons, List.any_nil, Bool.or_false]
  have bc : ∀ a b : List UInt8, (a == b) = (b == a) := fun a b => by rw [Bool.eq_iff_iff, beq_iff_eq, beq_iff_eq]; exact eq_comm
  simp only [bc _ l, Bool.or_assoc]
set_option maxHeartbeats 3200000 in
theorem isSign_any (s : ByteArray) (w : World) : Calls Tryz.prog 91 #[.string s] w fun e w' => e = .returned (.bool (isSgnL s.data.toList)) ∧ w' = w := by
  have hx := sgn_any s.data.toList
  have h0 : (s.toList == [33,61]) = (s.data.toList == [33,61]) := by rw [ByteArray.toList_eq]
  have h1 : (s.toList == [60,61]) = (s.data.toList == [60,61]) := by rw [ByteArray.toList_eq]
  have h2 : (s.toList == [62,61]) = (s.data.toList == [62,61]) := by rw [ByteArray.toList_eq]
  have h3 : (s.toList == [40]) = (s.data.toList == [40]) := by rw [ByteArray.toList_eq]
  have h4 : (s.toList == [41]) = (s.data.toList == [41]) := by rw [ByteArray.toList_eq]
  have h5 : (s.toList == [44]) = (s.data.toList == [44]) := by rw [ByteArray.toList_eq]
  have h6 : (s.toList == [43]) = (s.data.toList == [43]) := by rw [ByteArray.toList_eq]
  have h7 : (s.toList == [45]) = (s.data.toList == [45]) := by rw [ByteArray.toList_eq]
  have h8 : (s.toList == [42]) = (s.data.toList == [42]) := by rw [ByteArray.toList_eq]
  have h9 : (s.toList == [47]) = (s.data.toList == [47]) := by rw [ByteArray.toList_eq]
  have h10 : (s.toList == [37]) = (s.data.toList == [37]) := by rw [ByteArray.toList_eq]
  have h11 : (s.toList == [61]) = (s.data.toList == [61]) := by rw [ByteArray.toList_eq]
  have h12 : (s.toList == [60]) = (s.data.toList == [60]) := by rw [ByteArray.toList_eq]
  have h13 : (s.toList == [62]) = (s.data.toList == [62]) := by rw [ByteArray.toList_eq]
  generalize (s.data.toList == [33,61]) = c0 at *
  generalize (s.data.toList == [60,61]) = c1 at *
  generalize (s.data.toList == [62,61]) = c2 at *
  generalize (s.data.toList == [40]) = c3 at *
  generalize (s.data.toList == [41]) = c4 at *
  generalize (s.data.toList == [44]) = c5 at *
  generalize (s.data.toList == [43]) = c6 at *
  generalize (s.data.toList == [45]) = c7 at *
  generalize (s.data.toList == [42]) = c8 at *
  generalize (s.data.toList == [47]) = c9 at *
  generalize (s.data.toList == [37]) = c10 at *
  generalize (s.data.toList == [61]) = c11 at *
  generalize (s.data.toList == [60]) = c12 at *
  generalize (s.data.toList == [62]) = c13 at *
  generalize isSgnL s.data.toList = r at *
  have HX := hide hx
  clear hx
  cases c0
  rotate_left
  · go_enter Tryz.func91, Tryz.ntmps91
    go_wp2_with fail
    go_ret
    exact ⟨by rw [unhide HX]; simp, rfl⟩
  cases c1
  rotate_left
  · go_enter Tryz.func91, Tryz.ntmps91
    go_wp2_with fail
    go_ret
    exact ⟨by rw [unhide HX]; simp, rfl⟩
  cases c2
  rotate_left
  · go_enter Tryz.func91, Tryz.ntmps91
    go_wp2_with fail
    go_ret
    exact ⟨by rw [unhide HX]; simp, rfl⟩
  cases c3
  rotate_left
  · go_enter Tryz.func91, Tryz.ntmps91
    go_wp2_with fail
    go_ret
    exact ⟨by rw [unhide HX]; simp, rfl⟩
  cases c4
  rotate_left
  · go_enter Tryz.func91, Tryz.ntmps91
    go_wp2_with fail
    go_ret
    exact ⟨by rw [unhide HX]; simp, rfl⟩
  cases c5
  rotate_left
  · go_enter Tryz.func91, Tryz.ntmps91
    go_wp2_with fail
    go_ret
    exact ⟨by rw [unhide HX]; simp, rfl⟩
  cases c6
  rotate_left
  · go_enter Tryz.func91, Tryz.ntmps91
    go_wp2_with fail
    go_ret
    exact ⟨by rw [unhide HX]; simp, rfl⟩
  cases c7
  rotate_left
  · go_enter Tryz.func91, Tryz.ntmps91
    go_wp2_with fail
    go_ret
    exact ⟨by rw [unhide HX]; simp, rfl⟩
  cases c8
  rotate_left
  · go_enter Tryz.func91, Tryz.ntmps91
    go_wp2_with fail
    go_ret
    exact ⟨by rw [unhide HX]; simp, rfl⟩
  cases c9
  rotate_left
  · go_enter Tryz.func91, Tryz.ntmps91
    go_wp2_with fail
    go_ret
    exact ⟨by rw [unhide HX]; simp, rfl⟩
  cases c10
  rotate_left
  · go_enter Tryz.func91, Tryz.ntmps91
    go_wp2_with fail
    go_ret
    exact ⟨by rw [unhide HX]; simp, rfl⟩
  cases c11
  rotate_left
  · go_enter Tryz.func91, Tryz.ntmps91
    go_wp2_with fail
    go_ret
    exact ⟨by rw [unhide HX]; simp, rfl⟩
  cases c12
  rotate_left
  · go_enter Tryz.func91, Tryz.ntmps91
    go_wp2_with fail
    go_ret
    exact ⟨by rw [unhide HX]; simp, rfl⟩
  cases c13
  rotate_left
  · go_enter Tryz.func91, Tryz.ntmps91
    go_wp2_with fail
    go_ret
    exact ⟨by rw [unhide HX]; simp, rfl⟩
  go_enter Tryz.func91, Tryz.ntmps91
  go_wp2_with fail
  go_ret
  exact ⟨by rw [unhide HX]; rfl, rfl⟩
set_option maxHeartbeats 1600000 in
theorem numberOk_any (s : ByteArray) (w : World) (hs : 1 ≤ s.size) : Calls Tryz.prog 92 #[.string s] w fun e w' => e = .returned (.bool (numOkB s)) ∧ w' = w := by
  have hb := byteAt_eq s 0 (by omega)
  have h0 : (0 : Int) < (s.size : Int) := by omega
  have hp : 0 < s.size := by omega
  by_cases h18 : s.size ≤ 18
  · have g18 : (s.size : Int) ≤ 18 := by omega
    by_cases h1 : s.size = 1
    · have g1 : ((s.size : Int) == 1) = true := by rw [beq_iff_eq]; omega
      have HR := hide (show numOkB s = true from by unfold numOkB; simp [h1])
      clear h1 h18 hb
      go_enter Tryz.func92, Tryz.ntmps92
      go_wp2_with fail
      go_ret
      exact ⟨by rw [unhide HR]; rfl, rfl⟩
    · have g1 : ((s.size : Int) == 1) = false := by rw [beq_eq_false_iff_ne]; omega
      by_cases h48 : ((s[0]'(by omega)).toNat : Int) = 48
      · have g48 : (((s[0]'(by omega)).toNat : Int) != 48) = false := by rw [bne_eq_false_iff_eq]; exact h48
        have HR := hide (show numOkB s = false from by unfold numOkB; rw [hb]; simp [h1, h48])
        clear h1 h18 hb h48
        go_enter Tryz.func92, Tryz.ntmps92
        go_wp2_with fail
        go_ret
        exact ⟨by rw [unhide HR]; rfl, rfl⟩
      · have g48 : (((s[0]'(by omega)).toNat : Int) != 48) = true := by rw [bne_iff_ne]; exact h48
        have HR := hide (show numOkB s = true from by unfold numOkB; rw [hb]; simp [h18, h48])
        clear h1 h18 hb h48
        go_enter Tryz.func92, Tryz.ntmps92
        go_wp2_with fail
        go_ret
        exact ⟨by rw [unhide HR]; rfl, rfl⟩
  · have g18 : ¬ (s.size : Int) ≤ 18 := by omega
    have HR := hide (show numOkB s = false from by unfold numOkB; simp [h18])
    clear h18 hb
    go_enter Tryz.func92, Tryz.ntmps92
    go_wp2_with fail
    go_ret
    exact ⟨by rw [unhide HR]; rfl, rfl⟩
def errV (c a : Int) : Value := .iface 96 (.agg #[.int .i64 a, .iface 102 (.agg #[.int .i64 c])])
theorem wrongAt_any (c a : Int) (w : World) : Calls Tryz.prog 66 #[.int .i64 c, .int .i64 a] w fun e w' => e = .returned (errV c a) ∧ w' = w := by
  go_enter Tryz.func66, Tryz.ntmps66
  go_wp2_with fail
  go_ret
  exact ⟨rfl, rfl⟩
theorem BoxF.fiveW {w : World} {g : Nat} {a b c d e : Value} (h : BoxF w g [a, b, c, d, e]) : (w.cell? ⟨g, 0, none⟩ = some a ∧ w.cell? ⟨g, 1, none⟩ = some b ∧ w.cell? ⟨g, 2, none⟩ = some c ∧ w.cell? ⟨g, 3, none⟩ = some d ∧ w.cell? ⟨g, 4, none⟩ = some e) ∧ (w.frozen? ⟨g, 0, none⟩ = false ∧ w.frozen? ⟨g, 1, none⟩ = false ∧ w.frozen? ⟨g, 2, none⟩ = false ∧ w.frozen? ⟨g, 3, none⟩ = false ∧ w.frozen? ⟨g, 4, none⟩ = false) :=
  ⟨⟨h.1.at 0 _ rfl, h.1.at 1 _ rfl, h.1.at 2 _ rfl, h.1.at 3 _ rfl, h.1.at 4 _ rfl⟩, h.2 0 (by simp), h.2 1 (by simp), h.2 2 (by simp), h.2 3 (by simp), h.2 4 (by simp)⟩
/-- the cutter: the text, the keys, the words so far, the open word -/
def cutC (s : ByteArray) (kb : Nat) (row : Value) (opn : Int) (st : Nat) : List Value := [.string s, .map (some kb), row, .int .i64 opn, .int .i64 (st : Int)]
def goR (s : ByteArray) (opn : Int) (st k : Nat) (r : Int) : Bool :=
  if opn = 1 then digB r else if opn = 2 then letB r || digB r
  else if opn = 4 then decide (r = 61) && isSgnL ((s.extract st k).data.toList ++ [61]) else false
set_option maxHeartbeats 3200000 in
theorem goesOn_any (s : ByteArray) (kb cb : Nat) (row : Value) (opn : Int) (st k : Nat) (r : Int) (w : World) (hs : s.size ≤ 1500) (ho : opn = 0 ∨ opn = 1 ∨ opn = 2 ∨ opn = 4) (hk : opn = 4 → st ≤ k ∧ k ≤ s.size) (hb : BoxF w cb (cutC s kb row opn st)) :
    Calls Tryz.prog 67 #[.pointer (some ⟨cb, 0, none⟩), .int .i64 (k : Int), .int .i32 r] w fun e w' => e = .returned (.bool (goR s opn st k r)) ∧ Below w.heap.size w w' := by
  have BX := hide hb
  unfold cutC at hb
  obtain ⟨⟨c0, c1, c2, c3, c4⟩, -⟩ := hb.fiveW
  clear hb
  rcases ho with rfl | rfl | rfl | rfl
  · go_enter Tryz.func67, Tryz.ntmps67
    go_wp2_with fail
    go_ret
    exact ⟨rfl, Below.refl _ _⟩
  · go_enter Tryz.func67, Tryz.ntmps67
    go_wp2_with (first
      | (go_at_call 89; refine (isDigit_any _ _).mono ?_; rintro e w2 ⟨rfl, rfl⟩)
      | fail)
    go_ret
    exact ⟨rfl, Below.refl _ _⟩
  · cases hl : letB r
    · have HR := hide (show goR s 2 st k r = digB r from by unfold goR; rw [if_neg (by decide), if_pos rfl, hl]; rfl)
      go_enter Tryz.func67, Tryz.ntmps67
      go_wp2_with (first
        | (go_at_call 90; refine (isLetter_any _ _).mono ?_; rintro e w2 ⟨rfl, rfl⟩)
        | (go_at_call 89; refine (isDigit_any _ _).mono ?_; rintro e w2 ⟨rfl, rfl⟩)
        | fail)
      go_ret
      exact ⟨by rw [unhide HR]; rfl, Below.refl _ _⟩
    · have HR := hide (show goR s 2 st k r = true from by unfold goR; rw [if_neg (by decide), if_pos rfl, hl]; rfl)
      go_enter Tryz.func67, Tryz.ntmps67
      go_wp2_with (first
        | (go_at_call 90; refine (isLetter_any _ _).mono ?_; rintro e w2 ⟨rfl, rfl⟩)
        | fail)
      go_ret
      exact ⟨by rw [unhide HR]; rfl, Below.refl _ _⟩
  · obtain ⟨q1, q2⟩ := hk rfl
    have p1 : (st : Int) ≤ (k : Int) := by omega
    have p2 : (k : Int) ≤ (s.size : Int) := by omega
    by_cases hr : r = 61
    · have g61 : (r == 61) = true := by rw [beq_iff_eq]; exact hr
      have HR := hide (show goR s 4 st k r = isSgnL ((s.extract st k).data.toList ++ [61]) from by unfold goR; rw [if_neg (by decide), if_neg (by decide), if_pos rfl, decide_eq_true hr]; rfl)
      have hzz : (s.extract st k).size ≤ 1500 := by rw [ByteArray.size_extract]; omega
      have HIS := hide (fun (W : World) => isSign_any (s.extract st k ++ ⟨#[61]⟩) W)
      rw [show (s.extract st k ++ ⟨#[61]⟩ : ByteArray).data.toList = (s.extract st k).data.toList ++ [61] from by simp] at HIS
      generalize (s.extract st k).data.toList ++ [61] = l at *
      generalize hex : s.extract st k = tx at *
      have hsum : ¬ 9223372036854775807 < tx.size + 1 := by omega
      have KP := hide (show ∀ X : World, Below w.heap.size w X → (X.cell? ⟨cb, 0, none⟩ = some (.string s) ∧ X.cell? ⟨cb, 4, none⟩ = some (.int .i64 (st : Int))) ∧ Hid (Below w.heap.size w X) from fun X b => by
        have x := ((unhide BX).up b).1
        exact ⟨⟨x.at 0 _ rfl, x.at 4 _ rfl⟩, hide b⟩)
      have BD := hide ((Below.refl w.heap.size w).drew)
      clear hr
      go_enter Tryz.func67, Tryz.ntmps67
      go_wp2_with fail
      go_region_held3 (fun X : World => (X.cell? ⟨cb, 0, none⟩ = some (.string s) ∧ X.cell? ⟨cb, 4, none⟩ = some (.int .i64 (st : Int))) ∧ Hid (Below w.heap.size w X)) ((refine unhide KP _ ?_; exact unhide (by assumption)))
        (first
          | (go_at_call 91; refine (unhide HIS _).mono ?_; rintro e w2 ⟨rfl, rfl⟩)
          | fail)
      all_goals
        go_wp2_with fail
        go_ret
        exact ⟨by rw [unhide HR]; rfl, unhide BD⟩
    · have g61 : (r == 61) = false := by rw [beq_eq_false_iff_ne]; exact hr
      have HR := hide (show goR s 4 st k r = false from by unfold goR; rw [if_neg (by decide), if_neg (by decide), if_pos rfl, decide_eq_false hr]; rfl)
      clear hr
      go_enter Tryz.func67, Tryz.ntmps67
      go_wp2_with fail
      go_region
      all_goals
        go_wp2_with fail
        go_ret
        exact ⟨by rw [unhide HR]; rfl, (Below.refl _ _).drew⟩
set_option maxHeartbeats 3200000 in
theorem begin_any (s : ByteArray) (kb cb : Nat) (row : Value) (opn : Int) (st k : Nat) (r : Int) (w : World) (hb : BoxF w cb (cutC s kb row opn st)) :
    Calls Tryz.prog 69 #[.pointer (some ⟨cb, 0, none⟩), .int .i64 (k : Int), .int .i32 r] w fun e w' => e = .returned (.tuple #[]) ∧ Hid (BoxF w' cb (cutC s kb row (beginK r) k)) ∧ Hid (Turn [cb] w w') := by
  have KEY := hide (fun (o : Int) => show BoxF ((w.setCell ⟨cb, 4, none⟩ (.int .i64 (k : Int))).setCell ⟨cb, 3, none⟩ (.int .i64 o)) cb (cutC s kb row o k) ∧ Turn [cb] w ((w.setCell ⟨cb, 4, none⟩ (.int .i64 (k : Int))).setCell ⟨cb, 3, none⟩ (.int .i64 o)) from
    ⟨by
      have := (hb.set 4 (.int .i64 (k : Int)) (by simp [cutC])).set 3 (.int .i64 o) (by simp [cutC])
      simpa [cutC] using this, ((Turn.refl [cb] w).setCell (by simp) _ _).setCell (by simp) _ _⟩)
  unfold cutC at hb
  obtain ⟨⟨c0, c1, c2, c3, c4⟩, f0, f1, f2, f3, f4⟩ := hb.fiveW
  clear hb
  by_cases h32 : r = 32
  · have g32 : (r == 32) = true := by rw [beq_iff_eq]; exact h32
    have HB := hide (show beginK r = 0 from by unfold beginK; rw [if_pos h32])
    clear h32
    go_enter Tryz.func69, Tryz.ntmps69
    go_wp2_with fail
    go_end0
    exact ⟨rfl, hide (by rw [unhide HB]; exact (unhide KEY 0).1), hide (unhide KEY 0).2⟩
  have g32 : (r == 32) = false := by rw [beq_eq_false_iff_ne]; exact h32
  cases hd : digB r
  rotate_left
  · have HB := hide (show beginK r = 1 from by unfold beginK; rw [if_neg h32, if_pos hd])
    go_enter Tryz.func69, Tryz.ntmps69
    go_wp2_with (first
      | (go_at_call 89; refine (isDigit_any _ _).mono ?_; rintro e w2 ⟨rfl, rfl⟩)
      | fail)
    go_end0
    exact ⟨rfl, hide (by rw [unhide HB]; exact (unhide KEY 1).1), hide (unhide KEY 1).2⟩
  cases hl : letB r
  rotate_left
  · have HB := hide (show beginK r = 2 from by unfold beginK; rw [if_neg h32, if_neg (by rw [hd]; simp), if_pos hl])
    go_enter Tryz.func69, Tryz.ntmps69
    go_wp2_with (first
      | (go_at_call 89; refine (isDigit_any _ _).mono ?_; rintro e w2 ⟨rfl, rfl⟩)
      | (go_at_call 90; refine (isLetter_any _ _).mono ?_; rintro e w2 ⟨rfl, rfl⟩)
      | fail)
    go_end0
    exact ⟨rfl, hide (by rw [unhide HB]; exact (unhide KEY 2).1), hide (unhide KEY 2).2⟩
  · have HB := hide (show beginK r = 4 from by unfold beginK; rw [if_neg h32, if_neg (by rw [hd]; simp), if_neg (by rw [hl]; simp)])
    go_enter Tryz.func69, Tryz.ntmps69
    go_wp2_with (first
      | (go_at_call 89; refine (isDigit_any _ _).mono ?_; rintro e w2 ⟨rfl, rfl⟩)
      | (go_at_call 90; refine (isLetter_any _ _).mono ?_; rintro e w2 ⟨rfl, rfl⟩)
      | fail)
    go_end0
    exact ⟨rfl, hide (by rw [unhide HB]; exact (unhide KEY 4).1), hide (unhide KEY 4).2⟩
end Go.Proofs.YtkfhokeoooafnaaGreatDoor
