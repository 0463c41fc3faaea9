/-
  The specification's reader: what binds least. (Made by wip/mkreade.py.)
-/
import Derived.Test.YtkfhokeoooafnaaGreatDoorReadS3
import Derived.Deep.RegionHeld3
set_option linter.unusedVariables false
namespace Go.Proofs.YtkfhokeoooafnaaGreatDoor
open Go.RowKit Go.Maps Go.Deep

set_option maxHeartbeats 6400000 in
set_option maxRecDepth 20000 in
theorem expr_one (ws : List WordV) (f : Nat) (HE : SaidE ws f) (HL : SaidL ws f) : SaidE ws (f + 1) := by
  intro w pb a c n b hp HF
  have HPB := hp.lt
  have HX := hide (text_any ws w pb a c n b hp)
  have ST := hide hp
  clear hp
  by_cases h : textB ws n b = kIf
  · have hb : b = false := by cases b; rfl; exact absurd h (show textB ws n true ≠ kIf from by show (⟨#[]⟩ : ByteArray) ≠ kIf; decide)
    subst hb
    have ht : txt ws n = kIf := h
    have HLT := txt_lt ht (by decide)
    generalize textB ws n false = s at *
    have hs := h
    have q0 : (s.toList == [105, 102]) = true := by rw [str_litR, hs]; decide
    have q1 : (s.toList == [108, 101, 116]) = false := by rw [str_litR, hs]; decide
    have q2 : (s.toList == [114, 101, 112]) = false := by rw [str_litR, hs]; decide
    clear hs h
    go_enter Tryz.func26, Tryz.ntmps26
    go_wp2_with (first
      | (go_at_call 50; refine (unhide HX).mono ?_; rintro e w0 ⟨rfl, d0⟩; have TT0 := hide (show Turn [pb] w w0 from Turn.of_below d0); have ST0 := hide ((unhide ST).up d0); clear HX ST d0; have HS := hide ((unhide ST0).step HLT); have hw1 : IntKind.i64.wrap ((n : Int) + 1) = (n : Int) + 1 := (by have := (unhide ST0).len; rw [IntKind.wrap_i64]; omega); obtain ⟨⟨c0, c1, c2⟩, f0, f1, f2⟩ := (unhide ST0).box.triR; have ST1 := hide (unhide HS).1; have TT1 := hide ((unhide TT0).trans (unhide HS).2); clear HS ST0 TT0)
      | (go_at_call 52; have _t := ST6; refine (l2Put_any _ ⟨21, 0, ⟨#[]⟩, 3⟩ v2 v4 v6 l2 l4 l6 (unhide RA).in (unhide RB).in (unhide RC).in (by have := (unhide ST6).le; have := (unhide ST6).len; (try simp only [List.length_nil]); omega)).mono ?_; rintro e w7 ⟨v7, rfl, r7, g7⟩; have ST7 := hide ((unhide ST6).up (unhide g7)); have TT7 := hide ((unhide TT6).trans (Turn.of_below (unhide g7))); have RW := hide ((unhide r7).mono (B' := w.heap.size) (unhide TT6).size); clear ST6 TT6 r7 g7)
      | (go_at_call 26; have _t := ST5; refine (HE _ pb a c _ _ (unhide ST5) (by have := (unhide ST5).le; simp only [needF] at HF ⊢; omega)).mono ?_; rintro e w6 ⟨v6, l6, k6, b6, rfl, r6, s6, t6, p6⟩; have ST6 := s6; have LE6 := (unhide p6).le; have RC := hide ((unhide r6).mono (B' := w.heap.size) (unhide TT5).size); have TT6 := hide ((unhide TT5).trans (unhide t6)); have RAx := hide ((unhide RA).turn (unhide t6) HPB); clear RA; have RA := RAx; clear RAx; have RBx := hide ((unhide RB).turn (unhide t6) HPB); clear RB; have RB := RBx; clear RBx; clear s6 t6 r6 ST5 TT5)
      | (go_at_call 51; have _t := ST4; refine (take_any ws kElse (by decide) _ pb a c _ _ (unhide ST4)).mono ?_; rintro e w5 ⟨rfl, s5, t5⟩; have ST5 := s5; have TT5 := hide ((unhide TT4).trans (unhide t5)); have LE5 := take_le ws kElse (k4) (b4); have RAx := hide ((unhide RA).turn (unhide t5) HPB); clear RA; have RA := RAx; clear RAx; have RBx := hide ((unhide RB).turn (unhide t5) HPB); clear RB; have RB := RBx; clear RBx; clear s5 t5 ST4 TT4)
      | (go_at_call 26; have _t := ST3; refine (HE _ pb a c _ _ (unhide ST3) (by have := (unhide ST3).le; simp only [needF] at HF ⊢; omega)).mono ?_; rintro e w4 ⟨v4, l4, k4, b4, rfl, r4, s4, t4, p4⟩; have ST4 := s4; have LE4 := (unhide p4).le; have RB := hide ((unhide r4).mono (B' := w.heap.size) (unhide TT3).size); have TT4 := hide ((unhide TT3).trans (unhide t4)); have RAx := hide ((unhide RA).turn (unhide t4) HPB); clear RA; have RA := RAx; clear RAx; clear s4 t4 r4 ST3 TT3)
      | (go_at_call 51; have _t := ST2; refine (take_any ws kThen (by decide) _ pb a c _ _ (unhide ST2)).mono ?_; rintro e w3 ⟨rfl, s3, t3⟩; have ST3 := s3; have TT3 := hide ((unhide TT2).trans (unhide t3)); have LE3 := take_le ws kThen (k2) (b2); have RAx := hide ((unhide RA).turn (unhide t3) HPB); clear RA; have RA := RAx; clear RAx; clear s3 t3 ST2 TT2)
      | (go_at_call 26; have _t := ST1; refine (HE _ pb a c _ _ (unhide ST1) (by have := (unhide ST1).le; simp only [needF] at HF ⊢; omega)).mono ?_; rintro e w2 ⟨v2, l2, k2, b2, rfl, r2, s2, t2, p2⟩; have ST2 := s2; have LE2 := (unhide p2).le; have RA := hide ((unhide r2).mono (B' := w.heap.size) (unhide TT1).size); have TT2 := hide ((unhide TT1).trans (unhide t2)); clear s2 t2 r2 ST1 TT1)
      | fail)
    go_ret
    exact ⟨_, _, _, _, rfl, RW, ST7, TT7, hide (PRin.of (if_is ht (unhide p2) (unhide p4) (unhide p6)))⟩
  have n0 := h
  clear h
  by_cases h : textB ws n b = kLet
  · have hb : b = false := by cases b; rfl; exact absurd h (show textB ws n true ≠ kLet from by show (⟨#[]⟩ : ByteArray) ≠ kLet; decide)
    subst hb
    have ht : txt ws n = kLet := h
    have HLT := txt_lt ht (by decide)
    generalize textB ws n false = s at *
    have hs := h
    have q0 : (s.toList == [105, 102]) = false := by rw [str_litR, hs]; decide
    have q1 : (s.toList == [108, 101, 116]) = true := by rw [str_litR, hs]; decide
    have q2 : (s.toList == [114, 101, 112]) = false := by rw [str_litR, hs]; decide
    clear hs h
    go_enter Tryz.func26, Tryz.ntmps26
    go_wp2_with (first
      | (go_at_call 50; refine (unhide HX).mono ?_; rintro e w0 ⟨rfl, d0⟩; have TT0 := hide (show Turn [pb] w w0 from Turn.of_below d0); have ST0 := hide ((unhide ST).up d0); clear HX ST d0; have HS := hide ((unhide ST0).step HLT); have hw1 : IntKind.i64.wrap ((n : Int) + 1) = (n : Int) + 1 := (by have := (unhide ST0).len; rw [IntKind.wrap_i64]; omega); obtain ⟨⟨c0, c1, c2⟩, f0, f1, f2⟩ := (unhide ST0).box.triR; have ST1 := hide (unhide HS).1; have TT1 := hide ((unhide TT0).trans (unhide HS).2); clear HS ST0 TT0)
      | (go_at_call 52; have _t := ST6; refine (l2Put_any _ ⟨22, 0, nm, 2⟩ v4 v6 (.slice none 0 0) l4 l6 [] (unhide RA).in (unhide RB).in (NdIn.nil _) (by have := (unhide ST6).le; have := (unhide ST6).len; (try simp only [List.length_nil]); omega)).mono ?_; rintro e w7 ⟨v7, rfl, r7, g7⟩; have ST7 := hide ((unhide ST6).up (unhide g7)); have TT7 := hide ((unhide TT6).trans (Turn.of_below (unhide g7))); have RW := hide ((unhide r7).mono (B' := w.heap.size) (unhide TT6).size); clear ST6 TT6 r7 g7)
      | (go_at_call 26; have _t := ST5; refine (HE _ pb a c _ _ (unhide ST5) (by have := (unhide ST5).le; simp only [needF] at HF ⊢; omega)).mono ?_; rintro e w6 ⟨v6, l6, k6, b6, rfl, r6, s6, t6, p6⟩; have ST6 := s6; have LE6 := (unhide p6).le; have RB := hide ((unhide r6).mono (B' := w.heap.size) (unhide TT5).size); have TT6 := hide ((unhide TT5).trans (unhide t6)); have RAx := hide ((unhide RA).turn (unhide t6) HPB); clear RA; have RA := RAx; clear RAx; clear s6 t6 r6 ST5 TT5)
      | (go_at_call 51; have _t := ST4; refine (take_any ws kIn (by decide) _ pb a c _ _ (unhide ST4)).mono ?_; rintro e w5 ⟨rfl, s5, t5⟩; have ST5 := s5; have TT5 := hide ((unhide TT4).trans (unhide t5)); have LE5 := take_le ws kIn (k4) (b4); have RAx := hide ((unhide RA).turn (unhide t5) HPB); clear RA; have RA := RAx; clear RAx; clear s5 t5 ST4 TT4)
      | (go_at_call 26; have _t := ST3; refine (HE _ pb a c _ _ (unhide ST3) (by have := (unhide ST3).le; simp only [needF] at HF ⊢; omega)).mono ?_; rintro e w4 ⟨v4, l4, k4, b4, rfl, r4, s4, t4, p4⟩; have ST4 := s4; have LE4 := (unhide p4).le; have RA := hide ((unhide r4).mono (B' := w.heap.size) (unhide TT3).size); have TT4 := hide ((unhide TT3).trans (unhide t4)); clear s4 t4 r4 ST3 TT3)
      | (go_at_call 51; have _t := ST2; refine (take_any ws sEq (by decide) _ pb a c _ _ (unhide ST2)).mono ?_; rintro e w3 ⟨rfl, s3, t3⟩; have ST3 := s3; have TT3 := hide ((unhide TT2).trans (unhide t3)); have LE3 := take_le ws sEq (k2) (b2); clear s3 t3 ST2 TT2)
      | (go_at_call 53; have _t := ST1; refine (name_any ws _ pb a c _ _ (unhide ST1)).mono ?_; intro e w2 hr2; obtain ⟨nm, k2, b2, rfl, s2, t2, p2⟩ := hr2.is; have ST2 := s2; have TT2 := hide ((unhide TT1).trans (unhide t2)); have LE2 := (unhide p2).le; clear s2 t2 ST1 TT1 hr2)
      | fail)
    go_ret
    exact ⟨_, _, _, _, rfl, RW, ST7, TT7, hide (PRin.of (let_is ht (unhide p2) (unhide p4) (unhide p6)))⟩
  have n1 := h
  clear h
  by_cases h : textB ws n b = kRep
  · have hb : b = false := by cases b; rfl; exact absurd h (show textB ws n true ≠ kRep from by show (⟨#[]⟩ : ByteArray) ≠ kRep; decide)
    subst hb
    have ht : txt ws n = kRep := h
    have HLT := txt_lt ht (by decide)
    generalize textB ws n false = s at *
    have hs := h
    have q0 : (s.toList == [105, 102]) = false := by rw [str_litR, hs]; decide
    have q1 : (s.toList == [108, 101, 116]) = false := by rw [str_litR, hs]; decide
    have q2 : (s.toList == [114, 101, 112]) = true := by rw [str_litR, hs]; decide
    clear hs h
    go_enter Tryz.func26, Tryz.ntmps26
    go_wp2_with (first
      | (go_at_call 50; refine (unhide HX).mono ?_; rintro e w0 ⟨rfl, d0⟩; have TT0 := hide (show Turn [pb] w w0 from Turn.of_below d0); have ST0 := hide ((unhide ST).up d0); clear HX ST d0; have HS := hide ((unhide ST0).step HLT); have hw1 : IntKind.i64.wrap ((n : Int) + 1) = (n : Int) + 1 := (by have := (unhide ST0).len; rw [IntKind.wrap_i64]; omega); obtain ⟨⟨c0, c1, c2⟩, f0, f1, f2⟩ := (unhide ST0).box.triR; have ST1 := hide (unhide HS).1; have TT1 := hide ((unhide TT0).trans (unhide HS).2); clear HS ST0 TT0)
      | (go_at_call 52; have _t := ST8; refine (l2Put_any _ ⟨23, 0, nm, 3⟩ v2 v6 v8 l2 l6 l8 (unhide RA).in (unhide RB).in (unhide RC).in (by have := (unhide ST8).le; have := (unhide ST8).len; (try simp only [List.length_nil]); omega)).mono ?_; rintro e w9 ⟨v9, rfl, r9, g9⟩; have ST9 := hide ((unhide ST8).up (unhide g9)); have TT9 := hide ((unhide TT8).trans (Turn.of_below (unhide g9))); have RW := hide ((unhide r9).mono (B' := w.heap.size) (unhide TT8).size); clear ST8 TT8 r9 g9)
      | (go_at_call 26; have _t := ST7; refine (HE _ pb a c _ _ (unhide ST7) (by have := (unhide ST7).le; simp only [needF] at HF ⊢; omega)).mono ?_; rintro e w8 ⟨v8, l8, k8, b8, rfl, r8, s8, t8, p8⟩; have ST8 := s8; have LE8 := (unhide p8).le; have RC := hide ((unhide r8).mono (B' := w.heap.size) (unhide TT7).size); have TT8 := hide ((unhide TT7).trans (unhide t8)); have RAx := hide ((unhide RA).turn (unhide t8) HPB); clear RA; have RA := RAx; clear RAx; have RBx := hide ((unhide RB).turn (unhide t8) HPB); clear RB; have RB := RBx; clear RBx; clear s8 t8 r8 ST7 TT7)
      | (go_at_call 51; have _t := ST6; refine (take_any ws kBy (by decide) _ pb a c _ _ (unhide ST6)).mono ?_; rintro e w7 ⟨rfl, s7, t7⟩; have ST7 := s7; have TT7 := hide ((unhide TT6).trans (unhide t7)); have LE7 := take_le ws kBy (k6) (b6); have RAx := hide ((unhide RA).turn (unhide t7) HPB); clear RA; have RA := RAx; clear RAx; have RBx := hide ((unhide RB).turn (unhide t7) HPB); clear RB; have RB := RBx; clear RBx; clear s7 t7 ST6 TT6)
      | (go_at_call 26; have _t := ST5; refine (HE _ pb a c _ _ (unhide ST5) (by have := (unhide ST5).le; simp only [needF] at HF ⊢; omega)).mono ?_; rintro e w6 ⟨v6, l6, k6, b6, rfl, r6, s6, t6, p6⟩; have ST6 := s6; have LE6 := (unhide p6).le; have RB := hide ((unhide r6).mono (B' := w.heap.size) (unhide TT5).size); have TT6 := hide ((unhide TT5).trans (unhide t6)); have RAx := hide ((unhide RA).turn (unhide t6) HPB); clear RA; have RA := RAx; clear RAx; clear s6 t6 r6 ST5 TT5)
      | (go_at_call 51; have _t := ST4; refine (take_any ws kFrom (by decide) _ pb a c _ _ (unhide ST4)).mono ?_; rintro e w5 ⟨rfl, s5, t5⟩; have ST5 := s5; have TT5 := hide ((unhide TT4).trans (unhide t5)); have LE5 := take_le ws kFrom (k4) (b4); have RAx := hide ((unhide RA).turn (unhide t5) HPB); clear RA; have RA := RAx; clear RAx; clear s5 t5 ST4 TT4)
      | (go_at_call 53; have _t := ST3; refine (name_any ws _ pb a c _ _ (unhide ST3)).mono ?_; intro e w4 hr4; obtain ⟨nm, k4, b4, rfl, s4, t4, p4⟩ := hr4.is; have ST4 := s4; have TT4 := hide ((unhide TT3).trans (unhide t4)); have LE4 := (unhide p4).le; have RAx := hide ((unhide RA).turn (unhide t4) HPB); clear RA; have RA := RAx; clear RAx; clear s4 t4 ST3 TT3 hr4)
      | (go_at_call 51; have _t := ST2; refine (take_any ws kAs (by decide) _ pb a c _ _ (unhide ST2)).mono ?_; rintro e w3 ⟨rfl, s3, t3⟩; have ST3 := s3; have TT3 := hide ((unhide TT2).trans (unhide t3)); have LE3 := take_le ws kAs (k2) (b2); have RAx := hide ((unhide RA).turn (unhide t3) HPB); clear RA; have RA := RAx; clear RAx; clear s3 t3 ST2 TT2)
      | (go_at_call 26; have _t := ST1; refine (HE _ pb a c _ _ (unhide ST1) (by have := (unhide ST1).le; simp only [needF] at HF ⊢; omega)).mono ?_; rintro e w2 ⟨v2, l2, k2, b2, rfl, r2, s2, t2, p2⟩; have ST2 := s2; have LE2 := (unhide p2).le; have RA := hide ((unhide r2).mono (B' := w.heap.size) (unhide TT1).size); have TT2 := hide ((unhide TT1).trans (unhide t2)); clear s2 t2 r2 ST1 TT1)
      | fail)
    go_ret
    exact ⟨_, _, _, _, rfl, RW, ST9, TT9, hide (PRin.of (rep_is ht (unhide p2) (unhide p4) (unhide p6) (unhide p8)))⟩
  have n2 := h
  clear h
  have HR := hide (fun l k b' (h : PRin b (parse ws f (.level 1) n) n l k b') => show PRin b (parse ws (f + 1) .expr n) n l k b' from by
    cases b
    · rw [parse, if_neg (show ¬ txt ws n = kIf from n0), if_neg (show ¬ txt ws n = kLet from n1), if_neg (show ¬ txt ws n = kRep from n2)]; exact h
    · exact h)
  generalize textB ws n b = s at *
  have q0 : (s.toList == [105, 102]) = false := by rw [str_litR]; exact decide_eq_false (n0)
  have q1 : (s.toList == [108, 101, 116]) = false := by rw [str_litR]; exact decide_eq_false (n1)
  have q2 : (s.toList == [114, 101, 112]) = false := by rw [str_litR]; exact decide_eq_false (n2)
  clear n0 n1 n2
  go_enter Tryz.func26, Tryz.ntmps26
  go_wp2_with (first
    | (go_at_call 50; refine (unhide HX).mono ?_; rintro e w0 ⟨rfl, d0⟩; have TT0 := hide (show Turn [pb] w w0 from Turn.of_below d0); have ST0 := hide ((unhide ST).up d0); clear HX ST d0)
    | (go_at_call 54; refine (HL 1 _ pb a c _ _ (by omega) (by omega) (unhide ST0) (by simp only [needF] at HF ⊢; omega)).mono ?_; rintro e w1 ⟨v1, l1, k1, b1, rfl, r1, s1, t1, p1⟩; have R1 := hide ((unhide r1).mono (B' := w.heap.size) (unhide TT0).size); have T1 := hide ((unhide TT0).trans (unhide t1)); clear r1 t1)
    | fail)
  go_ret
  exact ⟨_, _, _, _, rfl, R1, s1, T1, hide (unhide HR _ _ _ (unhide p1))⟩
end Go.Proofs.YtkfhokeoooafnaaGreatDoor
