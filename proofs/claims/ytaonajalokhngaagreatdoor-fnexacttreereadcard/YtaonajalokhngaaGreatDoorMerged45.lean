/-
  The specification's reader: signs ahead. (Made by wip/mkreade.py.)
-/
/-
  The specification's reader: two in brackets. (Made by wip/mkreade.py.)
-/
import Derived.Test.YtaonajalokhngaaGreatDoorReadS3
import Derived.Deep.RegionHeld3
set_option linter.unusedVariables false
namespace Go.Proofs.YtaonajalokhngaaGreatDoor
open Go.RowKit Go.Maps Go.Deep

set_option maxHeartbeats 6400000 in
set_option maxRecDepth 20000 in
theorem ahead_one (ws : List WordV) (f : Nat) (HH : SaidH ws f) (HA : SaidA ws f) : SaidH ws (f + 1) := by
  intro w pb a c n b hp HF
  have HPB := hp.lt
  have HX := hide (text_any ws w pb a c n b hp)
  have ST := hide hp
  clear hp
  by_cases h : textB ws n b = sSub
  · have hb : b = false := by cases b; rfl; exact absurd h (show textB ws n true ≠ sSub from by show (⟨#[]⟩ : ByteArray) ≠ sSub; decide)
    subst hb
    have ht : txt ws n = sSub := h
    have HLT := txt_lt ht (by decide)
    have HR := hide (fun l k b' (h : PRin false (parse ws f .ahead (n + 1)) (n + 1) l k b') => show PRis (parse ws (f + 1) .ahead n) n (⟨3, 0, ⟨#[]⟩, 1⟩ :: (l ++ ([] ++ []))) k b' from by
      have hn : n + (⟨3, 0, ⟨#[]⟩, 1⟩ :: (l ++ ([] ++ [])) : List NodeV).length ≤ k := by have := h.le; simp only [List.length_cons, List.length_append, List.length_nil]; omega
      rw [parse, if_pos ht]
      refine is_then h (fun hb => ⟨hb, rfl⟩) hn fun t hb e => ?_
      exact ⟨hn, hb, rfl, by rw [fl_node1, e]; simp⟩)
    generalize textB ws n false = s at *
    have hs := h
    have q0 : (s.toList == [45]) = true := by rw [str_litR, hs]; decide
    have q1 : (s.toList == [110, 111, 116]) = false := by rw [str_litR, hs]; decide
    clear hs h
    go_enter Tryz.func33, Tryz.ntmps33
    go_wp2_with (first
      | (go_at_call 18; refine (unhide HX).mono ?_; rintro e w0 ⟨rfl, d0⟩; have TT0 := hide (show Turn [pb] w w0 from Turn.of_below d0); have ST0 := hide ((unhide ST).up d0); clear HX ST d0; have HS := hide ((unhide ST0).step HLT); have hw1 : IntKind.i64.wrap ((n : Int) + 1) = (n : Int) + 1 := (by have := (unhide ST0).len; rw [IntKind.wrap_i64]; omega); obtain ⟨⟨c0, c1, c2⟩, f0, f1, f2⟩ := (unhide ST0).box.triR; have ST1 := hide (unhide HS).1; have TT1 := hide ((unhide TT0).trans (unhide HS).2); clear HS ST0 TT0)
      | (go_at_call 20; have _t := ST2; refine (l2Put_any _ ⟨3, 0, ⟨#[]⟩, 1⟩ v2 (.slice none 0 0) (.slice none 0 0) l2 [] [] (unhide RA).in (NdIn.nil _) (NdIn.nil _) (by have := (unhide ST2).le; have := (unhide ST2).len; (try simp only [List.length_nil]); omega)).mono ?_; rintro e w3 ⟨v3, rfl, r3, g3⟩; have ST3 := hide ((unhide ST2).up (unhide g3)); have TT3 := hide ((unhide TT2).trans (Turn.of_below (unhide g3))); have RW := hide ((unhide r3).mono (B' := w.heap.size) (unhide TT2).size); clear ST2 TT2 r3 g3)
      | (go_at_call 33; have _t := ST1; refine (HH _ pb a c _ _ (unhide ST1) (by have := (unhide ST1).le; simp only [needF] at HF ⊢; omega)).mono ?_; rintro e w2 ⟨v2, l2, k2, b2, rfl, r2, s2, t2, p2⟩; have ST2 := s2; have LE2 := (unhide p2).le; have RA := hide ((unhide r2).mono (B' := w.heap.size) (unhide TT1).size); have TT2 := hide ((unhide TT1).trans (unhide t2)); clear s2 t2 r2 ST1 TT1)
      | fail)
    go_ret
    exact ⟨_, _, _, _, rfl, RW, ST3, TT3, hide (PRin.of (unhide HR _ _ _ (unhide p2)))⟩
  have n0 := h
  clear h
  by_cases h : textB ws n b = kNot
  · have hb : b = false := by cases b; rfl; exact absurd h (show textB ws n true ≠ kNot from by show (⟨#[]⟩ : ByteArray) ≠ kNot; decide)
    subst hb
    have ht : txt ws n = kNot := h
    have HLT := txt_lt ht (by decide)
    have HR := hide (fun l k b' (h : PRin false (parse ws f .ahead (n + 1)) (n + 1) l k b') => show PRis (parse ws (f + 1) .ahead n) n (⟨4, 0, ⟨#[]⟩, 1⟩ :: (l ++ ([] ++ []))) k b' from by
      have hn : n + (⟨4, 0, ⟨#[]⟩, 1⟩ :: (l ++ ([] ++ [])) : List NodeV).length ≤ k := by have := h.le; simp only [List.length_cons, List.length_append, List.length_nil]; omega
      rw [parse, if_neg (by rw [ht]; decide), if_pos ht]
      refine is_then h (fun hb => ⟨hb, rfl⟩) hn fun t hb e => ?_
      exact ⟨hn, hb, rfl, by rw [fl_node1, e]; simp⟩)
    generalize textB ws n false = s at *
    have hs := h
    have q0 : (s.toList == [45]) = false := by rw [str_litR, hs]; decide
    have q1 : (s.toList == [110, 111, 116]) = true := by rw [str_litR, hs]; decide
    clear hs h
    go_enter Tryz.func33, Tryz.ntmps33
    go_wp2_with (first
      | (go_at_call 18; refine (unhide HX).mono ?_; rintro e w0 ⟨rfl, d0⟩; have TT0 := hide (show Turn [pb] w w0 from Turn.of_below d0); have ST0 := hide ((unhide ST).up d0); clear HX ST d0; have HS := hide ((unhide ST0).step HLT); have hw1 : IntKind.i64.wrap ((n : Int) + 1) = (n : Int) + 1 := (by have := (unhide ST0).len; rw [IntKind.wrap_i64]; omega); obtain ⟨⟨c0, c1, c2⟩, f0, f1, f2⟩ := (unhide ST0).box.triR; have ST1 := hide (unhide HS).1; have TT1 := hide ((unhide TT0).trans (unhide HS).2); clear HS ST0 TT0)
      | (go_at_call 20; have _t := ST2; refine (l2Put_any _ ⟨4, 0, ⟨#[]⟩, 1⟩ v2 (.slice none 0 0) (.slice none 0 0) l2 [] [] (unhide RA).in (NdIn.nil _) (NdIn.nil _) (by have := (unhide ST2).le; have := (unhide ST2).len; (try simp only [List.length_nil]); omega)).mono ?_; rintro e w3 ⟨v3, rfl, r3, g3⟩; have ST3 := hide ((unhide ST2).up (unhide g3)); have TT3 := hide ((unhide TT2).trans (Turn.of_below (unhide g3))); have RW := hide ((unhide r3).mono (B' := w.heap.size) (unhide TT2).size); clear ST2 TT2 r3 g3)
      | (go_at_call 33; have _t := ST1; refine (HH _ pb a c _ _ (unhide ST1) (by have := (unhide ST1).le; simp only [needF] at HF ⊢; omega)).mono ?_; rintro e w2 ⟨v2, l2, k2, b2, rfl, r2, s2, t2, p2⟩; have ST2 := s2; have LE2 := (unhide p2).le; have RA := hide ((unhide r2).mono (B' := w.heap.size) (unhide TT1).size); have TT2 := hide ((unhide TT1).trans (unhide t2)); clear s2 t2 r2 ST1 TT1)
      | fail)
    go_ret
    exact ⟨_, _, _, _, rfl, RW, ST3, TT3, hide (PRin.of (unhide HR _ _ _ (unhide p2)))⟩
  have n1 := h
  clear h
  have HR := hide (fun l k b' (h : PRin b (parse ws f .atom n) n l k b') => show PRin b (parse ws (f + 1) .ahead n) n l k b' from by
    cases b
    · rw [parse, if_neg (show ¬ txt ws n = sSub from n0), if_neg (show ¬ txt ws n = kNot from n1)]; exact h
    · exact h)
  generalize textB ws n b = s at *
  have q0 : (s.toList == [45]) = false := by rw [str_litR]; exact decide_eq_false (n0)
  have q1 : (s.toList == [110, 111, 116]) = false := by rw [str_litR]; exact decide_eq_false (n1)
  clear n0 n1
  go_enter Tryz.func33, Tryz.ntmps33
  go_wp2_with (first
    | (go_at_call 18; refine (unhide HX).mono ?_; rintro e w0 ⟨rfl, d0⟩; have TT0 := hide (show Turn [pb] w w0 from Turn.of_below d0); have ST0 := hide ((unhide ST).up d0); clear HX ST d0)
    | (go_at_call 51; refine (HA _ pb a c _ _ (unhide ST0) (by simp only [needF] at HF ⊢; omega)).mono ?_; rintro e w1 ⟨v1, l1, k1, b1, rfl, r1, s1, t1, p1⟩; have R1 := hide ((unhide r1).mono (B' := w.heap.size) (unhide TT0).size); have T1 := hide ((unhide TT0).trans (unhide t1)); clear r1 t1)
    | fail)
  go_ret
  exact ⟨_, _, _, _, rfl, R1, s1, T1, hide (unhide HR _ _ _ (unhide p1))⟩
end Go.Proofs.YtaonajalokhngaaGreatDoor

set_option linter.unusedVariables false
namespace Go.Proofs.YtaonajalokhngaaGreatDoor
open Go.RowKit Go.Maps Go.Deep

set_option maxHeartbeats 6400000 in
set_option maxRecDepth 20000 in
theorem pair_one (ws : List WordV) (f : Nat) (HE : SaidE ws f) (kd : Int) (w : World) (pb : Nat) (a : Option Addr) (c n : Nat) (hp : PrS ws w pb a c n false) (HLT : n < ws.length) (HF : needF (ws.length - n) .atom < f + 1) :
    Calls Tryz.prog 67 #[.pointer (some ⟨pb, 0, none⟩), .int .i64 kd] w fun e w' => RetP ws pb a c n false (pairR ws f kd n) w e w' := by
  have HPB := hp.lt
  have ST0 := hide hp
  have TT0 := hide (Turn.refl [pb] w)
  clear hp
  have HS := hide ((unhide ST0).step HLT)
  have hw1 : IntKind.i64.wrap ((n : Int) + 1) = (n : Int) + 1 := (by have := (unhide ST0).len; rw [IntKind.wrap_i64]; omega)
  obtain ⟨⟨c0, c1, c2⟩, f0, f1, f2⟩ := (unhide ST0).box.triR
  have ST1 := hide (unhide HS).1
  have TT1 := hide ((unhide TT0).trans (unhide HS).2)
  clear HS ST0 TT0
  go_enter Tryz.func67, Tryz.ntmps67
  go_wp2_with (first
    | (go_at_call 20; have _t := ST6; refine (l2Put_any _ ⟨kd, 0, ⟨#[]⟩, 2⟩ v3 v5 (.slice none 0 0) l3 l5 [] (unhide RA).in (unhide RB).in (NdIn.nil _) (by have := (unhide ST6).le; have := (unhide ST6).len; (try simp only [List.length_nil]); omega)).mono ?_; rintro e w7 ⟨v7, rfl, r7, g7⟩; have ST7 := hide ((unhide ST6).up (unhide g7)); have TT7 := hide ((unhide TT6).trans (Turn.of_below (unhide g7))); have RW := hide ((unhide r7).mono (B' := w.heap.size) (unhide TT6).size); clear ST6 TT6 r7 g7)
    | (go_at_call 19; have _t := ST5; refine (take_any ws sShut (by decide) _ pb a c _ _ (unhide ST5)).mono ?_; rintro e w6 ⟨rfl, s6, t6⟩; have ST6 := s6; have TT6 := hide ((unhide TT5).trans (unhide t6)); have LE6 := take_le ws sShut (k5) (b5); have RAx := hide ((unhide RA).turn (unhide t6) HPB); clear RA; have RA := RAx; clear RAx; have RBx := hide ((unhide RB).turn (unhide t6) HPB); clear RB; have RB := RBx; clear RBx; clear s6 t6 ST5 TT5)
    | (go_at_call 11; have _t := ST4; refine (HE _ pb a c _ _ (unhide ST4) (by have := (unhide ST4).le; simp only [needF] at HF ⊢; omega)).mono ?_; rintro e w5 ⟨v5, l5, k5, b5, rfl, r5, s5, t5, p5⟩; have ST5 := s5; have LE5 := (unhide p5).le; have RB := hide ((unhide r5).mono (B' := w.heap.size) (unhide TT4).size); have TT5 := hide ((unhide TT4).trans (unhide t5)); have RAx := hide ((unhide RA).turn (unhide t5) HPB); clear RA; have RA := RAx; clear RAx; clear s5 t5 r5 ST4 TT4)
    | (go_at_call 19; have _t := ST3; refine (take_any ws sComma (by decide) _ pb a c _ _ (unhide ST3)).mono ?_; rintro e w4 ⟨rfl, s4, t4⟩; have ST4 := s4; have TT4 := hide ((unhide TT3).trans (unhide t4)); have LE4 := take_le ws sComma (k3) (b3); have RAx := hide ((unhide RA).turn (unhide t4) HPB); clear RA; have RA := RAx; clear RAx; clear s4 t4 ST3 TT3)
    | (go_at_call 11; have _t := ST2; refine (HE _ pb a c _ _ (unhide ST2) (by have := (unhide ST2).le; simp only [needF] at HF ⊢; omega)).mono ?_; rintro e w3 ⟨v3, l3, k3, b3, rfl, r3, s3, t3, p3⟩; have ST3 := s3; have LE3 := (unhide p3).le; have RA := hide ((unhide r3).mono (B' := w.heap.size) (unhide TT2).size); have TT3 := hide ((unhide TT2).trans (unhide t3)); clear s3 t3 r3 ST2 TT2)
    | (go_at_call 19; have _t := ST1; refine (take_any ws sOpen (by decide) _ pb a c _ _ (unhide ST1)).mono ?_; rintro e w2 ⟨rfl, s2, t2⟩; have ST2 := s2; have TT2 := hide ((unhide TT1).trans (unhide t2)); have LE2 := take_le ws sOpen (n + 1) (false); clear s2 t2 ST1 TT1)
    | fail)
  go_ret
  exact ⟨_, _, _, _, rfl, RW, ST7, TT7, hide (PRin.of (pair_is (unhide p3) (unhide p5)))⟩
end Go.Proofs.YtaonajalokhngaaGreatDoor
