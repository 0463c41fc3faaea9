/-
  The specification's reader: what binds most.
-/
/-
  The specification's reader: all of it.
-/
import Derived.Test.YtkfhokeoooafnaaGreatDoorMerged48
import Derived.Deep.RegionHeld3
import Derived.Deep.DeepCutAuto
import Derived.Deep.CutBlock
import Derived.Test.YtkfhokeoooafnaaGreatDoorReadE
import Derived.Test.YtkfhokeoooafnaaGreatDoorMerged21
set_option linter.unusedVariables false
namespace Go.Proofs.YtkfhokeoooafnaaGreatDoor
open Go.RowKit Go.Maps Go.Deep

theorem ndOne (w : World) (B : Nat) (hB : B ≤ w.heap.size) (x : NodeV) : NdRow B (w.alloc (.cells #[.int .i64 x.kind, .int .i64 x.num, .string x.name, .int .i64 x.kids] 51)) (.slice (some ⟨w.heap.size, 0, none⟩) 1 1) [x] := by
  have := World.ownsRow_lit (size := 4) (base := B) (e := 51) w #[.int .i64 x.kind, .int .i64 x.num, .string x.name, .int .i64 x.kids] 1 hB (by unfold maxLen; omega) rfl
  unfold NdRow
  exact this
set_option maxHeartbeats 6400000 in
set_option maxRecDepth 20000 in
theorem atom_one (ws : List WordV) (hw : ∀ x ∈ ws, WordIs x) (f : Nat) (HE : SaidE ws f) : SaidA ws (f + 1) := by
  intro w pb a c n b hp HF
  have HPB := hp.lt
  have HP := hide hp
  have hle := hp.le
  obtain ⟨⟨c0, c1, c2⟩, f0, f1, f2⟩ := hp.box.triR
  have PF := hide (hp.fail)
  have HNO := hide (fun (h : b = true ∨ ws.length ≤ n) => show PRin b (parse ws (f + 1) .atom n) n [] n true from by
    unfold PRin
    split
    · exact ⟨rfl, rfl, rfl⟩
    · rename_i hb
      have hlen : ws.length ≤ n := h.resolve_left hb
      refine ⟨by simp, ?_⟩
      rw [parse, List.getElem?_eq_none hlen]
      exact ⟨rfl, rfl⟩)
  have hz0 : (0 : Int) ≤ (n : Int) := by omega
  cases b
  rotate_left
  · have FIN := hide (unhide HNO (.inl rfl))
    clear HP hp HNO
    go_enter Tryz.func105, Tryz.ntmps105
    go_wp2_with fail
    go_region
    all_goals
      go_wp2_with fail
      go_ret
      exact ⟨_, _, _, _, rfl, hide (NdRow.nil _ _), hide ((unhide PF).1.up (Below.refl _ _).drew), hide ((unhide PF).2.trans (Turn.of_below (Below.refl _ _).drew)), FIN⟩
  by_cases hlt : n < ws.length
  rotate_left
  · have FIN := hide (unhide HNO (.inr (by omega)))
    have hge : ¬ (n : Int) < (ws.length : Int) := by omega
    have hge2 : (ws.length : Int) ≤ (n : Int) := by omega
    clear hp HNO HP
    generalize hwl : ws.length = wl at *
    clear hwl
    go_enter Tryz.func105, Tryz.ntmps105
    go_wp2_with fail
    go_region
    all_goals
      go_wp2_with fail
      go_ret
      exact ⟨_, _, _, _, rfl, hide (NdRow.nil _ _), hide ((unhide PF).1.up (Below.refl _ _).drew), hide ((unhide PF).2.trans (Turn.of_below (Below.refl _ _).drew)), FIN⟩
  have hlt2 : (n : Int) < (ws.length : Int) := by omega
  have hnge : ¬ (ws.length : Int) ≤ (n : Int) := by omega
  have hng3 : ¬ ws.length ≤ n := by omega
  have PD := hide (hp.up (Below.refl w.heap.size w).drew)
  obtain ⟨g, o, rfl, hg, k0, k1, k2⟩ := hp.cell hlt
  obtain ⟨g', o', eg, hg', d0, d1, d2⟩ := (unhide PD).cell hlt
  cases eg
  have HWI := hide (show ws[n].a0 = 1 → ws[n].a1.size ≤ 18 ∧ ∀ b ∈ ws[n].a1.data.toList, 48 ≤ b.toNat ∧ b.toNat ≤ 57 from fun h0 => by
    cases hw ws[n] (List.getElem_mem _) with
    | num h h1 hd => exact ⟨h1.2, hd⟩
    | name h _ _ _ => omega
    | key h _ => omega
    | sign h _ => omega)
  have HPQ := hide (show parse ws (f + 1) .atom n = (if ws[n].a0 = 1 then .ok (node0 1 (numTextV ws[n].a1) ⟨#[]⟩) (n + 1)
      else if ws[n].a0 = 2 then .ok (node0 2 0 ws[n].a1) (n + 1)
      else if ws[n].a1 = kMin ∨ ws[n].a1 = kMax then pairR ws f (if ws[n].a1 = kMin then 18 else 19) n
      else if ws[n].a1 = kAbs then absR ws f n
      else if ws[n].a1 = sOpen then openR ws f n
      else .bad n) from by rw [parse, List.getElem?_eq_getElem hlt]; rfl)
  have A0 := hide ((((Below.refl w.heap.size w).alloc (Nat.le_refl _) (.cells #[.int .i64 ws[n].a0, .string ws[n].a1, .int .i64 ws[n].a2] 62)).drew).drew)
  have BX := hide (((boxF_new w [.int .i64 ws[n].a0, .string ws[n].a1, .int .i64 ws[n].a2] 62).turn (Turn.of_below (S := []) (Below.refl _ _).drew) (by simp)).turn (Turn.of_below (S := []) (Below.refl _ _).drew) (by simp))
  simp only [List.toArray] at BX
  have PA := hide ((unhide HP).up (unhide A0))
  have HWL := hide (show n < ws.length from hlt)
  have HFF := hide HF
  clear PF HNO hp f0 f1 f2 PD HF
  generalize ws[n].a0 = kd at *
  generalize ws[n].a1 = tx at *
  generalize ws[n].a2 = pl at *
  clear hlt HP
  generalize ws.length = wl at c0 hlt2 hnge hng3 hle
  by_cases h1 : kd = 1
  · have g1 : (kd == 1) = true := by rw [beq_iff_eq]; exact h1
    have FIN := hide (show PRin false (parse ws (f + 1) .atom n) n [⟨1, numTextV tx, ⟨#[]⟩, 0⟩] (n + 1) false from PRin.of (by rw [unhide HPQ, if_pos h1]; exact ⟨by simp, rfl, rfl, rfl⟩))
    have HK := hide h1
    clear HPQ h1
    go_enter Tryz.func105, Tryz.ntmps105
    go_wp2_with fail
    go_region
    all_goals
      go_wp2_with fail
      go_region
      all_goals
        generalize ((w.alloc (.cells #[.int .i64 kd, .string tx, .int .i64 pl] 62)).drew).drew = W2 at *
        obtain ⟨⟨x0, x1, x2⟩, -⟩ := (unhide BX).triR
        have ST0 := PA
        have TT0 := hide (show Turn [pb] w W2 from Turn.of_below (unhide A0))
        obtain ⟨⟨p0, p1, p2⟩, f0, f1, f2⟩ := (unhide ST0).box.triR
        have hw1 : IntKind.i64.wrap ((n : Int) + 1) = (n : Int) + 1 := by have := (unhide ST0).len; have := unhide HWL; rw [IntKind.wrap_i64]; omega
        have HS := hide ((unhide ST0).step (unhide HWL))
        have ST1 := hide (unhide HS).1
        have TT1 := hide ((unhide TT0).trans (unhide HS).2)
        have BX1 := hide ((unhide BX).turn (unhide HS).2 (by have := HPB; simp; omega))
        obtain ⟨⟨y0, y1, y2⟩, -⟩ := (unhide BX1).triR
        clear HS
        clear HE
        go_wp2_with (first
          | (go_at_call 116; refine (l2Number_any tx _ (unhide HWI (unhide HK)).1 (unhide HWI (unhide HK)).2).mono ?_; rintro e w3 ⟨rfl, rfl⟩)
          | fail)
        have hz3 : (W2.setCell ⟨pb, 1, none⟩ (.int .i64 ((n : Int) + 1))).heap.size = W2.heap.size := by simp
        have RN := hide (ndOne (W2.setCell ⟨pb, 1, none⟩ (.int .i64 ((n : Int) + 1))) w.heap.size (by rw [hz3]; exact (unhide A0).size) ⟨1, numTextV tx, ⟨#[]⟩, 0⟩)
        rw [hz3] at RN
        go_ret
        exact ⟨_, _, _, _, rfl, RN, hide ((unhide ST1).up ((Below.refl _ _).alloc (Nat.le_refl _) _)), hide ((unhide TT1).alloc _), FIN⟩
  by_cases h2 : kd = 2
  · have g1 : (kd == 1) = false := by rw [beq_eq_false_iff_ne]; exact h1
    have g2 : (kd == 2) = true := by rw [beq_iff_eq]; exact h2
    have FIN := hide (show PRin false (parse ws (f + 1) .atom n) n [⟨2, 0, tx, 0⟩] (n + 1) false from PRin.of (by rw [unhide HPQ, if_neg h1, if_pos h2]; exact ⟨by simp, rfl, rfl, rfl⟩))
    clear HPQ h1 h2 HWI
    go_enter Tryz.func105, Tryz.ntmps105
    go_wp2_with fail
    go_region
    all_goals
      go_wp2_with fail
      go_region
      all_goals
        generalize ((w.alloc (.cells #[.int .i64 kd, .string tx, .int .i64 pl] 62)).drew).drew = W2 at *
        obtain ⟨⟨x0, x1, x2⟩, -⟩ := (unhide BX).triR
        have ST0 := PA
        have TT0 := hide (show Turn [pb] w W2 from Turn.of_below (unhide A0))
        obtain ⟨⟨p0, p1, p2⟩, f0, f1, f2⟩ := (unhide ST0).box.triR
        have hw1 : IntKind.i64.wrap ((n : Int) + 1) = (n : Int) + 1 := by have := (unhide ST0).len; have := unhide HWL; rw [IntKind.wrap_i64]; omega
        have HS := hide ((unhide ST0).step (unhide HWL))
        have ST1 := hide (unhide HS).1
        have TT1 := hide ((unhide TT0).trans (unhide HS).2)
        have BX1 := hide ((unhide BX).turn (unhide HS).2 (by have := HPB; simp; omega))
        obtain ⟨⟨y0, y1, y2⟩, -⟩ := (unhide BX1).triR
        clear HS
        clear HE
        go_wp2_with fail
        have hz3 : (W2.setCell ⟨pb, 1, none⟩ (.int .i64 ((n : Int) + 1))).heap.size = W2.heap.size := by simp
        have RN := hide (ndOne (W2.setCell ⟨pb, 1, none⟩ (.int .i64 ((n : Int) + 1))) w.heap.size (by rw [hz3]; exact (unhide A0).size) ⟨2, 0, tx, 0⟩)
        rw [hz3] at RN
        go_ret
        exact ⟨_, _, _, _, rfl, RN, hide ((unhide ST1).up ((Below.refl _ _).alloc (Nat.le_refl _) _)), hide ((unhide TT1).alloc _), FIN⟩
  by_cases m0 : tx = kMin
  · have hs := m0
    have g1 : (kd == 1) = false := by rw [beq_eq_false_iff_ne]; exact h1
    have g2 : (kd == 2) = false := by rw [beq_eq_false_iff_ne]; exact h2
    have q0 : (tx.toList == [109, 105, 110]) = true := by rw [str_litR, hs]; decide
    have q1 : (tx.toList == [109, 97, 120]) = false := by rw [str_litR, hs]; decide
    have q2 : (tx.toList == [97, 98, 115]) = false := by rw [str_litR, hs]; decide
    have q3 : (tx.toList == [40]) = false := by rw [str_litR, hs]; decide
    have FIN := hide (fun l k b (h : PRis (pairR ws f 18 n) n l k b) => show PRin false (parse ws (f + 1) .atom n) n l k b from PRin.of (by rw [unhide HPQ, if_neg h1, if_neg h2, if_pos (.inl hs), if_pos hs]; exact h))
    clear HPQ h1 h2 HWI hs m0
    go_enter Tryz.func105, Tryz.ntmps105
    go_wp2_with fail
    go_region
    all_goals
      go_wp2_with fail
      go_region
      all_goals
        generalize ((w.alloc (.cells #[.int .i64 kd, .string tx, .int .i64 pl] 62)).drew).drew = W2 at *
        obtain ⟨⟨x0, x1, x2⟩, -⟩ := (unhide BX).triR
        have ST0 := PA
        have TT0 := hide (show Turn [pb] w W2 from Turn.of_below (unhide A0))
        obtain ⟨⟨p0, p1, p2⟩, f0, f1, f2⟩ := (unhide ST0).box.triR
        have hw1 : IntKind.i64.wrap ((n : Int) + 1) = (n : Int) + 1 := by have := (unhide ST0).len; have := unhide HWL; rw [IntKind.wrap_i64]; omega
        have HS := hide ((unhide ST0).step (unhide HWL))
        have ST1 := hide (unhide HS).1
        have TT1 := hide ((unhide TT0).trans (unhide HS).2)
        have BX1 := hide ((unhide BX).turn (unhide HS).2 (by have := HPB; simp; omega))
        obtain ⟨⟨y0, y1, y2⟩, -⟩ := (unhide BX1).triR
        clear HS
        have HF := unhide HFF
        go_wp2_with (first
          | (go_at_call 117; refine (pair_one ws f HE 18 _ pb _ c n (unhide ST0) (unhide HWL) HF).mono ?_; rintro e w4 ⟨v4, l4, k4, b4, rfl, r4, s4, t4, p4⟩; have R4 := hide ((unhide r4).mono (B' := w.heap.size) (unhide TT0).size); have T4 := hide ((unhide TT0).trans (unhide t4)))
          | fail)
        go_ret
        exact ⟨_, _, _, _, rfl, R4, s4, T4, hide (unhide FIN _ _ _ (unhide p4))⟩
  by_cases m1 : tx = kMax
  · have hs := m1
    have g1 : (kd == 1) = false := by rw [beq_eq_false_iff_ne]; exact h1
    have g2 : (kd == 2) = false := by rw [beq_eq_false_iff_ne]; exact h2
    have q0 : (tx.toList == [109, 105, 110]) = false := by rw [str_litR, hs]; decide
    have q1 : (tx.toList == [109, 97, 120]) = true := by rw [str_litR, hs]; decide
    have q2 : (tx.toList == [97, 98, 115]) = false := by rw [str_litR, hs]; decide
    have q3 : (tx.toList == [40]) = false := by rw [str_litR, hs]; decide
    have FIN := hide (fun l k b (h : PRis (pairR ws f 19 n) n l k b) => show PRin false (parse ws (f + 1) .atom n) n l k b from PRin.of (by rw [unhide HPQ, if_neg h1, if_neg h2, if_pos (.inr hs), if_neg (by rw [hs]; decide)]; exact h))
    clear HPQ h1 h2 HWI hs m1
    go_enter Tryz.func105, Tryz.ntmps105
    go_wp2_with fail
    go_region
    all_goals
      go_wp2_with fail
      go_region
      all_goals
        generalize ((w.alloc (.cells #[.int .i64 kd, .string tx, .int .i64 pl] 62)).drew).drew = W2 at *
        obtain ⟨⟨x0, x1, x2⟩, -⟩ := (unhide BX).triR
        have ST0 := PA
        have TT0 := hide (show Turn [pb] w W2 from Turn.of_below (unhide A0))
        obtain ⟨⟨p0, p1, p2⟩, f0, f1, f2⟩ := (unhide ST0).box.triR
        have hw1 : IntKind.i64.wrap ((n : Int) + 1) = (n : Int) + 1 := by have := (unhide ST0).len; have := unhide HWL; rw [IntKind.wrap_i64]; omega
        have HS := hide ((unhide ST0).step (unhide HWL))
        have ST1 := hide (unhide HS).1
        have TT1 := hide ((unhide TT0).trans (unhide HS).2)
        have BX1 := hide ((unhide BX).turn (unhide HS).2 (by have := HPB; simp; omega))
        obtain ⟨⟨y0, y1, y2⟩, -⟩ := (unhide BX1).triR
        clear HS
        have HF := unhide HFF
        go_wp2_with (first
          | (go_at_call 117; refine (pair_one ws f HE 19 _ pb _ c n (unhide ST0) (unhide HWL) HF).mono ?_; rintro e w4 ⟨v4, l4, k4, b4, rfl, r4, s4, t4, p4⟩; have R4 := hide ((unhide r4).mono (B' := w.heap.size) (unhide TT0).size); have T4 := hide ((unhide TT0).trans (unhide t4)))
          | fail)
        go_ret
        exact ⟨_, _, _, _, rfl, R4, s4, T4, hide (unhide FIN _ _ _ (unhide p4))⟩
  by_cases m2 : tx = kAbs
  · have hs := m2
    have g1 : (kd == 1) = false := by rw [beq_eq_false_iff_ne]; exact h1
    have g2 : (kd == 2) = false := by rw [beq_eq_false_iff_ne]; exact h2
    have q0 : (tx.toList == [109, 105, 110]) = false := by rw [str_litR, hs]; decide
    have q1 : (tx.toList == [109, 97, 120]) = false := by rw [str_litR, hs]; decide
    have q2 : (tx.toList == [97, 98, 115]) = true := by rw [str_litR, hs]; decide
    have q3 : (tx.toList == [40]) = false := by rw [str_litR, hs]; decide
    have FIN := hide (fun l k b (h : PRis (absR ws f n) n l k b) => show PRin false (parse ws (f + 1) .atom n) n l k b from PRin.of (by rw [unhide HPQ, if_neg h1, if_neg h2, if_neg (by rw [hs]; decide), if_pos hs]; exact h))
    clear HPQ h1 h2 HWI hs m2
    go_enter Tryz.func105, Tryz.ntmps105
    go_wp2_with fail
    go_region
    all_goals
      go_wp2_with fail
      go_region
      all_goals
        generalize ((w.alloc (.cells #[.int .i64 kd, .string tx, .int .i64 pl] 62)).drew).drew = W2 at *
        obtain ⟨⟨x0, x1, x2⟩, -⟩ := (unhide BX).triR
        have ST0 := PA
        have TT0 := hide (show Turn [pb] w W2 from Turn.of_below (unhide A0))
        obtain ⟨⟨p0, p1, p2⟩, f0, f1, f2⟩ := (unhide ST0).box.triR
        have hw1 : IntKind.i64.wrap ((n : Int) + 1) = (n : Int) + 1 := by have := (unhide ST0).len; have := unhide HWL; rw [IntKind.wrap_i64]; omega
        have HS := hide ((unhide ST0).step (unhide HWL))
        have ST1 := hide (unhide HS).1
        have TT1 := hide ((unhide TT0).trans (unhide HS).2)
        have BX1 := hide ((unhide BX).turn (unhide HS).2 (by have := HPB; simp; omega))
        obtain ⟨⟨y0, y1, y2⟩, -⟩ := (unhide BX1).triR
        clear HS
        have HF := unhide HFF
        go_wp2_with (first
          | (go_at_call 52; have _t := ST4; refine (l2Put_any _ ⟨20, 0, ⟨#[]⟩, 1⟩ v3 (.slice none 0 0) (.slice none 0 0) l3 [] [] (unhide RA).in (NdIn.nil _) (NdIn.nil _) (by have := (unhide ST4).le; have := (unhide ST4).len; (try simp only [List.length_nil]); omega)).mono ?_; rintro e w5 ⟨v5, rfl, r5, g5⟩; have ST5 := hide ((unhide ST4).up (unhide g5)); have TT5 := hide ((unhide TT4).trans (Turn.of_below (unhide g5))); have RW := hide ((unhide r5).mono (B' := w.heap.size) (unhide TT4).size); clear ST4 TT4 r5 g5)
          | (go_at_call 51; have _t := ST3; refine (take_any ws sShut (by decide) _ pb _ c _ _ (unhide ST3)).mono ?_; rintro e w4 ⟨rfl, s4, t4⟩; have ST4 := s4; have TT4 := hide ((unhide TT3).trans (unhide t4)); have LE4 := take_le ws sShut (k3) (b3); have RAx := hide ((unhide RA).turn (unhide t4) HPB); clear RA; have RA := RAx; clear RAx; clear s4 t4 ST3 TT3)
          | (go_at_call 26; have _t := ST2; refine (HE _ pb _ c _ _ (unhide ST2) (by have := (unhide ST2).le; simp only [needF] at HF ⊢; omega)).mono ?_; rintro e w3 ⟨v3, l3, k3, b3, rfl, r3, s3, t3, p3⟩; have ST3 := s3; have LE3 := (unhide p3).le; have RA := hide ((unhide r3).mono (B' := w.heap.size) (unhide TT2).size); have TT3 := hide ((unhide TT2).trans (unhide t3)); clear s3 t3 r3 ST2 TT2)
          | (go_at_call 51; have _t := ST1; refine (take_any ws sOpen (by decide) _ pb _ c _ _ (unhide ST1)).mono ?_; rintro e w2 ⟨rfl, s2, t2⟩; have ST2 := s2; have TT2 := hide ((unhide TT1).trans (unhide t2)); have LE2 := take_le ws sOpen (n + 1) (false); clear s2 t2 ST1 TT1)
          | fail)
        go_ret
        exact ⟨_, _, _, _, rfl, RW, ST5, TT5, hide (unhide FIN _ _ _ (abs_is (unhide p3)))⟩
  by_cases m3 : tx = sOpen
  · have hs := m3
    have g1 : (kd == 1) = false := by rw [beq_eq_false_iff_ne]; exact h1
    have g2 : (kd == 2) = false := by rw [beq_eq_false_iff_ne]; exact h2
    have q0 : (tx.toList == [109, 105, 110]) = false := by rw [str_litR, hs]; decide
    have q1 : (tx.toList == [109, 97, 120]) = false := by rw [str_litR, hs]; decide
    have q2 : (tx.toList == [97, 98, 115]) = false := by rw [str_litR, hs]; decide
    have q3 : (tx.toList == [40]) = true := by rw [str_litR, hs]; decide
    have FIN := hide (fun l k b (h : PRis (openR ws f n) n l k b) => show PRin false (parse ws (f + 1) .atom n) n l k b from PRin.of (by rw [unhide HPQ, if_neg h1, if_neg h2, if_neg (by rw [hs]; decide), if_neg (by rw [hs]; decide), if_pos hs]; exact h))
    clear HPQ h1 h2 HWI hs m3
    go_enter Tryz.func105, Tryz.ntmps105
    go_wp2_with fail
    go_region
    all_goals
      go_wp2_with fail
      go_region
      all_goals
        generalize ((w.alloc (.cells #[.int .i64 kd, .string tx, .int .i64 pl] 62)).drew).drew = W2 at *
        obtain ⟨⟨x0, x1, x2⟩, -⟩ := (unhide BX).triR
        have ST0 := PA
        have TT0 := hide (show Turn [pb] w W2 from Turn.of_below (unhide A0))
        obtain ⟨⟨p0, p1, p2⟩, f0, f1, f2⟩ := (unhide ST0).box.triR
        have hw1 : IntKind.i64.wrap ((n : Int) + 1) = (n : Int) + 1 := by have := (unhide ST0).len; have := unhide HWL; rw [IntKind.wrap_i64]; omega
        have HS := hide ((unhide ST0).step (unhide HWL))
        have ST1 := hide (unhide HS).1
        have TT1 := hide ((unhide TT0).trans (unhide HS).2)
        have BX1 := hide ((unhide BX).turn (unhide HS).2 (by have := HPB; simp; omega))
        obtain ⟨⟨y0, y1, y2⟩, -⟩ := (unhide BX1).triR
        clear HS
        have HF := unhide HFF
        go_wp2_with (first
          | (go_at_call 51; have _t := ST2; refine (take_any ws sShut (by decide) _ pb _ c _ _ (unhide ST2)).mono ?_; rintro e w3 ⟨rfl, s3, t3⟩; have ST3 := s3; have TT3 := hide ((unhide TT2).trans (unhide t3)); have LE3 := take_le ws sShut (k2) (b2); have RAx := hide ((unhide RA).turn (unhide t3) HPB); clear RA; have RA := RAx; clear RAx; clear s3 t3 ST2 TT2)
          | (go_at_call 26; have _t := ST1; refine (HE _ pb _ c _ _ (unhide ST1) (by have := (unhide ST1).le; simp only [needF] at HF ⊢; omega)).mono ?_; rintro e w2 ⟨v2, l2, k2, b2, rfl, r2, s2, t2, p2⟩; have ST2 := s2; have LE2 := (unhide p2).le; have RA := hide ((unhide r2).mono (B' := w.heap.size) (unhide TT1).size); have TT2 := hide ((unhide TT1).trans (unhide t2)); clear s2 t2 r2 ST1 TT1)
          | fail)
        go_ret
        exact ⟨_, _, _, _, rfl, RA, ST3, TT3, hide (unhide FIN _ _ _ (open_is (unhide p2)))⟩
  have g1 : (kd == 1) = false := by rw [beq_eq_false_iff_ne]; exact h1
  have g2 : (kd == 2) = false := by rw [beq_eq_false_iff_ne]; exact h2
  have q0 : (tx.toList == [109, 105, 110]) = false := by rw [str_litR]; exact decide_eq_false m0
  have q1 : (tx.toList == [109, 97, 120]) = false := by rw [str_litR]; exact decide_eq_false m1
  have q2 : (tx.toList == [97, 98, 115]) = false := by rw [str_litR]; exact decide_eq_false m2
  have q3 : (tx.toList == [40]) = false := by rw [str_litR]; exact decide_eq_false m3
  have FIN := hide (show PRin false (parse ws (f + 1) .atom n) n [] n true from PRin.of (by rw [unhide HPQ, if_neg h1, if_neg h2, if_neg (fun h => h.elim m0 m1), if_neg m2, if_neg m3]; exact ⟨by simp, rfl, rfl⟩))
  clear HPQ h1 h2 HWI m0 m1 m2 m3
  go_enter Tryz.func105, Tryz.ntmps105
  go_wp2_with fail
  go_region
  all_goals
    go_wp2_with fail
    go_region
    all_goals
      generalize ((w.alloc (.cells #[.int .i64 kd, .string tx, .int .i64 pl] 62)).drew).drew = W2 at *
      obtain ⟨⟨x0, x1, x2⟩, -⟩ := (unhide BX).triR
      have ST0 := PA
      have TT0 := hide (show Turn [pb] w W2 from Turn.of_below (unhide A0))
      obtain ⟨⟨p0, p1, p2⟩, f0, f1, f2⟩ := (unhide ST0).box.triR
      have hw1 : IntKind.i64.wrap ((n : Int) + 1) = (n : Int) + 1 := by have := (unhide ST0).len; have := unhide HWL; rw [IntKind.wrap_i64]; omega
      have HS := hide ((unhide ST0).step (unhide HWL))
      have ST1 := hide (unhide HS).1
      have TT1 := hide ((unhide TT0).trans (unhide HS).2)
      have BX1 := hide ((unhide BX).turn (unhide HS).2 (by have := HPB; simp; omega))
      obtain ⟨⟨y0, y1, y2⟩, -⟩ := (unhide BX1).triR
      clear HS
      have PF := hide (unhide ST0).fail
      go_wp2_with fail
      go_ret
      exact ⟨_, _, _, _, rfl, hide (NdRow.nil _ _), hide (unhide PF).1, hide ((unhide TT0).trans (unhide PF).2), FIN⟩
end Go.Proofs.YtkfhokeoooafnaaGreatDoor

set_option linter.unusedVariables false
namespace Go.Proofs.YtkfhokeoooafnaaGreatDoor
open Go.RowKit Go.Maps Go.Deep

theorem said_all (ws : List WordV) (hw : ∀ x ∈ ws, WordIs x) : ∀ f, SaidE ws f ∧ SaidL ws f ∧ SaidH ws f ∧ SaidA ws f := by
  intro f
  induction f using Nat.strongRecOn with
  | ind f ih =>
    cases f with
    | zero => exact ⟨fun _ _ _ _ _ _ _ h => by omega, fun _ _ _ _ _ _ _ _ _ _ h => by omega, fun _ _ _ _ _ _ _ h => by omega, fun _ _ _ _ _ _ _ h => by omega⟩
    | succ f =>
      have h := ih f (by omega)
      exact ⟨expr_one ws f h.1 h.2.1, level_one ws f (fun f' hf => (ih f' (by omega)).2.1) h.2.2.1, ahead_one ws f h.2.2.1 h.2.2.2, atom_one ws hw f h.1⟩
end Go.Proofs.YtkfhokeoooafnaaGreatDoor
