/-
  The specification's reader: a name, a new row, the kind of a sign, a number. (Made by wip/mkreads2.py.)
-/
import Derived.Test.YtkfhokeoooafnaaGreatDoorMerged32
import Derived.Deep.DeepCutAuto
import Derived.Deep.CutBlock
set_option linter.unusedVariables false
namespace Go.Proofs.YtkfhokeoooafnaaGreatDoor
open Go.RowKit Go.Maps Go.Deep

theorem str_litR (s : ByteArray) (l : List UInt8) : (s.toList == l) = decide (s = ⟨l.toArray⟩) := by
  have := str_sameR s ⟨l.toArray⟩
  rw [ByteArray.toList_eq ⟨l.toArray⟩] at this
  simpa using this
def nameO (ws : List WordV) (n : Nat) (b : Bool) : Option ByteArray := if b then none else match ws[n]? with
  | some x => if x.a0 = 2 then some x.a1 else none
  | none => none
theorem PrS.cellW {ws : List WordV} {w : World} {pb : Nat} {a : Option Addr} {c n m : Nat} {b : Bool} (h : PrS ws w pb a c m b) (hn : n < ws.length) : ∃ g o, a = some ⟨g, o, none⟩ ∧ g < w.heap.size ∧ w.cell? ⟨g, o + n * 3, none⟩ = some (.int .i64 ws[n].a0) ∧ w.cell? ⟨g, o + n * 3 + 1, none⟩ = some (.string ws[n].a1) ∧ w.cell? ⟨g, o + n * 3 + 2, none⟩ = some (.int .i64 ws[n].a2) := by
  rcases h.words with h0 | ⟨g, o, e, hg, hc⟩
  · rw [h0] at hn; simp at hn
  · obtain ⟨c0, c1, c2⟩ := hc n hn
    exact ⟨g, o, e, hg, c0, c1, c2⟩
def RetNm (ws : List WordV) (pb : Nat) (a : Option Addr) (c n : Nat) (o : Option ByteArray) (w : World) (e : Ending) (w' : World) : Prop := match o with
  | some s => e = .returned (.string s) ∧ Hid (PrS ws w' pb a c (n + 1) false) ∧ Hid (Turn [pb] w w')
  | none => e = .returned (.string ⟨#[]⟩) ∧ Hid (PrS ws w' pb a c n true) ∧ Hid (Turn [pb] w w')
set_option maxHeartbeats 6400000 in
set_option maxRecDepth 20000 in
theorem name_any (ws : List WordV) (w : World) (pb : Nat) (a : Option Addr) (c n : Nat) (b : Bool) (h : PrS ws w pb a c n b) :
    Calls Tryz.prog 53 #[.pointer (some ⟨pb, 0, none⟩)] w fun e w' => RetNm ws pb a c n (nameO ws n b) w e w' := by
  have HP := hide h
  obtain ⟨⟨c0, c1, c2⟩, -⟩ := h.box.triR
  have hlen := h.len
  have hle := h.le
  have hz0 : (0 : Int) ≤ (n : Int) := by omega
  have PD := hide ((unhide HP).up (Below.refl w.heap.size w).drew)
  have TD := hide (show Turn [pb] w w.drew from Turn.of_below (Below.refl w.heap.size w).drew)
  have ENDB := hide (fun (h0 : nameO ws n b = none) => show RetNm ws pb a c n (nameO ws n b) w (.returned (.string ⟨#[]⟩)) (w.setCell ⟨pb, 2, none⟩ (.bool true)).drew from by
    rw [h0]
    exact ⟨rfl, hide ((unhide HP).fail.1.up (Below.refl _ _).drew), hide ((unhide HP).fail.2.trans (Turn.of_below (Below.refl _ _).drew))⟩)
  cases b
  rotate_left
  · have ENDN := hide (unhide ENDB rfl)
    obtain ⟨⟨d0, d1, d2⟩, f0, f1, f2⟩ := (unhide PD).box.triR
    clear h ENDB
    go_enter Tryz.func53, Tryz.ntmps53
    go_wp2_with fail
    go_region
    all_goals
      go_wp2_with fail
      go_ret
      exact unhide ENDN
  by_cases hlt : n < ws.length
  rotate_left
  · have hge : ¬ (n : Int) < (ws.length : Int) := by omega
    have hge2 : (ws.length : Int) ≤ (n : Int) := by omega
    have ENDN := hide (unhide ENDB (by unfold nameO; rw [List.getElem?_eq_none (by omega)]; rfl))
    obtain ⟨⟨d0, d1, d2⟩, f0, f1, f2⟩ := (unhide PD).box.triR
    clear h c0 c1 c2 HP ENDB PD TD
    generalize ws.length = wl at *
    go_enter Tryz.func53, Tryz.ntmps53
    go_wp2_with fail
    go_region
    all_goals
      go_wp2_with fail
      go_ret
      exact unhide ENDN
  have hlt2 : (n : Int) < (ws.length : Int) := by omega
  have hnge : ¬ (ws.length : Int) ≤ (n : Int) := by omega
  obtain ⟨g, o, rfl, hg, k0, k1, k2⟩ := h.cell hlt
  have KP := hide (show ∀ X : World, Below w.heap.size w X → (X.cell? ⟨pb, 0, none⟩ = some (.slice (some ⟨g, o, none⟩) ws.length c) ∧ X.cell? ⟨pb, 1, none⟩ = some (.int .i64 (n : Int)) ∧ X.cell? ⟨pb, 2, none⟩ = some (.bool false) ∧ X.cell? ⟨g, o + n * 3, none⟩ = some (.int .i64 ws[n].a0)) ∧ Hid (Below w.heap.size w X) from fun X bx => by
    have y := ((unhide HP).up bx).box.triR.1
    exact ⟨⟨y.1, y.2.1, y.2.2, (bx.cell (by exact hg)).trans k0⟩, hide bx⟩)
  have BD := hide ((Below.refl w.heap.size w).drew)
  have HS := hide (show PrS ws (w.setCell ⟨pb, 1, none⟩ (.int .i64 ((n : Int) + 1))).drew pb (some ⟨g, o, none⟩) c (n + 1) false ∧ Turn [pb] w (w.setCell ⟨pb, 1, none⟩ (.int .i64 ((n : Int) + 1))).drew from ⟨((unhide HP).step hlt).1.up (Below.refl _ _).drew, ((unhide HP).step hlt).2.trans (Turn.of_below (Below.refl _ _).drew)⟩)
  have hgp : g ≠ pb := h.apart g o rfl
  have HN := hide (show nameO ws n false = if ws[n].a0 = 2 then some ws[n].a1 else none from by unfold nameO; rw [List.getElem?_eq_getElem hlt]; rfl)
  have hw1 : IntKind.i64.wrap ((n : Int) + 1) = (n : Int) + 1 := by rw [IntKind.wrap_i64]; omega
  have hw2 : IntKind.i64.wrap ((n : Int) + 1 - 1) = (n : Int) := by rw [IntKind.wrap_i64]; omega
  have TAIL := hide (show (w.setCell ⟨pb, 1, none⟩ (.int .i64 ((n : Int) + 1))).drew.cell? ⟨g, o + n * 3 + 1, none⟩ = some (.string ws[n].a1) from by
    obtain ⟨g', o', e, hg', q0, q1, q2⟩ := (unhide HS).1.cellW hlt
    cases e
    exact q1)
  have hng3 : ¬ ws.length ≤ n := by omega
  have hlt3 : n < ws.length := by omega
  obtain ⟨⟨d0, d1, d2⟩, f0, f1, f2⟩ := (unhide PD).box.triR
  obtain ⟨⟨s0, s1, s2⟩, -⟩ := (unhide HS).1.box.triR
  clear h HP k0 k1 k2 c0 c1 c2
  by_cases h3 : ws[n].a0 = 2
  · rw [if_pos h3] at HN
    have ENDY := hide (show RetNm ws pb (some ⟨g, o, none⟩) c n (nameO ws n false) w (.returned (.string ws[n].a1)) (w.setCell ⟨pb, 1, none⟩ (.int .i64 ((n : Int) + 1))).drew.drew from by
      rw [unhide HN]
      exact ⟨rfl, hide ((unhide HS).1.up (Below.refl _ _).drew), hide ((unhide HS).2.trans (Turn.of_below (Below.refl _ _).drew))⟩)
    have t1 := unhide TAIL
    have h3' : (ws[n].a0 == 2) = true := by rw [beq_iff_eq]; exact h3
    clear HN ENDB PD TD HS h3
    generalize ws[n].a0 = kd at *
    generalize ws[n].a1 = tx at *
    clear hlt
    generalize ws.length = wl at *
    go_enter Tryz.func53, Tryz.ntmps53
    go_wp2_with fail
    go_region_held3 (fun X : World => (X.cell? ⟨pb, 0, none⟩ = some (.slice (some ⟨g, o, none⟩) wl c) ∧ X.cell? ⟨pb, 1, none⟩ = some (.int .i64 (n : Int)) ∧ X.cell? ⟨pb, 2, none⟩ = some (.bool false) ∧ X.cell? ⟨g, o + n * 3, none⟩ = some (.int .i64 kd)) ∧ Hid (Below w.heap.size w X)) ((refine unhide KP _ ?_; exact unhide (by assumption))) (fail)
    all_goals
      go_wp2_with fail
      go_region
      all_goals
        go_wp2_with fail
        go_ret
        exact unhide ENDY
  · rw [if_neg h3] at HN
    have ENDN := hide (unhide ENDB (unhide HN))
    have h3' : (ws[n].a0 == 2) = false := by rw [beq_eq_false_iff_ne]; exact h3
    clear HN ENDB PD TD HS h3 TAIL
    generalize ws[n].a0 = kd at *
    clear hlt
    generalize ws.length = wl at *
    go_enter Tryz.func53, Tryz.ntmps53
    go_wp2_with fail
    go_region_held3 (fun X : World => (X.cell? ⟨pb, 0, none⟩ = some (.slice (some ⟨g, o, none⟩) wl c) ∧ X.cell? ⟨pb, 1, none⟩ = some (.int .i64 (n : Int)) ∧ X.cell? ⟨pb, 2, none⟩ = some (.bool false) ∧ X.cell? ⟨g, o + n * 3, none⟩ = some (.int .i64 kd)) ∧ Hid (Below w.heap.size w X)) ((refine unhide KP _ ?_; exact unhide (by assumption))) (fail)
    all_goals
      go_wp2_with fail
      go_ret
      exact unhide ENDN
set_option maxHeartbeats 1600000 in
theorem l2Compare_any (s : ByteArray) (w : World) : Calls Tryz.prog 106 #[.string s] w fun e w' => e = .returned (.int .i64 (kindL 3 s)) ∧ w' = w := by
  by_cases h0 : s = sEq
  · have hs := h0
    have HV := hide (show kindL 3 s = 10 from by rw [hs]; decide)
    have q0 : (s.toList == [61]) = true := by rw [str_litR, hs]; decide
    have q1 : (s.toList == [33, 61]) = false := by rw [str_litR, hs]; decide
    have q2 : (s.toList == [60]) = false := by rw [str_litR, hs]; decide
    have q3 : (s.toList == [60, 61]) = false := by rw [str_litR, hs]; decide
    have q4 : (s.toList == [62]) = false := by rw [str_litR, hs]; decide
    have q5 : (s.toList == [62, 61]) = false := by rw [str_litR, hs]; decide
    clear hs
    clear h0
    go_enter Tryz.func106, Tryz.ntmps106
    go_wp2_with fail
    go_ret
    exact ⟨by rw [unhide HV]; rfl, rfl⟩
  by_cases h1 : s = sNe
  · have hs := h1
    have HV := hide (show kindL 3 s = 11 from by rw [hs]; decide)
    have q0 : (s.toList == [61]) = false := by rw [str_litR, hs]; decide
    have q1 : (s.toList == [33, 61]) = true := by rw [str_litR, hs]; decide
    have q2 : (s.toList == [60]) = false := by rw [str_litR, hs]; decide
    have q3 : (s.toList == [60, 61]) = false := by rw [str_litR, hs]; decide
    have q4 : (s.toList == [62]) = false := by rw [str_litR, hs]; decide
    have q5 : (s.toList == [62, 61]) = false := by rw [str_litR, hs]; decide
    clear hs
    clear h1
    go_enter Tryz.func106, Tryz.ntmps106
    go_wp2_with fail
    go_ret
    exact ⟨by rw [unhide HV]; rfl, rfl⟩
  by_cases h2 : s = sLt
  · have hs := h2
    have HV := hide (show kindL 3 s = 12 from by rw [hs]; decide)
    have q0 : (s.toList == [61]) = false := by rw [str_litR, hs]; decide
    have q1 : (s.toList == [33, 61]) = false := by rw [str_litR, hs]; decide
    have q2 : (s.toList == [60]) = true := by rw [str_litR, hs]; decide
    have q3 : (s.toList == [60, 61]) = false := by rw [str_litR, hs]; decide
    have q4 : (s.toList == [62]) = false := by rw [str_litR, hs]; decide
    have q5 : (s.toList == [62, 61]) = false := by rw [str_litR, hs]; decide
    clear hs
    clear h2
    go_enter Tryz.func106, Tryz.ntmps106
    go_wp2_with fail
    go_ret
    exact ⟨by rw [unhide HV]; rfl, rfl⟩
  by_cases h3 : s = sLe
  · have hs := h3
    have HV := hide (show kindL 3 s = 13 from by rw [hs]; decide)
    have q0 : (s.toList == [61]) = false := by rw [str_litR, hs]; decide
    have q1 : (s.toList == [33, 61]) = false := by rw [str_litR, hs]; decide
    have q2 : (s.toList == [60]) = false := by rw [str_litR, hs]; decide
    have q3 : (s.toList == [60, 61]) = true := by rw [str_litR, hs]; decide
    have q4 : (s.toList == [62]) = false := by rw [str_litR, hs]; decide
    have q5 : (s.toList == [62, 61]) = false := by rw [str_litR, hs]; decide
    clear hs
    clear h3
    go_enter Tryz.func106, Tryz.ntmps106
    go_wp2_with fail
    go_ret
    exact ⟨by rw [unhide HV]; rfl, rfl⟩
  by_cases h4 : s = sGt
  · have hs := h4
    have HV := hide (show kindL 3 s = 14 from by rw [hs]; decide)
    have q0 : (s.toList == [61]) = false := by rw [str_litR, hs]; decide
    have q1 : (s.toList == [33, 61]) = false := by rw [str_litR, hs]; decide
    have q2 : (s.toList == [60]) = false := by rw [str_litR, hs]; decide
    have q3 : (s.toList == [60, 61]) = false := by rw [str_litR, hs]; decide
    have q4 : (s.toList == [62]) = true := by rw [str_litR, hs]; decide
    have q5 : (s.toList == [62, 61]) = false := by rw [str_litR, hs]; decide
    clear hs
    clear h4
    go_enter Tryz.func106, Tryz.ntmps106
    go_wp2_with fail
    go_ret
    exact ⟨by rw [unhide HV]; rfl, rfl⟩
  by_cases h5 : s = sGe
  · have hs := h5
    have HV := hide (show kindL 3 s = 15 from by rw [hs]; decide)
    have q0 : (s.toList == [61]) = false := by rw [str_litR, hs]; decide
    have q1 : (s.toList == [33, 61]) = false := by rw [str_litR, hs]; decide
    have q2 : (s.toList == [60]) = false := by rw [str_litR, hs]; decide
    have q3 : (s.toList == [60, 61]) = false := by rw [str_litR, hs]; decide
    have q4 : (s.toList == [62]) = false := by rw [str_litR, hs]; decide
    have q5 : (s.toList == [62, 61]) = true := by rw [str_litR, hs]; decide
    clear hs
    clear h5
    go_enter Tryz.func106, Tryz.ntmps106
    go_wp2_with fail
    go_ret
    exact ⟨by rw [unhide HV]; rfl, rfl⟩
  have HV := hide (show kindL 3 s = 0 from by unfold kindL; simp [h0, h1, h2, h3, h4, h5])
  have q0 : (s.toList == [61]) = false := by rw [str_litR]; exact decide_eq_false h0
  have q1 : (s.toList == [33, 61]) = false := by rw [str_litR]; exact decide_eq_false h1
  have q2 : (s.toList == [60]) = false := by rw [str_litR]; exact decide_eq_false h2
  have q3 : (s.toList == [60, 61]) = false := by rw [str_litR]; exact decide_eq_false h3
  have q4 : (s.toList == [62]) = false := by rw [str_litR]; exact decide_eq_false h4
  have q5 : (s.toList == [62, 61]) = false := by rw [str_litR]; exact decide_eq_false h5
  clear h0 h1 h2 h3 h4 h5
  go_enter Tryz.func106, Tryz.ntmps106
  go_wp2_with fail
  go_ret
  exact ⟨by rw [unhide HV]; rfl, rfl⟩
set_option maxHeartbeats 1600000 in
theorem l2Kind_1 (s : ByteArray) (w : World) : Calls Tryz.prog 83 #[.int .i64 1, .string s] w fun e w' => e = .returned (.int .i64 (kindL 1 s)) ∧ w' = w := by
  by_cases h0 : s = kOr
  · have hs := h0
    have HV := hide (show kindL 1 s = 17 from by rw [hs]; decide)
    have q0 : (s.toList == [111, 114]) = true := by rw [str_litR, hs]; decide
    clear hs
    clear h0
    go_enter Tryz.func83, Tryz.ntmps83
    go_wp2_with fail
    go_ret
    exact ⟨by rw [unhide HV]; rfl, rfl⟩
  have HV := hide (show kindL 1 s = 0 from by unfold kindL; simp [h0])
  have q0 : (s.toList == [111, 114]) = false := by rw [str_litR]; exact decide_eq_false h0
  clear h0
  go_enter Tryz.func83, Tryz.ntmps83
  go_wp2_with fail
  go_ret
  exact ⟨by rw [unhide HV]; rfl, rfl⟩
set_option maxHeartbeats 1600000 in
theorem l2Kind_2 (s : ByteArray) (w : World) : Calls Tryz.prog 83 #[.int .i64 2, .string s] w fun e w' => e = .returned (.int .i64 (kindL 2 s)) ∧ w' = w := by
  by_cases h0 : s = kAnd
  · have hs := h0
    have HV := hide (show kindL 2 s = 16 from by rw [hs]; decide)
    have q0 : (s.toList == [97, 110, 100]) = true := by rw [str_litR, hs]; decide
    clear hs
    clear h0
    go_enter Tryz.func83, Tryz.ntmps83
    go_wp2_with fail
    go_ret
    exact ⟨by rw [unhide HV]; rfl, rfl⟩
  have HV := hide (show kindL 2 s = 0 from by unfold kindL; simp [h0])
  have q0 : (s.toList == [97, 110, 100]) = false := by rw [str_litR]; exact decide_eq_false h0
  clear h0
  go_enter Tryz.func83, Tryz.ntmps83
  go_wp2_with fail
  go_ret
  exact ⟨by rw [unhide HV]; rfl, rfl⟩
set_option maxHeartbeats 1600000 in
theorem l2Kind_4 (s : ByteArray) (w : World) : Calls Tryz.prog 83 #[.int .i64 4, .string s] w fun e w' => e = .returned (.int .i64 (kindL 4 s)) ∧ w' = w := by
  by_cases h0 : s = sAdd
  · have hs := h0
    have HV := hide (show kindL 4 s = 8 from by rw [hs]; decide)
    have q0 : (s.toList == [43]) = true := by rw [str_litR, hs]; decide
    have q1 : (s.toList == [45]) = false := by rw [str_litR, hs]; decide
    clear hs
    clear h0
    go_enter Tryz.func83, Tryz.ntmps83
    go_wp2_with fail
    go_ret
    exact ⟨by rw [unhide HV]; rfl, rfl⟩
  by_cases h1 : s = sSub
  · have hs := h1
    have HV := hide (show kindL 4 s = 9 from by rw [hs]; decide)
    have q0 : (s.toList == [43]) = false := by rw [str_litR, hs]; decide
    have q1 : (s.toList == [45]) = true := by rw [str_litR, hs]; decide
    clear hs
    clear h1
    go_enter Tryz.func83, Tryz.ntmps83
    go_wp2_with fail
    go_ret
    exact ⟨by rw [unhide HV]; rfl, rfl⟩
  have HV := hide (show kindL 4 s = 0 from by unfold kindL; simp [h0, h1])
  have q0 : (s.toList == [43]) = false := by rw [str_litR]; exact decide_eq_false h0
  have q1 : (s.toList == [45]) = false := by rw [str_litR]; exact decide_eq_false h1
  clear h0 h1
  go_enter Tryz.func83, Tryz.ntmps83
  go_wp2_with fail
  go_ret
  exact ⟨by rw [unhide HV]; rfl, rfl⟩
set_option maxHeartbeats 1600000 in
theorem l2Kind_5 (s : ByteArray) (w : World) : Calls Tryz.prog 83 #[.int .i64 5, .string s] w fun e w' => e = .returned (.int .i64 (kindL 5 s)) ∧ w' = w := by
  by_cases h0 : s = sMul
  · have hs := h0
    have HV := hide (show kindL 5 s = 5 from by rw [hs]; decide)
    have q0 : (s.toList == [42]) = true := by rw [str_litR, hs]; decide
    have q1 : (s.toList == [47]) = false := by rw [str_litR, hs]; decide
    have q2 : (s.toList == [37]) = false := by rw [str_litR, hs]; decide
    clear hs
    clear h0
    go_enter Tryz.func83, Tryz.ntmps83
    go_wp2_with fail
    go_ret
    exact ⟨by rw [unhide HV]; rfl, rfl⟩
  by_cases h1 : s = sDiv
  · have hs := h1
    have HV := hide (show kindL 5 s = 6 from by rw [hs]; decide)
    have q0 : (s.toList == [42]) = false := by rw [str_litR, hs]; decide
    have q1 : (s.toList == [47]) = true := by rw [str_litR, hs]; decide
    have q2 : (s.toList == [37]) = false := by rw [str_litR, hs]; decide
    clear hs
    clear h1
    go_enter Tryz.func83, Tryz.ntmps83
    go_wp2_with fail
    go_ret
    exact ⟨by rw [unhide HV]; rfl, rfl⟩
  by_cases h2 : s = sMod
  · have hs := h2
    have HV := hide (show kindL 5 s = 7 from by rw [hs]; decide)
    have q0 : (s.toList == [42]) = false := by rw [str_litR, hs]; decide
    have q1 : (s.toList == [47]) = false := by rw [str_litR, hs]; decide
    have q2 : (s.toList == [37]) = true := by rw [str_litR, hs]; decide
    clear hs
    clear h2
    go_enter Tryz.func83, Tryz.ntmps83
    go_wp2_with fail
    go_ret
    exact ⟨by rw [unhide HV]; rfl, rfl⟩
  have HV := hide (show kindL 5 s = 0 from by unfold kindL; simp [h0, h1, h2])
  have q0 : (s.toList == [42]) = false := by rw [str_litR]; exact decide_eq_false h0
  have q1 : (s.toList == [47]) = false := by rw [str_litR]; exact decide_eq_false h1
  have q2 : (s.toList == [37]) = false := by rw [str_litR]; exact decide_eq_false h2
  clear h0 h1 h2
  go_enter Tryz.func83, Tryz.ntmps83
  go_wp2_with fail
  go_ret
  exact ⟨by rw [unhide HV]; rfl, rfl⟩
set_option maxHeartbeats 1600000 in
theorem l2Kind_3 (s : ByteArray) (w : World) : Calls Tryz.prog 83 #[.int .i64 3, .string s] w fun e w' => e = .returned (.int .i64 (kindL 3 s)) ∧ w' = w := by
  go_enter Tryz.func83, Tryz.ntmps83
  go_wp2_with (first
    | (go_at_call 106; refine (l2Compare_any s _).mono ?_; rintro e w1 ⟨rfl, rfl⟩)
    | fail)
  go_ret
  exact ⟨rfl, rfl⟩
theorem l2Kind_any (lv : Nat) (h : 1 ≤ lv ∧ lv ≤ 5) (s : ByteArray) (w : World) : Calls Tryz.prog 83 #[.int .i64 (lv : Int), .string s] w fun e w' => e = .returned (.int .i64 (kindL lv s)) ∧ w' = w := by
  rcases (show lv = 1 ∨ lv = 2 ∨ lv = 3 ∨ lv = 4 ∨ lv = 5 by omega) with rfl | rfl | rfl | rfl | rfl
  · exact l2Kind_1 s w
  · exact l2Kind_2 s w
  · exact l2Kind_3 s w
  · exact l2Kind_4 s w
  · exact l2Kind_5 s w
theorem ndLit (w : World) (B : Nat) (hB : B ≤ w.heap.size) : NdRow B (w.alloc (.cells #[] 51)) (.slice (some ⟨w.heap.size, 0, none⟩) 0 0) [] :=
  World.ownsRow_lit (size := 4) w #[] 0 hB (by unfold maxLen; omega) rfl
def nodeAgg (x : NodeV) : Value := .agg #[.int .i64 x.kind, .int .i64 x.num, .string x.name, .int .i64 x.kids]
theorem boxF_newN (w : World) (a b c d : Value) (T : TypeId) : BoxF (w.alloc (.cells #[a, b, c, d] T)) w.heap.size [a, b, c, d] := boxF_new w [a, b, c, d] T
theorem BoxF.fourN {w : World} {g : Nat} {a b c d : Value} (h : BoxF w g [a, b, c, d]) : (w.cell? ⟨g, 0, none⟩ = some a ∧ w.cell? ⟨g, 1, none⟩ = some b ∧ w.cell? ⟨g, 2, none⟩ = some c ∧ w.cell? ⟨g, 3, none⟩ = some d) := ⟨h.1.at 0 _ rfl, h.1.at 1 _ rfl, h.1.at 2 _ rfl, h.1.at 3 _ rfl⟩
/-- a slice of nodes that is read -/
def NdIn (w : World) (v : Value) (ns : List NodeV) : Prop := ∃ a c, v = .slice a ns.length c ∧ NodesIn w a ns
theorem NodesIn.up {w w' : World} {a : Option Addr} {ns : List NodeV} (h : NodesIn w a ns) (b : Below w.heap.size w w') : NodesIn w' a ns := by
  rcases h with h | ⟨g, o, e, hg, hc⟩
  · exact .inl h
  · refine .inr ⟨g, o, e, Nat.lt_of_lt_of_le hg b.size, fun i hi => ?_⟩
    obtain ⟨h0, h1, h2, h3⟩ := hc i hi
    exact ⟨(b.cell (by exact hg)).trans h0, (b.cell (by exact hg)).trans h1, (b.cell (by exact hg)).trans h2, (b.cell (by exact hg)).trans h3⟩
theorem NdRow.in {B : Nat} {w : World} {v : Value} {ns : List NodeV} (h : NdRow B w v ns) : NdIn w v ns := h.rd
theorem NdIn.nil (w : World) : NdIn w (.slice none 0 0) [] := ⟨none, 0, rfl, .inl rfl⟩
theorem nd_len {B : Nat} {w : World} {a : Option Addr} {n c : Nat} {ns : List NodeV} (h : NdRow B w (.slice a n c) ns) : n = ns.length := by
  obtain ⟨_, _, e⟩ := h.slice
  injection e
theorem below_gr {B : Nat} {w w' : World} {b : Option Nat} (hb : w.grownBy w' b) (hB : B ≤ w.heap.size) (hx : ∀ y, b = some y → B ≤ y) : Below B w w' := (Below.refl B w).grown hb hB hx
set_option maxHeartbeats 3200000 in
set_option maxRecDepth 20000 in
theorem l2Put_any (w : World) (x : NodeV) (va vb vc : Value) (la lb lc : List NodeV) (ha : NdIn w va la) (hb : NdIn w vb lb) (hc : NdIn w vc lc) (hl : la.length + lb.length + lc.length ≤ 900000) :
    Calls Tryz.prog 52 #[nodeAgg x, va, vb, vc] w fun e w' => ∃ v, e = .returned v ∧ Hid (NdRow w.heap.size w' v (x :: (la ++ (lb ++ lc)))) ∧ Hid (Below w.heap.size w w') := by
  obtain ⟨aa, ca, rfl, ha⟩ := ha
  obtain ⟨ab, cb, rfl, hb⟩ := hb
  obtain ⟨ac, cc, rfl, hc⟩ := hc
  unfold nodeAgg
  have B1 := hide ((Below.refl w.heap.size w).alloc (Nat.le_refl _) (.cells #[.int .i64 x.kind, .int .i64 x.num, .string x.name, .int .i64 x.kids] 51))
  have HW1 : (w.alloc (.cells #[.int .i64 x.kind, .int .i64 x.num, .string x.name, .int .i64 x.kids] 51)).heap.size = w.heap.size + 1 := by simp
  have R0 := hide (ndLit (w.alloc (.cells #[.int .i64 x.kind, .int .i64 x.num, .string x.name, .int .i64 x.kids] 51)) w.heap.size (by omega))
  rw [HW1] at R0
  have B2 := hide ((unhide B1).alloc (by omega) (.cells #[] 51))
  have HW2 : ((w.alloc (.cells #[.int .i64 x.kind, .int .i64 x.num, .string x.name, .int .i64 x.kids] 51)).alloc (.cells #[] 51)).heap.size = w.heap.size + 1 + 1 := by simp
  have X0 := hide (boxF_newN ((w.alloc (.cells #[.int .i64 x.kind, .int .i64 x.num, .string x.name, .int .i64 x.kids] 51)).alloc (.cells #[] 51)) (.int .i64 x.kind) (.int .i64 x.num) (.string x.name) (.int .i64 x.kids) 51)
  rw [HW2] at X0
  have B3 := hide ((unhide B2).alloc (by omega) (.cells #[.int .i64 x.kind, .int .i64 x.num, .string x.name, .int .i64 x.kids] 51))
  have R00 := hide ((unhide R0).up ((Below.refl _ _).alloc (Nat.le_refl _) (.cells #[.int .i64 x.kind, .int .i64 x.num, .string x.name, .int .i64 x.kids] 51)))
  have HA := hide ha
  have HB := hide hb
  have HC := hide hc
  clear ha hb hc R0 B1 B2
  obtain ⟨x0, x1, x2, x3⟩ := (unhide X0).fourN
  have HXR := hide (And.intro x0 (And.intro x1 (And.intro x2 x3)))
  clear X0 x0 x1 x2 x3
  go_enter Tryz.func52, Tryz.ntmps52
  go_wp2_with (first
    | (at_builtin; have _t := R3; refine wpList_ndSpread rfl _ _ rfl w.heap.size _ _ lc ac cc rfl rfl (unhide R3) ((unhide HC).up (unhide G3)) (by simp only [List.length_append, List.length_cons, List.length_nil]; omega) (unhide G3).size ?_; intro a4 c4 w4 r4 g4; have R4 := hide r4; have G4 := hide ((unhide G3).grown g4 (unhide G3).size (fun y hy => (unhide R3).ge y hy)); clear r4 g4 R3 G3)
    | (at_builtin; have _t := R2; refine wpList_ndSpread rfl _ _ rfl w.heap.size _ _ lb ab cb rfl rfl (unhide R2) ((unhide HB).up (unhide G2)) (by simp only [List.length_append, List.length_cons, List.length_nil]; omega) (unhide G2).size ?_; intro a3 c3 w3 r3 g3; have R3 := hide r3; have G3 := hide ((unhide G2).grown g3 (unhide G2).size (fun y hy => (unhide R2).ge y hy)); clear r3 g3 R2 G2)
    | (at_builtin; have _t := R1; refine wpList_ndSpread rfl _ _ rfl w.heap.size _ _ la aa ca rfl rfl (unhide R1) ((unhide HA).up (unhide G1)) (by simp only [List.length_append, List.length_cons, List.length_nil]; omega) (unhide G1).size ?_; intro a2 c2 w2 r2 g2; have R2 := hide r2; have G2 := hide ((unhide G1).grown g2 (unhide G1).size (fun y hy => (unhide R1).ge y hy)); clear r2 g2 R1 G1)
    | (at_builtin; refine wpList_ndAppend rfl _ _ rfl w.heap.size _ [] x (w.heap.size + 1 + 1) rfl rfl (unhide R00) (unhide HXR).1 (unhide HXR).2.1 (unhide HXR).2.2.1 (unhide HXR).2.2.2 (by simp) (unhide B3).size ?_; intro g1 n1 c1 w1 r1 gr1 _; have en1 := nd_len r1; simp only [List.nil_append, List.length_singleton] at en1; subst en1; have R1 := hide r1; have G1 := hide ((unhide B3).grown gr1 (unhide B3).size (fun y hy => (unhide R00).ge y hy)); clear r1 gr1 R00 B3 HXR)
    | fail)
  go_ret
  exact ⟨_, rfl, hide (by have := unhide R4; simpa using this), hide (unhide G4)⟩
theorem decVal_takeR (s : ByteArray) (k : Nat) (h : k < s.size) : numTextV.decVal (s.data.toList.take (k + 1)) = 10 * numTextV.decVal (s.data.toList.take k) + (s[k].toNat - 48) := by
  rw [List.take_succ_eq_append_getElem (by simpa using h), decVal_snoc]
  simp [ByteArray.getElem_eq_getElem_data]
set_option maxRecDepth 20000 in
set_option maxHeartbeats 3200000 in
theorem l2Number_any (s : ByteArray) (w : World) (hs : s.size ≤ 18) (hd : ∀ b ∈ s.data.toList, 48 ≤ b.toNat ∧ b.toNat ≤ 57) :
    Calls Tryz.prog 116 #[.string s] w fun e w' => e = .returned (.int .i64 (numTextV s)) ∧ w' = w := by
  have HD := hide hd
  clear hd
  go_enter Tryz.func116, Tryz.ntmps116
  go_wp2_with fail
  go_loopw [3, 4] (fun nv iv wr => ∃ (k : Nat), k ≤ s.size ∧ iv = .int .i64 (k : Int) ∧ nv = .int .i64 (numTextV.decVal (s.data.toList.take k) : Int) ∧ wr = w) (fun _ iv _ => s.size - (intOf iv).toNat)
  case atStart => exact ⟨0, Nat.zero_le _, rfl, rfl, rfl⟩
  case round =>
    obtain ⟨k, hk, rfl, rfl, rfl⟩ := hrel
    by_cases hlt : k < s.size
    · have hlt' : (k : Int) < (s.size : Int) := by omega
      have hv := decVal_takeR s k hlt
      have hvb := decVal_lt (s.data.toList.take k) (fun b hb => unhide HD b (List.mem_of_mem_take hb))
      have hpw : 10 ^ (s.data.toList.take k).length ≤ 10 ^ 17 := Nat.pow_le_pow_right (by omega) (by simp; omega)
      have hmem : s[k] ∈ s.data.toList := by rw [show s[k] = s.data.toList[k]'(by simpa using hlt) by simp [ByteArray.getElem_eq_getElem_data]]; exact List.getElem_mem _
      have HVN := hide (show ((numTextV.decVal (s.data.toList.take (k + 1)) : Nat) : Int) = 10 * (numTextV.decVal (s.data.toList.take k) : Int) + ((s[k].toNat - 48 : Nat) : Int) by rw [hv]; push_cast; rfl)
      have hbt := s[k].toNat_lt
      have hdg2 := unhide HD _ hmem
      have hvb2 : numTextV.decVal (s.data.toList.take k) < 100000000000000000 := by omega
      generalize hde : s[k].toNat - 48 = e at *
      have hdt : s[k].toNat = 48 + e := by omega
      have he : e ≤ 9 := by omega
      have hN := unhide HVN
      clear hv hvb hpw hmem hdg2 hbt HVN hde
      generalize numTextV.decVal (s.data.toList.take k) = N at *
      have HN := hide hN
      clear hN
      go_wp2_with fail
      go_roundw
      case rel => exact ⟨k + 1, by omega, by go_num, by rw [unhide HN]; congr 1; omega, by first | trivial | rfl⟩
      case measure => simp [intOf]; omega
    · have e : k = s.size := by omega
      subst e
      have htk : s.data.toList.take s.size = s.data.toList := List.take_of_length_le (by simp)
      have HR := hide (show ((numTextV.decVal (s.data.toList.take s.size) : Nat) : Int) = numTextV s from by rw [htk]; rfl)
      have hlt' : ¬ ((s.size : Int) < (s.size : Int)) := by omega
      generalize ((numTextV.decVal (s.data.toList.take s.size) : Nat) : Int) = N at *
      clear htk
      go_wp2_with fail
      go_ret
      exact ⟨by rw [unhide HR]; rfl, rfl⟩
end Go.Proofs.YtkfhokeoooafnaaGreatDoor
