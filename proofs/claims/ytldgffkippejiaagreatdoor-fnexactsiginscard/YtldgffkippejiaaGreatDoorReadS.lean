/-
  The specification's reader: its box, and its small functions.
-/
import Derived.Test.YtldgffkippejiaaGreatDoorMerged9
import Derived.Test.YtldgffkippejiaaGreatDoorMerged7
import Derived.Test.YtldgffkippejiaaGreatDoorMerged10
import Derived.Deep.RegionHeld3
set_option linter.unusedVariables false
namespace Go.Proofs.YtldgffkippejiaaGreatDoor
open Go.RowKit Go.Maps Go.Deep

theorem BoxF.triR {w : World} {g : Nat} {a b c : Value} (h : BoxF w g [a, b, c]) : (w.cell? ⟨g, 0, none⟩ = some a ∧ w.cell? ⟨g, 1, none⟩ = some b ∧ w.cell? ⟨g, 2, none⟩ = some c) ∧ (w.frozen? ⟨g, 0, none⟩ = false ∧ w.frozen? ⟨g, 1, none⟩ = false ∧ w.frozen? ⟨g, 2, none⟩ = false) :=
  ⟨⟨h.1.at 0 _ rfl, h.1.at 1 _ rfl, h.1.at 2 _ rfl⟩, h.2 0 (by simp), h.2 1 (by simp), h.2 2 (by simp)⟩
/-- the reader's box: the words, the place, and whether it has failed -/
structure PrS (ws : List WordV) (w : World) (pb : Nat) (a : Option Addr) (c n : Nat) (b : Bool) : Prop where
  box : BoxF w pb [.slice a ws.length c, .int .i64 (n : Int), .bool b]
  words : WordIn w a ws
  le : n ≤ ws.length
  len : ws.length ≤ 400000
  apart : ∀ g o, a = some ⟨g, o, none⟩ → g ≠ pb
theorem PrS.turn {ws : List WordV} {w w' : World} {pb : Nat} {a : Option Addr} {c n : Nat} {b : Bool} {S : List Nat} (h : PrS ws w pb a c n b) (t : Turn S w w') (h1 : pb ∉ S) (h2 : ∀ g o, a = some ⟨g, o, none⟩ → g ∉ S) : PrS ws w' pb a c n b := by
  refine ⟨h.box.turn t h1, ?_, h.le, h.len, h.apart⟩
  rcases h.words with h0 | ⟨g, o, e, hg, hc⟩
  · exact .inl h0
  · exact .inr ⟨g, o, e, Nat.lt_of_lt_of_le hg t.size, hc.turn t hg (h2 g o e)⟩
theorem PrS.up {ws : List WordV} {w w' : World} {pb : Nat} {a : Option Addr} {c n : Nat} {b : Bool} (h : PrS ws w pb a c n b) (t : Below w.heap.size w w') : PrS ws w' pb a c n b := h.turn (Turn.of_below (S := []) t) (by simp) (by simp)
/-- the words in memory, at the reader's place -/
theorem PrS.cell {ws : List WordV} {w : World} {pb : Nat} {a : Option Addr} {c n : Nat} {b : Bool} (h : PrS ws w pb a c n b) (hn : n < ws.length) : ∃ g o, a = some ⟨g, o, none⟩ ∧ g < w.heap.size ∧ w.cell? ⟨g, o + n * 3, none⟩ = some (.int .i64 ws[n].a0) ∧ w.cell? ⟨g, o + n * 3 + 1, none⟩ = some (.string ws[n].a1) ∧ w.cell? ⟨g, o + n * 3 + 2, none⟩ = some (.int .i64 ws[n].a2) := by
  rcases h.words with h0 | ⟨g, o, e, hg, hc⟩
  · rw [h0] at hn; simp at hn
  · obtain ⟨c0, c1, c2⟩ := hc n hn
    exact ⟨g, o, e, hg, c0, c1, c2⟩
def textB (ws : List WordV) (n : Nat) (b : Bool) : ByteArray := if b then ⟨#[]⟩ else txt ws n
set_option maxHeartbeats 6400000 in
set_option maxRecDepth 20000 in
theorem text_any (ws : List WordV) (w : World) (pb : Nat) (a : Option Addr) (c n : Nat) (b : Bool) (h : PrS ws w pb a c n b) :
    Calls Tryz.prog 34 #[.pointer (some ⟨pb, 0, none⟩)] w fun e w' => e = .returned (.string (textB ws n b)) ∧ Below w.heap.size w w' := by
  have HP := hide h
  obtain ⟨⟨c0, c1, c2⟩, -⟩ := h.box.triR
  have hlen := h.len
  have hle := h.le
  have hz0 : (0 : Int) ≤ (n : Int) := by omega
  cases b
  rotate_left
  · have KP := hide (show ∀ X : World, Below w.heap.size w X → X.cell? ⟨pb, 2, none⟩ = some (.bool true) ∧ Hid (Below w.heap.size w X) from fun X bx => ⟨((unhide HP).up bx).box.triR.1.2.2, hide bx⟩)
    clear h
    go_enter Tryz.func34, Tryz.ntmps34
    go_wp2_with fail
    go_region
    all_goals
      go_wp2_with fail
      go_ret
      exact ⟨rfl, (Below.refl _ _).drew⟩
  by_cases hlt : n < ws.length
  rotate_left
  · have hge : ¬ (n : Int) < (ws.length : Int) := by omega
    have hge2 : (ws.length : Int) ≤ (n : Int) := by omega
    have HT := hide (show textB ws n false = ⟨#[]⟩ from by unfold textB txt; rw [List.getElem?_eq_none (by omega)]; rfl)
    have d := ((unhide HP).up (Below.refl w.heap.size w).drew).box.triR.1
    obtain ⟨d0, d1, d2⟩ := d
    clear h c0 c1 c2 HP
    generalize ws.length = wl at *
    go_enter Tryz.func34, Tryz.ntmps34
    go_wp2_with fail
    go_region
    all_goals
      go_wp2_with fail
      go_ret
      exact ⟨by rw [unhide HT]; rfl, (Below.refl _ _).drew⟩
  have hlt2 : (n : Int) < (ws.length : Int) := by omega
  have hnge : ¬ (ws.length : Int) ≤ (n : Int) := by omega
  obtain ⟨g, o, rfl, hg, k0, k1, k2⟩ := h.cell hlt
  have KP := hide (show ∀ X : World, Below w.heap.size w X → (X.cell? ⟨pb, 0, none⟩ = some (.slice (some ⟨g, o, none⟩) ws.length c) ∧ X.cell? ⟨pb, 1, none⟩ = some (.int .i64 (n : Int)) ∧ X.cell? ⟨pb, 2, none⟩ = some (.bool false) ∧ X.cell? ⟨g, o + n * 3, none⟩ = some (.int .i64 ws[n].a0) ∧ X.cell? ⟨g, o + n * 3 + 1, none⟩ = some (.string ws[n].a1)) ∧ Hid (Below w.heap.size w X) from fun X bx => by
    have y := ((unhide HP).up bx).box.triR.1
    exact ⟨⟨y.1, y.2.1, y.2.2, (bx.cell (by exact hg)).trans k0, (bx.cell (by exact hg)).trans k1⟩, hide bx⟩)
  have BD := hide ((Below.refl w.heap.size w).drew)
  have BD2 := hide ((Below.refl w.heap.size w).drew.drew)
  have HT := hide (show textB ws n false = if 3 ≤ ws[n].a0 then ws[n].a1 else ⟨#[]⟩ from by unfold textB txt; rw [List.getElem?_eq_getElem hlt]; rfl)
  have hd := unhide KP _ (unhide BD)
  obtain ⟨⟨d0, d1, d2, d3, d4⟩, -⟩ := hd
  clear h HP k0 k1 k2
  generalize ws[n].a0 = kd at *
  generalize ws[n].a1 = tx at *
  have hng3 : ¬ ws.length ≤ n := by omega
  have hlt3 : n < ws.length := by omega
  clear hlt
  generalize ws.length = wl at *
  clear d0 d1 d2 d3 d4
  by_cases h3 : 3 ≤ kd
  · have h3' : ¬ kd < 3 := by omega
    rw [if_pos h3] at HT
    go_enter Tryz.func34, Tryz.ntmps34
    go_wp2_with fail
    go_region_held3 (fun X : World => (X.cell? ⟨pb, 0, none⟩ = some (.slice (some ⟨g, o, none⟩) wl c) ∧ X.cell? ⟨pb, 1, none⟩ = some (.int .i64 (n : Int)) ∧ X.cell? ⟨pb, 2, none⟩ = some (.bool false) ∧ X.cell? ⟨g, o + n * 3, none⟩ = some (.int .i64 kd) ∧ X.cell? ⟨g, o + n * 3 + 1, none⟩ = some (.string tx)) ∧ Hid (Below w.heap.size w X)) ((refine unhide KP _ ?_; exact unhide (by assumption))) (fail)
    all_goals
      go_wp2_with fail
      go_region_held3 (fun X : World => (X.cell? ⟨pb, 0, none⟩ = some (.slice (some ⟨g, o, none⟩) wl c) ∧ X.cell? ⟨pb, 1, none⟩ = some (.int .i64 (n : Int)) ∧ X.cell? ⟨pb, 2, none⟩ = some (.bool false) ∧ X.cell? ⟨g, o + n * 3, none⟩ = some (.int .i64 kd) ∧ X.cell? ⟨g, o + n * 3 + 1, none⟩ = some (.string tx)) ∧ Hid (Below w.heap.size w X)) ((refine unhide KP _ ?_; exact unhide (by assumption))) (fail)
      all_goals
        go_wp2_with fail
        go_ret
        exact ⟨by rw [unhide HT]; rfl, unhide BD2⟩
  · have h3' : kd < 3 := by omega
    rw [if_neg h3] at HT
    go_enter Tryz.func34, Tryz.ntmps34
    go_wp2_with fail
    go_region_held3 (fun X : World => (X.cell? ⟨pb, 0, none⟩ = some (.slice (some ⟨g, o, none⟩) wl c) ∧ X.cell? ⟨pb, 1, none⟩ = some (.int .i64 (n : Int)) ∧ X.cell? ⟨pb, 2, none⟩ = some (.bool false) ∧ X.cell? ⟨g, o + n * 3, none⟩ = some (.int .i64 kd) ∧ X.cell? ⟨g, o + n * 3 + 1, none⟩ = some (.string tx)) ∧ Hid (Below w.heap.size w X)) ((refine unhide KP _ ?_; exact unhide (by assumption))) (fail)
    all_goals
      go_wp2_with fail
      go_ret
      exact ⟨by rw [unhide HT]; rfl, unhide BD⟩
/-- the box behind a step: the place, and whether it failed -/
theorem PrS.step {ws : List WordV} {w : World} {pb : Nat} {a : Option Addr} {c n : Nat} (h : PrS ws w pb a c n false) (hn : n < ws.length) : PrS ws (w.setCell ⟨pb, 1, none⟩ (.int .i64 ((n : Int) + 1))) pb a c (n + 1) false ∧ Turn [pb] w (w.setCell ⟨pb, 1, none⟩ (.int .i64 ((n : Int) + 1))) := by
  have t := (Turn.refl [pb] w).setCell (g := pb) (by simp) 1 (.int .i64 ((n : Int) + 1))
  refine ⟨⟨?_, ?_, hn, h.len, h.apart⟩, t⟩
  · have := h.box.set 1 (.int .i64 ((n : Int) + 1)) (by simp)
    simpa [List.set] using this
  · rcases h.words with h0 | ⟨g, o, e, hg, hc⟩
    · exact .inl h0
    · exact .inr ⟨g, o, e, Nat.lt_of_lt_of_le hg t.size, hc.turn t hg (by simpa using h.apart g o e)⟩
theorem PrS.fail {ws : List WordV} {w : World} {pb : Nat} {a : Option Addr} {c n : Nat} {b : Bool} (h : PrS ws w pb a c n b) : PrS ws (w.setCell ⟨pb, 2, none⟩ (.bool true)) pb a c n true ∧ Turn [pb] w (w.setCell ⟨pb, 2, none⟩ (.bool true)) := by
  have t := (Turn.refl [pb] w).setCell (g := pb) (by simp) 2 (.bool true)
  refine ⟨⟨?_, ?_, h.le, h.len, h.apart⟩, t⟩
  · have := h.box.set 2 (.bool true) (by simp)
    simpa [List.set] using this
  · rcases h.words with h0 | ⟨g, o, e, hg, hc⟩
    · exact .inl h0
    · exact .inr ⟨g, o, e, Nat.lt_of_lt_of_le hg t.size, hc.turn t hg (by simpa using h.apart g o e)⟩
theorem str_sameR (a b : ByteArray) : (a.toList == b.toList) = decide (a = b) := str_eq a b
/-- take: the box behind it -/
def takeB (ws : List WordV) (s : ByteArray) (n : Nat) (b : Bool) : Bool := !b && decide (txt ws n = s)
def takeN (ws : List WordV) (s : ByteArray) (n : Nat) (b : Bool) : Nat := if takeB ws s n b then n + 1 else n
set_option maxHeartbeats 3200000 in
theorem take_any (ws : List WordV) (s : ByteArray) (hs : s ≠ ⟨#[]⟩) (w : World) (pb : Nat) (a : Option Addr) (c n : Nat) (b : Bool) (h : PrS ws w pb a c n b) :
    Calls Tryz.prog 35 #[.pointer (some ⟨pb, 0, none⟩), .string s] w fun e w' => e = .returned (.tuple #[]) ∧ Hid (PrS ws w' pb a c (takeN ws s n b) (!takeB ws s n b)) ∧ Hid (Turn [pb] w w') := by
  have HT := hide (text_any ws w pb a c n b h)
  have HP := hide h
  clear h
  by_cases ht : takeB ws s n b = true
  · have hb : b = false ∧ txt ws n = s := by
      unfold takeB at ht
      simp only [Bool.and_eq_true, Bool.not_eq_true', decide_eq_true_eq] at ht
      exact ht
    obtain ⟨rfl, hx⟩ := hb
    have hlt := txt_lt hx hs
    have HN := hide (show n < ws.length from hlt)
    have e1 : textB ws n false = s := hx
    rw [e1] at HT
    have hsm : (s.toList == s.toList) = true := by simp
    have hw1 : IntKind.i64.wrap ((n : Int) + 1) = (n : Int) + 1 := by have := (unhide HP).len; rw [IntKind.wrap_i64]; omega
    rw [show takeN ws s n false = n + 1 from by unfold takeN; rw [ht]; rfl, ht]
    clear ht hx e1
    go_enter Tryz.func35, Tryz.ntmps35
    go_wp2_with fail
    refine (unhide HT).mono ?_
    rintro e w1 ⟨rfl, b1⟩
    have P1 := hide ((unhide HP).up b1)
    have T1 := hide (show Turn [pb] w w1 from Turn.of_below b1)
    obtain ⟨⟨c0, c1, c2⟩, f0, f1, f2⟩ := (unhide P1).box.triR
    have ST := hide ((unhide P1).step (unhide HN))
    clear b1 HT
    go_wp2_with fail
    go_end0
    exact ⟨rfl, hide (unhide ST).1, hide ((unhide T1).trans (unhide ST).2)⟩
  · have hf : takeB ws s n b = false := by simpa using ht
    have hx : ¬ textB ws n b = s := by
      unfold textB
      unfold takeB at hf
      cases b
      · simp only [Bool.not_false, Bool.true_and, decide_eq_false_iff_not] at hf
        exact hf
      · exact fun e => hs e.symm
    rw [show takeN ws s n b = n from by unfold takeN; rw [hf]; rfl, hf]
    have hsm : ((textB ws n b).toList == s.toList) = false := by rw [str_sameR]; exact decide_eq_false hx
    clear ht hf hx
    generalize textB ws n b = tx at *
    go_enter Tryz.func35, Tryz.ntmps35
    go_wp2_with fail
    refine (unhide HT).mono ?_
    rintro e w1 ⟨rfl, b1⟩
    have P1 := hide ((unhide HP).up b1)
    have T1 := hide (show Turn [pb] w w1 from Turn.of_below b1)
    obtain ⟨⟨c0, c1, c2⟩, f0, f1, f2⟩ := (unhide P1).box.triR
    have ST := hide ((unhide P1).fail)
    clear b1 HT
    go_wp2_with fail
    refine bodyPost_ret (results_none rfl _ _ _) rfl ?_
    exact ⟨rfl, hide (unhide ST).1, hide ((unhide T1).trans (unhide ST).2)⟩
end Go.Proofs.YtldgffkippejiaaGreatDoor
