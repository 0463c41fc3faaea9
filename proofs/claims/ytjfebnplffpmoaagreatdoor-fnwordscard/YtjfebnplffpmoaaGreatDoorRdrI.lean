/-
  The program's reader: its box, and its small functions. (Made by wip/mkrdr.py.)
-/
import Derived.Test.YtjfebnplffpmoaaGreatDoorMerged37
import Derived.Test.YtjfebnplffpmoaaGreatDoorMerged17
import Derived.Test.YtjfebnplffpmoaaGreatDoorMerged31
import Derived.Deep.RegionHeld3
set_option linter.unusedVariables false
namespace Go.Proofs.YtjfebnplffpmoaaGreatDoor
open Go.RowKit Go.Maps Go.Deep

/-- the reader's box: the words, the next one's number, the text's size -/
structure PrI (ws : List WordV) (sz : Nat) (w : World) (rb : Nat) (a : Option Addr) (c n : Nat) : Prop where
  box : BoxF w rb [.slice a ws.length c, .int .i64 (n : Int), .int .i64 (sz : Int)]
  words : WordIn w a ws
  le : n ≤ ws.length
  len : ws.length ≤ 400000
  apart : ∀ g o, a = some ⟨g, o, none⟩ → g ≠ rb
def hasT (ws : List WordV) (n : Nat) (s : ByteArray) : Bool := match ws[n]? with
  | some x => x.a1.toList == s.toList
  | none => false
def isT (ws : List WordV) (n : Nat) (k : Int) : Bool := match ws[n]? with
  | some x => x.a0 == k
  | none => false
theorem PrI.turn {ws : List WordV} {sz : Nat} {w w' : World} {rb : Nat} {a : Option Addr} {c n : Nat} {S : List Nat} (h : PrI ws sz w rb a c n) (t : Turn S w w') (h1 : rb ∉ S) (h2 : ∀ g o, a = some ⟨g, o, none⟩ → g ∉ S) : PrI ws sz w' rb a c n := by
  refine ⟨h.box.turn t h1, ?_, h.le, h.len, h.apart⟩
  rcases h.words with h0 | ⟨g, o, e, hg, hc⟩
  · exact .inl h0
  · exact .inr ⟨g, o, e, Nat.lt_of_lt_of_le hg t.size, hc.turn t hg (h2 g o e)⟩
theorem PrI.up {ws : List WordV} {sz : Nat} {w w' : World} {rb : Nat} {a : Option Addr} {c n : Nat} (h : PrI ws sz w rb a c n) (b : Below w.heap.size w w') : PrI ws sz w' rb a c n := h.turn (Turn.of_below (S := []) b) (by simp) (by simp)
theorem PrI.lt {ws : List WordV} {sz : Nat} {w : World} {rb : Nat} {a : Option Addr} {c n : Nat} (h : PrI ws sz w rb a c n) : rb < w.heap.size := h.box.1.1
theorem PrI.cell {ws : List WordV} {sz : Nat} {w : World} {rb : Nat} {a : Option Addr} {c n m : Nat} (h : PrI ws sz w rb a c m) (hn : n < ws.length) : ∃ g o, a = some ⟨g, o, none⟩ ∧ g < w.heap.size ∧ w.cell? ⟨g, o + n * 3, none⟩ = some (.int .i64 ws[n].a0) ∧ w.cell? ⟨g, o + n * 3 + 1, none⟩ = some (.string ws[n].a1) ∧ w.cell? ⟨g, o + n * 3 + 2, none⟩ = some (.int .i64 ws[n].a2) := by
  rcases h.words with h0 | ⟨g, o, e, hg, hc⟩
  · rw [h0] at hn; simp at hn
  · obtain ⟨c0, c1, c2⟩ := hc n hn
    exact ⟨g, o, e, hg, c0, c1, c2⟩
theorem PrI.step {ws : List WordV} {sz : Nat} {w : World} {rb : Nat} {a : Option Addr} {c n : Nat} (h : PrI ws sz w rb a c n) (hn : n < ws.length) : PrI ws sz (w.setCell ⟨rb, 1, none⟩ (.int .i64 ((n : Int) + 1))) rb a c (n + 1) ∧ Turn [rb] w (w.setCell ⟨rb, 1, none⟩ (.int .i64 ((n : Int) + 1))) := by
  have t := (Turn.refl [rb] w).setCell (g := rb) (by simp) 1 (.int .i64 ((n : Int) + 1))
  refine ⟨⟨?_, ?_, hn, h.len, h.apart⟩, t⟩
  · have := h.box.set 1 (.int .i64 ((n : Int) + 1)) (by simp)
    simpa [List.set] using this
  · rcases h.words with h0 | ⟨g, o, e, hg, hc⟩
    · exact .inl h0
    · exact .inr ⟨g, o, e, Nat.lt_of_lt_of_le hg t.size, hc.turn t hg (by simpa using h.apart g o e)⟩
set_option maxHeartbeats 6400000 in
set_option maxRecDepth 20000 in
theorem misplaced_any (ws : List WordV) (sz : Nat) (w : World) (rb : Nat) (a : Option Addr) (c n : Nat) (h : PrI ws sz w rb a c n) :
    Calls Tryz.prog 51 #[.pointer (some ⟨rb, 0, none⟩)] w fun e w' => e = .returned (errV 5 (atW ws sz n)) ∧ Below w.heap.size w w' := by
  have HP := hide h
  obtain ⟨⟨c0, c1, c2⟩, -⟩ := h.box.triR
  have hlen := h.len
  have hle := h.le
  by_cases hlt : n < ws.length
  · obtain ⟨g, o, rfl, hg, k0, k1, k2⟩ := h.cell hlt
    have KP := hide (show ∀ X : World, Below w.heap.size w X → (X.cell? ⟨rb, 0, none⟩ = some (.slice (some ⟨g, o, none⟩) ws.length c) ∧ X.cell? ⟨rb, 1, none⟩ = some (.int .i64 (n : Int)) ∧ X.cell? ⟨rb, 2, none⟩ = some (.int .i64 (sz : Int)) ∧ X.cell? ⟨g, o + n * 3 + 2, none⟩ = some (.int .i64 ws[n].a2)) ∧ Hid (Below w.heap.size w X) from fun X bx => by
      obtain ⟨⟨y0, y1, y2⟩, -⟩ := ((unhide HP).up bx).box.triR
      exact ⟨⟨y0, y1, y2, (bx.cell (by exact hg)).trans k2⟩, hide bx⟩)
    have BD := hide ((Below.refl w.heap.size w).drew)
    have BD2 := hide ((Below.refl w.heap.size w).drew.drew)
    have hng3 : ¬ ws.length ≤ n := by omega
    have hlt3 : n < ws.length := by omega
    have hlt2 : (n : Int) < (ws.length : Int) := by omega
    have hne3 : ¬ n = ws.length := by omega
    have hne4 : ((n : Int) == (ws.length : Int)) = false := by rw [beq_eq_false_iff_ne]; omega
    have hz0 : (0 : Int) ≤ (n : Int) := by omega
    have HT := hide (show atW ws sz n = ws[n].a2 from by unfold atW; rw [List.getElem?_eq_getElem hlt])
    clear h k0 k1 k2 HP
    generalize ws[n].a2 = pl at *
    clear hlt
    generalize ws.length = wl at *
    go_enter Tryz.func51, Tryz.ntmps51
    go_wp2_with fail
    go_region_held3 (fun X : World => (X.cell? ⟨rb, 0, none⟩ = some (.slice (some ⟨g, o, none⟩) wl c) ∧ X.cell? ⟨rb, 1, none⟩ = some (.int .i64 (n : Int)) ∧ X.cell? ⟨rb, 2, none⟩ = some (.int .i64 (sz : Int)) ∧ X.cell? ⟨g, o + n * 3 + 2, none⟩ = some (.int .i64 pl)) ∧ Hid (Below w.heap.size w X)) ((refine unhide KP _ ?_; exact unhide (by assumption))) (fail)
    all_goals
      go_wp2_with fail
      go_region_held3 (fun X : World => (X.cell? ⟨rb, 0, none⟩ = some (.slice (some ⟨g, o, none⟩) wl c) ∧ X.cell? ⟨rb, 1, none⟩ = some (.int .i64 (n : Int)) ∧ X.cell? ⟨rb, 2, none⟩ = some (.int .i64 (sz : Int)) ∧ X.cell? ⟨g, o + n * 3 + 2, none⟩ = some (.int .i64 pl)) ∧ Hid (Below w.heap.size w X)) ((refine unhide KP _ ?_; exact unhide (by assumption))) (first | (go_at_call 19; refine (wrongAt_any 5 _ _).mono ?_; rintro e w2 ⟨rfl, rfl⟩) | fail)
      all_goals
        go_wp2_with fail
        go_ret
        exact ⟨by rw [unhide HT]; rfl, unhide BD2⟩
  · have e : n = ws.length := by omega
    have q1 : ((n : Int) == (ws.length : Int)) = true := by rw [beq_iff_eq]; omega
    have HT := hide (show atW ws sz n = (sz : Int) from by unfold atW; rw [List.getElem?_eq_none (by omega)])
    have d := ((unhide HP).up (Below.refl w.heap.size w).drew).box.triR.1
    obtain ⟨d0, d1, d2⟩ := d
    clear h HP hlt
    generalize ws.length = wl at *
    go_enter Tryz.func51, Tryz.ntmps51
    go_wp2_with fail
    go_region
    all_goals
      go_wp2_with (first | (go_at_call 19; refine (wrongAt_any 5 _ _).mono ?_; rintro e w2 ⟨rfl, rfl⟩) | fail)
      go_ret
      exact ⟨by rw [unhide HT]; rfl, (Below.refl _ _).drew⟩
set_option maxHeartbeats 6400000 in
set_option maxRecDepth 20000 in
theorem hasT_any (ws : List WordV) (sz : Nat) (w : World) (rb : Nat) (a : Option Addr) (c n : Nat) (s : ByteArray) (h : PrI ws sz w rb a c n) :
    Calls Tryz.prog 77 #[.pointer (some ⟨rb, 0, none⟩), .string s] w fun e w' => e = .returned (.bool (hasT ws n s)) ∧ Below w.heap.size w w' := by
  have HP := hide h
  obtain ⟨⟨c0, c1, c2⟩, -⟩ := h.box.triR
  have hlen := h.len
  have hle := h.le
  by_cases hlt : n < ws.length
  · obtain ⟨g, o, rfl, hg, k0, k1, k2⟩ := h.cell hlt
    have KP := hide (show ∀ X : World, Below w.heap.size w X → (X.cell? ⟨rb, 0, none⟩ = some (.slice (some ⟨g, o, none⟩) ws.length c) ∧ X.cell? ⟨rb, 1, none⟩ = some (.int .i64 (n : Int)) ∧ X.cell? ⟨rb, 2, none⟩ = some (.int .i64 (sz : Int)) ∧ X.cell? ⟨g, o + n * 3 + 1, none⟩ = some (.string ws[n].a1)) ∧ Hid (Below w.heap.size w X) from fun X bx => by
      obtain ⟨⟨y0, y1, y2⟩, -⟩ := ((unhide HP).up bx).box.triR
      exact ⟨⟨y0, y1, y2, (bx.cell (by exact hg)).trans k1⟩, hide bx⟩)
    have BD := hide ((Below.refl w.heap.size w).drew)
    have BD2 := hide ((Below.refl w.heap.size w).drew.drew)
    have hng3 : ¬ ws.length ≤ n := by omega
    have hlt3 : n < ws.length := by omega
    have hlt2 : (n : Int) < (ws.length : Int) := by omega
    have hne3 : ¬ n = ws.length := by omega
    have hne4 : ((n : Int) == (ws.length : Int)) = false := by rw [beq_eq_false_iff_ne]; omega
    have hz0 : (0 : Int) ≤ (n : Int) := by omega
    have HT := hide (show (hasT ws n s) = (ws[n].a1.toList == s.toList) from by unfold hasT; rw [List.getElem?_eq_getElem hlt])
    clear h k0 k1 k2 HP
    generalize ws[n].a1 = tx at *
    clear hlt
    generalize ws.length = wl at *
    go_enter Tryz.func77, Tryz.ntmps77
    go_wp2_with fail
    go_region_held3 (fun X : World => (X.cell? ⟨rb, 0, none⟩ = some (.slice (some ⟨g, o, none⟩) wl c) ∧ X.cell? ⟨rb, 1, none⟩ = some (.int .i64 (n : Int)) ∧ X.cell? ⟨rb, 2, none⟩ = some (.int .i64 (sz : Int)) ∧ X.cell? ⟨g, o + n * 3 + 1, none⟩ = some (.string tx)) ∧ Hid (Below w.heap.size w X)) ((refine unhide KP _ ?_; exact unhide (by assumption))) (fail)
    all_goals
      go_wp2_with fail
      go_ret
      exact ⟨by rw [unhide HT]; rfl, unhide BD⟩
  · have q1 : ¬ (n : Int) < (ws.length : Int) := by omega
    have q2 : ¬ n < ws.length := by omega
    have HT := hide (show (hasT ws n s) = false from by unfold hasT; rw [List.getElem?_eq_none (by omega)])
    clear h HP hlt
    generalize ws.length = wl at *
    go_enter Tryz.func77, Tryz.ntmps77
    go_wp2_with fail
    go_region
    all_goals
      go_wp2_with fail
      go_ret
      exact ⟨by rw [unhide HT]; rfl, (Below.refl _ _).drew⟩
set_option maxHeartbeats 6400000 in
set_option maxRecDepth 20000 in
theorem nextIs_any (ws : List WordV) (sz : Nat) (w : World) (rb : Nat) (a : Option Addr) (c n : Nat) (k : Int) (h : PrI ws sz w rb a c n) :
    Calls Tryz.prog 78 #[.pointer (some ⟨rb, 0, none⟩), .int .i64 k] w fun e w' => e = .returned (.bool (isT ws n k)) ∧ Below w.heap.size w w' := by
  have HP := hide h
  obtain ⟨⟨c0, c1, c2⟩, -⟩ := h.box.triR
  have hlen := h.len
  have hle := h.le
  by_cases hlt : n < ws.length
  · obtain ⟨g, o, rfl, hg, k0, k1, k2⟩ := h.cell hlt
    have KP := hide (show ∀ X : World, Below w.heap.size w X → (X.cell? ⟨rb, 0, none⟩ = some (.slice (some ⟨g, o, none⟩) ws.length c) ∧ X.cell? ⟨rb, 1, none⟩ = some (.int .i64 (n : Int)) ∧ X.cell? ⟨rb, 2, none⟩ = some (.int .i64 (sz : Int)) ∧ X.cell? ⟨g, o + n * 3, none⟩ = some (.int .i64 ws[n].a0)) ∧ Hid (Below w.heap.size w X) from fun X bx => by
      obtain ⟨⟨y0, y1, y2⟩, -⟩ := ((unhide HP).up bx).box.triR
      exact ⟨⟨y0, y1, y2, (bx.cell (by exact hg)).trans k0⟩, hide bx⟩)
    have BD := hide ((Below.refl w.heap.size w).drew)
    have BD2 := hide ((Below.refl w.heap.size w).drew.drew)
    have hng3 : ¬ ws.length ≤ n := by omega
    have hlt3 : n < ws.length := by omega
    have hlt2 : (n : Int) < (ws.length : Int) := by omega
    have hne3 : ¬ n = ws.length := by omega
    have hne4 : ((n : Int) == (ws.length : Int)) = false := by rw [beq_eq_false_iff_ne]; omega
    have hz0 : (0 : Int) ≤ (n : Int) := by omega
    have HT := hide (show (isT ws n k) = (ws[n].a0 == k) from by unfold isT; rw [List.getElem?_eq_getElem hlt])
    clear h k0 k1 k2 HP
    generalize ws[n].a0 = kd at *
    clear hlt
    generalize ws.length = wl at *
    go_enter Tryz.func78, Tryz.ntmps78
    go_wp2_with fail
    go_region_held3 (fun X : World => (X.cell? ⟨rb, 0, none⟩ = some (.slice (some ⟨g, o, none⟩) wl c) ∧ X.cell? ⟨rb, 1, none⟩ = some (.int .i64 (n : Int)) ∧ X.cell? ⟨rb, 2, none⟩ = some (.int .i64 (sz : Int)) ∧ X.cell? ⟨g, o + n * 3, none⟩ = some (.int .i64 kd)) ∧ Hid (Below w.heap.size w X)) ((refine unhide KP _ ?_; exact unhide (by assumption))) (fail)
    all_goals
      go_wp2_with fail
      go_ret
      exact ⟨by rw [unhide HT]; rfl, unhide BD⟩
  · have q1 : ¬ (n : Int) < (ws.length : Int) := by omega
    have q2 : ¬ n < ws.length := by omega
    have HT := hide (show (isT ws n k) = false from by unfold isT; rw [List.getElem?_eq_none (by omega)])
    clear h HP hlt
    generalize ws.length = wl at *
    go_enter Tryz.func78, Tryz.ntmps78
    go_wp2_with fail
    go_region
    all_goals
      go_wp2_with fail
      go_ret
      exact ⟨by rw [unhide HT]; rfl, (Below.refl _ _).drew⟩
def badChain (ws : List WordV) (sz n : Nat) : List PanicEntry := [{ v := errV 5 (atW ws sz n), recovered := false }]
/-- a word that must stand there -/
def RetMust (ws : List WordV) (sz rb : Nat) (a : Option Addr) (c n : Nat) (s : ByteArray) (w : World) (e : Ending) (w' : World) : Prop :=
  (txt ws n = s ∧ e = .returned (.tuple #[]) ∧ Hid (PrI ws sz w' rb a c (n + 1)) ∧ Hid (Turn [rb] w w')) ∨ (txt ws n ≠ s ∧ e = .panicked (badChain ws sz n) ∧ Hid (Turn [rb] w w'))
theorem has_txt {ws : List WordV} (hw : ∀ x ∈ ws, WordIs x) (n : Nat) {s : ByteArray} (hs : isKeyB s = true ∨ isSgnL s.data.toList = true) : hasT ws n s = decide (txt ws n = s) := by
  by_cases hn : n < ws.length
  · unfold hasT
    rw [List.getElem?_eq_getElem hn]
    simp only
    rw [str_sameR, Bool.eq_iff_iff, decide_eq_true_iff, decide_eq_true_iff]
    exact txt_iff hw hn hs
  · have e : txt ws n = ⟨#[]⟩ := by unfold txt; rw [List.getElem?_eq_none (by omega)]
    unfold hasT
    rw [List.getElem?_eq_none (by omega), e]
    simp only
    symm
    rw [decide_eq_false_iff_not]
    rintro rfl
    rcases hs with h | h
    · exact absurd h (by decide)
    · exact absurd h (by decide)
set_option maxHeartbeats 3200000 in
theorem must_any (ws : List WordV) (hw : ∀ x ∈ ws, WordIs x) (sz : Nat) (w : World) (rb : Nat) (a : Option Addr) (c n : Nat) (s : ByteArray) (hs : isKeyB s = true ∨ isSgnL s.data.toList = true) (hne : s ≠ ⟨#[]⟩) (h : PrI ws sz w rb a c n) :
    Calls Tryz.prog 74 #[.pointer (some ⟨rb, 0, none⟩), .string s] w fun e w' => RetMust ws sz rb a c n s w e w' := by
  have HH := hide (fun W (hp : PrI ws sz W rb a c n) => hasT_any ws sz W rb a c n s hp)
  rw [has_txt hw n hs] at HH
  have HP := hide h
  clear h
  by_cases ht : txt ws n = s
  · have HLT := hide (txt_lt ht hne)
    have HE := hide (fun (e : Ending) (w' : World) (h1 : e = .returned (.tuple #[])) (h2 : Hid (PrI ws sz w' rb a c (n + 1))) (h3 : Hid (Turn [rb] w w')) => show RetMust ws sz rb a c n s w e w' from .inl ⟨ht, h1, h2, h3⟩)
    have hw1 : IntKind.i64.wrap ((n : Int) + 1) = (n : Int) + 1 := by have := (unhide HP).len; have := unhide HLT; rw [IntKind.wrap_i64]; omega
    rw [decide_eq_true ht] at HH
    clear ht
    go_enter Tryz.func74, Tryz.ntmps74
    go_wp2_with (first
      | (go_at_call 77; refine (unhide HH _ (unhide HP)).mono ?_; rintro e w1 ⟨rfl, b1⟩; have P1 := hide ((unhide HP).up b1); have S1 := hide ((unhide P1).step (unhide HLT)); have T1 := hide (show Turn [rb] w w1 from Turn.of_below b1); obtain ⟨⟨c0, c1, c2⟩, f0, f1, f2⟩ := (unhide P1).box.triR)
      | fail)
    go_end0
    exact unhide HE _ _ rfl (hide (unhide S1).1) (hide ((unhide T1).trans (unhide S1).2))
  · have HE := hide (fun (e : Ending) (w' : World) (h1 : e = .panicked (badChain ws sz n)) (h3 : Hid (Turn [rb] w w')) => show RetMust ws sz rb a c n s w e w' from .inr ⟨ht, h1, h3⟩)
    rw [decide_eq_false ht] at HH
    clear ht
    go_enter Tryz.func74, Tryz.ntmps74
    go_wp2_with (first
      | (go_at_call 77; refine (unhide HH _ (unhide HP)).mono ?_; rintro e w1 ⟨rfl, b1⟩; have P1 := hide ((unhide HP).up b1); have T1 := hide (show Turn [rb] w w1 from Turn.of_below b1))
      | (go_at_call 51; refine (misplaced_any ws sz _ rb a c n (unhide P1)).mono ?_; rintro e w2 ⟨rfl, b2⟩; have T2 := hide ((unhide T1).trans (Turn.of_below b2)))
      | fail)
    exact ⟨rfl, unhide HE _ _ rfl T2⟩
/-- a word of a kind that must stand there -/
def RetMb (ws : List WordV) (sz rb : Nat) (a : Option Addr) (c n : Nat) (k : Int) (w : World) (e : Ending) (w' : World) : Prop :=
  (∃ h : n < ws.length, ws[n].a0 = k ∧ e = .returned (.string ws[n].a1) ∧ Hid (PrI ws sz w' rb a c (n + 1)) ∧ Hid (Turn [rb] w w')) ∨ (isT ws n k = false ∧ e = .panicked (badChain ws sz n) ∧ Hid (Turn [rb] w w'))
set_option maxHeartbeats 3200000 in
theorem mustBe_any (ws : List WordV) (sz : Nat) (w : World) (rb : Nat) (a : Option Addr) (c n : Nat) (k : Int) (h : PrI ws sz w rb a c n) :
    Calls Tryz.prog 75 #[.pointer (some ⟨rb, 0, none⟩), .int .i64 k] w fun e w' => RetMb ws sz rb a c n k w e w' := by
  have HH := hide (fun W (hp : PrI ws sz W rb a c n) => nextIs_any ws sz W rb a c n k hp)
  have HP := hide h
  have hlen := h.len
  clear h
  cases ht : isT ws n k
  · have HE := hide (fun (e : Ending) (w' : World) (h1 : e = .panicked (badChain ws sz n)) (h3 : Hid (Turn [rb] w w')) => show RetMb ws sz rb a c n k w e w' from .inr ⟨ht, h1, h3⟩)
    rw [ht] at HH
    clear ht
    go_enter Tryz.func75, Tryz.ntmps75
    go_wp2_with (first
      | (go_at_call 78; refine (unhide HH _ (unhide HP)).mono ?_; rintro e w1 ⟨rfl, b1⟩; have P1 := hide ((unhide HP).up b1); have T1 := hide (show Turn [rb] w w1 from Turn.of_below b1))
      | (go_at_call 51; refine (misplaced_any ws sz _ rb a c n (unhide P1)).mono ?_; rintro e w2 ⟨rfl, b2⟩; have T2 := hide ((unhide T1).trans (Turn.of_below b2)))
      | fail)
    exact ⟨rfl, unhide HE _ _ rfl T2⟩
  · have hlt : n < ws.length := by
      unfold isT at ht
      cases hq : ws[n]? with
      | none => rw [hq] at ht; cases ht
      | some x => exact (List.getElem?_eq_some_iff.1 hq).1
    have hk : ws[n].a0 = k := by
      unfold isT at ht
      rw [List.getElem?_eq_getElem hlt] at ht
      exact beq_iff_eq.1 ht
    have HLT := hide hlt
    have HE := hide (fun (e : Ending) (w' : World) (h1 : e = .returned (.string ws[n].a1)) (h2 : Hid (PrI ws sz w' rb a c (n + 1))) (h3 : Hid (Turn [rb] w w')) => show RetMb ws sz rb a c n k w e w' from .inl ⟨hlt, hk, h1, h2, h3⟩)
    have hw1 : IntKind.i64.wrap ((n : Int) + 1) = (n : Int) + 1 := by rw [IntKind.wrap_i64]; omega
    have hw2 : IntKind.i64.wrap ((n : Int) + 1 - 1) = (n : Int) := by rw [IntKind.wrap_i64]; omega
    have hz0 : (0 : Int) ≤ (n : Int) := by omega
    have hlt2 : (n : Int) < (ws.length : Int) := by omega
    rw [ht] at HH
    clear ht hk
    obtain ⟨g, o, ea, -⟩ := (unhide HP).cell hlt
    subst ea
    generalize hx : ws[n].a1 = tx at *
    have HX := hide hx
    clear hx
    go_enter Tryz.func75, Tryz.ntmps75
    go_wp2_with (first
      | (go_at_call 78; refine (unhide HH _ (unhide HP)).mono ?_; rintro e w1 ⟨rfl, b1⟩; have P1 := hide ((unhide HP).up b1); have S1 := hide ((unhide P1).step (unhide HLT)); have T1 := hide (show Turn [rb] w w1 from Turn.of_below b1); obtain ⟨⟨c0, c1, c2⟩, f0, f1, f2⟩ := (unhide P1).box.triR)
      | fail)
    have PS := hide (unhide S1).1
    have TS := hide ((unhide T1).trans (unhide S1).2)
    generalize w1.setCell ⟨rb, 1, none⟩ (.int .i64 ((n : Int) + 1)) = W2 at *
    have PD := hide ((unhide PS).up (Below.refl _ _).drew)
    have TD := hide ((unhide TS).trans (Turn.of_below (Below.refl _ _).drew))
    obtain ⟨⟨d0, d1, d2⟩, -⟩ := (unhide PS).box.triR
    obtain ⟨g', o', e', hg', q0, q1, q2⟩ := (unhide PS).cell (unhide HLT)
    cases e'
    have q1' : W2.cell? ⟨g, o + n * 3 + 1, none⟩ = some (.string tx) := q1.trans (congrArg (fun z => some (Value.string z)) (unhide HX))
    clear q1
    push_cast at d1
    go_region
    all_goals
      go_wp2_with fail
      go_ret
      exact unhide HE _ _ rfl PD TD
end Go.Proofs.YtjfebnplffpmoaaGreatDoor
