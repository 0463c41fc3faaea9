/-
  The specification's reader: signs between two.
-/
/-
  The specification's reader: signs ahead. (Made by wip/mkreade.py.)
-/
/-
  The specification's reader: two in brackets. (Made by wip/mkreade.py.)
-/
import Derived.Test.YtkfhokeoooafnaaGreatDoorReadS3
import Derived.Deep.RegionHeld3
import Derived.Deep.DeepCutAuto
import Derived.Deep.CutBlock
set_option linter.unusedVariables false
namespace Go.Proofs.YtkfhokeoooafnaaGreatDoor
open Go.RowKit Go.Maps Go.Deep

/-- where the loop of a level stands: what is read so far, and what the whole will be -/
def LoopIs (ws : List WordV) (F lv : Nat) (R : PRes) (n : Nat) (l : List NodeV) (k : Nat) (b : Bool) (kd : Int) : Prop :=
  n + l.length ≤ k ∧ ((b = true ∧ R = .bad k) ∨ (b = false ∧ kd = 0 ∧ ∃ t, R = .ok t k ∧ l = fl t.f) ∨ (b = false ∧ kd ≠ 0 ∧ kd = kindL lv (txt ws k) ∧ ∃ t f', f' < F ∧ 10 * (ws.length - k) ≤ f' ∧ R = parse ws (f' + 1) (.loop lv t) k ∧ l = fl t.f))
def LoopIn (b0 : Bool) (ws : List WordV) (F lv : Nat) (R : PRes) (n : Nat) (l : List NodeV) (k : Nat) (b : Bool) (kd : Int) : Prop :=
  if b0 then l = [] ∧ k = n ∧ b = true else LoopIs ws F lv R n l k b kd
theorem LoopIn.le {b0 : Bool} {ws : List WordV} {F lv : Nat} {R : PRes} {n : Nat} {l : List NodeV} {k : Nat} {b : Bool} {kd : Int} (h : LoopIn b0 ws F lv R n l k b kd) : n + l.length ≤ k := by
  unfold LoopIn at h
  split at h
  · obtain ⟨rfl, rfl, _⟩ := h; simp
  · exact h.1
theorem kind_textB (ws : List WordV) (lv k : Nat) (b : Bool) : kindL lv (textB ws k b) = if b then 0 else kindL lv (txt ws k) := by
  cases b
  · rfl
  · exact kindL_empty lv
theorem loop_start {b0 : Bool} {ws : List WordV} {F lv n : Nat} {l : List NodeV} {k : Nat} {b : Bool} (h5 : ¬ 5 < lv) (hk : k ≤ ws.length) (hF : 10 * (ws.length - n) + 4 ≤ F) (h : PRin b0 (parse ws F (.level (lv + 1)) n) n l k b) : LoopIn b0 ws F lv (parse ws (F + 1) (.level lv) n) n l k b (kindL lv (textB ws k b)) := by
  have hle := h.le
  unfold LoopIn
  rcases h.cases with ⟨rfl, h2, h3, h4⟩ | ⟨rfl, h2, h3, h4⟩ | ⟨rfl, h2, h3, t, h4, h5'⟩
  · exact ⟨h2, h3, h4⟩
  · rw [if_neg (by simp)]
    refine ⟨hle, .inl ⟨h2, ?_⟩⟩
    rw [parse, if_neg h5, h3]; rfl
  · rw [if_neg (by simp)]
    have e : parse ws (F + 1) (.level lv) n = parse ws F (.loop lv t) k := by rw [parse, if_neg h5, h4]; rfl
    refine ⟨hle, .inr ?_⟩
    obtain ⟨f', rfl⟩ : ∃ f', F = f' + 1 := ⟨F - 1, by omega⟩
    rw [kind_textB, h2]
    simp only [Bool.false_eq_true, if_false]
    by_cases hz : kindL lv (txt ws k) = 0
    · exact .inl ⟨trivial, hz, t, by rw [e, parse, if_pos hz], h5'⟩
    · exact .inr ⟨trivial, hz, trivial, t, f', by omega, by omega, e, h5'⟩
theorem loop_next {ws : List WordV} {F lv n : Nat} {R : PRes} {l l2 : List NodeV} {k k2 : Nat} {b2 : Bool} {kd : Int} {t : TreeV} {f' : Nat} (hle : n + l.length ≤ k) (hk : k < ws.length) (hk2 : k2 ≤ ws.length) (hf : f' < F) (hf2 : 10 * (ws.length - k) ≤ f') (hkd : kd = kindL lv (txt ws k)) (hz : kd ≠ 0) (hR : R = parse ws (f' + 1) (.loop lv t) k) (hl : l = fl t.f)
    (h : PRin false (parse ws f' (.level (lv + 1)) (k + 1)) (k + 1) l2 k2 b2) : LoopIn false ws F lv R n (⟨kd, 0, ⟨#[]⟩, 2⟩ :: (l ++ (l2 ++ []))) k2 b2 (if lv = 3 then 0 else kindL lv (textB ws k2 b2)) := by
  have hle2 := h.le
  unfold LoopIn
  rw [if_neg (by simp)]
  refine ⟨by simp only [List.length_cons, List.length_append, List.length_nil]; omega, ?_⟩
  have e : R = (parse ws f' (.level (lv + 1)) (k + 1)).then fun b n1 => if lv = 3 then .ok (node2 kd ⟨#[]⟩ t b) n1 else parse ws f' (.loop lv (node2 kd ⟨#[]⟩ t b)) n1 := by
    rw [hR, parse, ← hkd, if_neg hz]
  rcases h.cases with ⟨h1, _⟩ | ⟨_, h2, h3, h4⟩ | ⟨_, h2, h3, t2, h4, h5'⟩
  · cases h1
  · exact .inl ⟨h2, by rw [e, h3]; rfl⟩
  · refine .inr ?_
    rw [kind_textB, h2]
    simp only [Bool.false_eq_true, if_false]
    have hfl : (⟨kd, 0, ⟨#[]⟩, 2⟩ :: (l ++ (l2 ++ [])) : List NodeV) = fl (node2 kd ⟨#[]⟩ t t2).f := by rw [fl_node2, hl, h5', List.append_nil]
    by_cases h3' : lv = 3
    · rw [if_pos h3']
      exact .inl ⟨trivial, rfl, _, by rw [e, h4]; show (if lv = 3 then _ else _) = _; rw [if_pos h3'], hfl⟩
    · rw [if_neg h3']
      have e2 : R = parse ws f' (.loop lv (node2 kd ⟨#[]⟩ t t2)) k2 := by rw [e, h4]; show (if lv = 3 then _ else _) = _; rw [if_neg h3']
      obtain ⟨f2, rfl⟩ : ∃ f2, f' = f2 + 1 := ⟨f' - 1, by omega⟩
      by_cases hz2 : kindL lv (txt ws k2) = 0
      · exact .inl ⟨trivial, hz2, _, by rw [e2, parse, if_pos hz2], hfl⟩
      · exact .inr ⟨trivial, hz2, rfl, _, f2, by omega, by omega, e2, hfl⟩
theorem loop_end {b0 : Bool} {ws : List WordV} {F lv : Nat} {R : PRes} {n : Nat} {l : List NodeV} {k : Nat} {b : Bool} {kd : Int} (h : LoopIn b0 ws F lv R n l k b kd) (he : b = true ∨ kd = 0) : PRin b0 R n l k b := by
  unfold LoopIn at h
  unfold PRin
  split
  · rename_i hb; rw [if_pos hb] at h; exact h
  · rename_i hb
    rw [if_neg hb] at h
    refine ⟨h.1, ?_⟩
    rcases h.2 with ⟨h1, h2⟩ | ⟨h1, h2, t, h3, h4⟩ | ⟨h1, h2, _⟩
    · rw [h2]; exact ⟨h1, rfl⟩
    · rw [h3]; exact ⟨h1, rfl, h4⟩
    · rcases he with h3 | h3
      · rw [h1] at h3; cases h3
      · exact absurd h3 h2
theorem loop_on {b0 : Bool} {ws : List WordV} {F lv : Nat} {R : PRes} {n : Nat} {l : List NodeV} {k : Nat} {kd : Int} (h : LoopIn b0 ws F lv R n l k false kd) (hz : kd ≠ 0) : b0 = false ∧ n + l.length ≤ k ∧ kd = kindL lv (txt ws k) ∧ ∃ t f', f' < F ∧ 10 * (ws.length - k) ≤ f' ∧ R = parse ws (f' + 1) (.loop lv t) k ∧ l = fl t.f := by
  unfold LoopIn at h
  split at h
  · cases h.2.2
  · rename_i hb
    have hb : b0 = false := by simpa using hb
    refine ⟨hb, h.1, ?_⟩
    rcases h.2 with ⟨h1, h2⟩ | ⟨h1, h2, _⟩ | ⟨h1, h2, h3, h4⟩
    · cases h1
    · exact absurd h2 hz
    · exact ⟨h3, h4⟩
def kOf (lv : Nat) (s : ByteArray) : Int := if lv = 3 then 0 else kindL lv s
set_option maxHeartbeats 6400000 in
set_option maxRecDepth 20000 in
theorem level_one (ws : List WordV) (F : Nat) (HL : ∀ f', f' ≤ F → SaidL ws f') (HH : SaidH ws F) : SaidL ws (F + 1) := by
  intro lv w pb a c n b0 hl1 hl6 hp HF
  have HPB := hp.lt
  by_cases h5 : 5 < lv
  · have e : lv = 6 := by omega
    subst e
    have ST0 := hide hp
    have HR := hide (fun l k b' (h : PRin b0 (parse ws F .ahead n) n l k b') => show PRin b0 (parse ws (F + 1) (.level 6) n) n l k b' from by rw [parse, if_pos (by omega)]; exact h)
    have HFF : needF (ws.length - n) .ahead < F := by simp only [needF] at HF ⊢; omega
    clear hp h5 hl1 hl6
    go_enter Tryz.func54, Tryz.ntmps54
    go_wp2_with (first
      | (go_at_call 82; refine (HH _ pb a c _ _ (unhide ST0) HFF).mono ?_; rintro e w1 ⟨v1, l1, k1, b1, rfl, r1, s1, t1, p1⟩)
      | fail)
    go_ret
    exact ⟨_, _, _, _, rfl, r1, s1, t1, hide (unhide HR _ _ _ (unhide p1))⟩
  have hw1 : IntKind.i64.wrap ((lv : Int) + 1) = ((lv + 1 : Nat) : Int) := by rw [IntKind.wrap_i64]; omega
  have h5i : ¬ (5 : Int) < (lv : Int) := by omega
  have HF2 : 10 * (ws.length - n) + 4 ≤ F := by simp only [needF] at HF; omega
  have HST := hide (fun l k b (hk : k ≤ ws.length) (h : PRin b0 (parse ws F (.level (lv + 1)) n) n l k b) => loop_start h5 hk HF2 h)
  have ST0 := hide hp
  have TT0 := hide (Turn.refl [pb] w)
  have HFF : needF (ws.length - n) (.level (lv + 1)) < F := by simp only [needF] at HF ⊢; omega
  have hl5 : lv ≤ 5 := by omega
  clear hp HF
  generalize hR : parse ws (F + 1) (.level lv) n = R at *
  clear hR
  go_enter Tryz.func54, Tryz.ntmps54
  go_wp2_with (first
    | (go_at_call 54; refine (HL F (Nat.le_refl _) (lv + 1) _ pb a c _ _ (by omega) (by omega) (unhide ST0) HFF).mono ?_; rintro e w1 ⟨v1, l1, k1, b1, rfl, r1, s1, t1, p1⟩; have R1 := r1; have ST1 := s1; have TT1 := hide ((unhide TT0).trans (unhide t1)); have LS := hide (unhide HST _ _ _ (unhide s1).le (unhide p1)); clear r1 s1 t1 ST0 TT0 HST HFF)
    | (go_at_call 50; refine (text_any ws _ pb a c _ _ (unhide ST1)).mono ?_; rintro e w2 ⟨rfl, d2⟩; have R2 := hide ((unhide R1).up ((d2))); have ST2 := hide ((unhide ST1).up d2); have TT2 := hide ((unhide TT1).trans (Turn.of_below d2)); clear d2 R1 ST1 TT1)
    | (go_at_call 83; refine (l2Kind_any lv ⟨hl1, hl5⟩ _ _).mono ?_; rintro e w3 ⟨rfl, rfl⟩)
    | fail)
  go_loopw [5, 6] (fun av kv wr => ∃ (v : Value) (l : List NodeV) (k : Nat) (b : Bool) (kd : Int), av = v ∧ kv = .int .i64 kd ∧ Hid (NdRow w.heap.size wr v l) ∧ Hid (PrS ws wr pb a c k b) ∧ Hid (Turn [pb] w wr) ∧ Hid (LoopIn b0 ws F lv R n l k b kd)) (fun _ _ wr => ws.length - (match wr.cell? ⟨pb, 1, none⟩ with | some (.int _ x) => x.toNat | _ => 0))
  case atStart => exact ⟨v1, l1, k1, b1, _, rfl, rfl, R2, ST2, TT2, LS⟩
  case round =>
    obtain ⟨v, l, k, b, kd, rfl, rfl, RL, SL, TL, LI⟩ := hrel
    obtain ⟨⟨c0, c1, c2⟩, f0, f1, f2⟩ := (unhide SL).box.triR
    by_cases hz : kd = 0
    · have FIN := hide (loop_end (unhide LI) (.inr hz))
      have z1 : (kd == 0) = true := by rw [beq_iff_eq]; exact hz
      have z2 : (kd != 0) = false := by rw [bne, z1]; rfl
      clear hz LI
      go_wp2_with fail
      go_ret
      exact ⟨_, _, _, _, rfl, RL, SL, TL, FIN⟩
    have z1 : (kd == 0) = false := by rw [beq_eq_false_iff_ne]; exact hz
    have z2 : (kd != 0) = true := by rw [bne, z1]; rfl
    cases b
    rotate_left
    · have FIN := hide (loop_end (unhide LI) (.inl rfl))
      clear hz LI
      go_wp2_with fail
      go_ret
      exact ⟨_, _, _, _, rfl, RL, SL, TL, FIN⟩
    have LON := hide (loop_on (unhide LI) hz)
    have HLT := hide (kind_lt (show kindL lv (txt ws k) ≠ 0 from by rw [← (unhide LON).2.2.1]; exact hz))
    have hwk : IntKind.i64.wrap ((k : Int) + 1) = (k : Int) + 1 := by have := (unhide SL).len; have := unhide HLT; rw [IntKind.wrap_i64]; omega
    obtain ⟨hb0, hle, hkd, t, f', hf', hf2, hRR, hll⟩ := unhide LON
    have HM := hide (And.intro hle (And.intro hkd (And.intro hf' (And.intro hf2 (And.intro hRR hll)))))
    have HZ := hide hz
    clear hle hkd hf' hf2 hRR hll LI LON hz
    have SD := SL
    have RD := RL
    have TD := TL
    have HS := hide ((unhide SD).step (unhide HLT))
    have SL1 := hide (unhide HS).1
    have RL1 := hide ((unhide RD).turn (unhide HS).2 HPB)
    have TL1 := hide ((unhide TD).trans (unhide HS).2)
    have HL1 := hide (show needF (ws.length - (k + 1)) (.level (lv + 1)) < f' from by have := unhide HLT; have := (unhide HM).2.2.2.1; simp only [needF]; omega)
    have HLF := hide (HL f' (by have := (unhide HM).2.2.1; omega))
    subst hb0
    clear HS SD RD TD RL TL
    by_cases h3 : lv = 3
    · have q3 : ((lv : Int) == 3) = true := by rw [h3]; rfl
      have HNX := hide (fun l2 k2 b2 (hk2 : k2 ≤ ws.length) (h : PRin false (parse ws f' (.level (lv + 1)) (k + 1)) (k + 1) l2 k2 b2) => show LoopIn false ws F lv R n (⟨kd, 0, ⟨#[]⟩, 2⟩ :: (l ++ (l2 ++ []))) k2 b2 0 from by
        have := loop_next (unhide HM).1 (unhide HLT) hk2 (unhide HM).2.2.1 (unhide HM).2.2.2.1 (unhide HM).2.1 (unhide HZ) (unhide HM).2.2.2.2.1 (unhide HM).2.2.2.2.2 h
        rw [if_pos h3] at this
        exact this)
      clear h3
      go_wp2_with (first
        | (go_at_call 54; refine (unhide HLF (lv + 1) _ pb a c _ _ (by omega) (by omega) (unhide SL1) (unhide HL1)).mono ?_; rintro e w4 ⟨v4, l4, k4, b4, rfl, r4, s4, t4, p4⟩; have RB4 := hide ((unhide r4).mono (B' := w.heap.size) (unhide TL1).size); have RL4 := hide ((unhide RL1).turn (unhide t4) HPB); have SL4 := s4; have TL4 := hide ((unhide TL1).trans (unhide t4)); have HN4 := hide (unhide HNX _ _ _ (unhide s4).le (unhide p4)); have HLE4 := (unhide p4).le; clear r4 s4 t4 SL1 TL1 RL1 HNX)
        | (go_at_call 52; refine (l2Put_any _ ⟨kd, 0, ⟨#[]⟩, 2⟩ _ v4 (.slice none 0 0) l l4 [] (unhide RL4).in (unhide RB4).in (NdIn.nil _) (by have := (unhide SL4).le; have := (unhide SL4).len; have := (unhide HM).1; simp only [List.length_nil]; omega)).mono ?_; rintro e w5 ⟨v5, rfl, r5, d5⟩; have SL5 := hide ((unhide SL4).up (unhide d5)); have TL5 := hide ((unhide TL4).trans (Turn.of_below (unhide d5))); have RL5 := hide ((unhide r5).mono (B' := w.heap.size) (unhide TL4).size); clear r5 d5 SL4 TL4 RL4 RB4)
        | (go_at_call 50; refine (text_any ws _ pb a c _ _ (unhide SL5)).mono ?_; rintro e w6 ⟨rfl, d6⟩; have RL6 := hide ((unhide RL5).up d6); have SL6 := hide ((unhide SL5).up d6); have TL6 := hide ((unhide TL5).trans (Turn.of_below d6)); clear d6 RL5 SL5 TL5)
        | (go_at_call 83; refine (l2Kind_any lv ⟨hl1, hl5⟩ _ _).mono ?_; rintro e w7 ⟨rfl, rfl⟩)
        | fail)
      go_roundw
      case rel => exact ⟨_, _, k4, b4, _, rfl, rfl, RL6, SL6, TL6, HN4⟩
      case measure =>
        have m1 := (unhide SL6).box.triR.1.2.1
        have m2 := unhide HLT
        have m3 := (unhide SL6).le
        rw [c1, m1]
        simp only [Int.toNat_natCast]
        omega
    · have q3 : ((lv : Int) == 3) = false := by rw [beq_eq_false_iff_ne]; omega
      have HNX := hide (fun l2 k2 b2 (hk2 : k2 ≤ ws.length) (h : PRin false (parse ws f' (.level (lv + 1)) (k + 1)) (k + 1) l2 k2 b2) => show LoopIn false ws F lv R n (⟨kd, 0, ⟨#[]⟩, 2⟩ :: (l ++ (l2 ++ []))) k2 b2 (kindL lv (textB ws k2 b2)) from by
        have := loop_next (unhide HM).1 (unhide HLT) hk2 (unhide HM).2.2.1 (unhide HM).2.2.2.1 (unhide HM).2.1 (unhide HZ) (unhide HM).2.2.2.2.1 (unhide HM).2.2.2.2.2 h
        rw [if_neg h3] at this
        exact this)
      clear h3
      go_wp2_with (first
        | (go_at_call 54; refine (unhide HLF (lv + 1) _ pb a c _ _ (by omega) (by omega) (unhide SL1) (unhide HL1)).mono ?_; rintro e w4 ⟨v4, l4, k4, b4, rfl, r4, s4, t4, p4⟩; have RB4 := hide ((unhide r4).mono (B' := w.heap.size) (unhide TL1).size); have RL4 := hide ((unhide RL1).turn (unhide t4) HPB); have SL4 := s4; have TL4 := hide ((unhide TL1).trans (unhide t4)); have HN4 := hide (unhide HNX _ _ _ (unhide s4).le (unhide p4)); have HLE4 := (unhide p4).le; clear r4 s4 t4 SL1 TL1 RL1 HNX)
        | (go_at_call 52; refine (l2Put_any _ ⟨kd, 0, ⟨#[]⟩, 2⟩ _ v4 (.slice none 0 0) l l4 [] (unhide RL4).in (unhide RB4).in (NdIn.nil _) (by have := (unhide SL4).le; have := (unhide SL4).len; have := (unhide HM).1; simp only [List.length_nil]; omega)).mono ?_; rintro e w5 ⟨v5, rfl, r5, d5⟩; have SL5 := hide ((unhide SL4).up (unhide d5)); have TL5 := hide ((unhide TL4).trans (Turn.of_below (unhide d5))); have RL5 := hide ((unhide r5).mono (B' := w.heap.size) (unhide TL4).size); clear r5 d5 SL4 TL4 RL4 RB4)
        | (go_at_call 50; refine (text_any ws _ pb a c _ _ (unhide SL5)).mono ?_; rintro e w6 ⟨rfl, d6⟩; have RL6 := hide ((unhide RL5).up d6); have SL6 := hide ((unhide SL5).up d6); have TL6 := hide ((unhide TL5).trans (Turn.of_below d6)); clear d6 RL5 SL5 TL5)
        | (go_at_call 83; refine (l2Kind_any lv ⟨hl1, hl5⟩ _ _).mono ?_; rintro e w7 ⟨rfl, rfl⟩)
        | fail)
      go_roundw
      case rel => exact ⟨_, _, k4, b4, _, rfl, rfl, RL6, SL6, TL6, HN4⟩
      case measure =>
        have m1 := (unhide SL6).box.triR.1.2.1
        have m2 := unhide HLT
        have m3 := (unhide SL6).le
        rw [c1, m1]
        simp only [Int.toNat_natCast]
        omega
end Go.Proofs.YtkfhokeoooafnaaGreatDoor

set_option linter.unusedVariables false
namespace Go.Proofs.YtkfhokeoooafnaaGreatDoor
open Go.RowKit Go.Maps Go.Deep

set_option maxHeartbeats 6400000 in
set_option maxRecDepth 20000 in
theorem ahead_one (ws : List WordV) (f : Nat) (HH : SaidH ws f) (HA : SaidA ws f) : SaidH ws (f + 1) := by
  intro w pb a c n b hp HF
  have HPB := hp.lt
  have HX := hide (text_any ws w pb a c n b hp)
  have ST := hide hp
  clear hp
  by_cases h : textB ws n b = sSub
  · have hb : b = false := by cases b; rfl; exact absurd h (show textB ws n true ≠ sSub from by show (⟨#[]⟩ : ByteArray) ≠ sSub; decide)
    subst hb
    have ht : txt ws n = sSub := h
    have HLT := txt_lt ht (by decide)
    have HR := hide (fun l k b' (h : PRin false (parse ws f .ahead (n + 1)) (n + 1) l k b') => show PRis (parse ws (f + 1) .ahead n) n (⟨3, 0, ⟨#[]⟩, 1⟩ :: (l ++ ([] ++ []))) k b' from by
      have hn : n + (⟨3, 0, ⟨#[]⟩, 1⟩ :: (l ++ ([] ++ [])) : List NodeV).length ≤ k := by have := h.le; simp only [List.length_cons, List.length_append, List.length_nil]; omega
      rw [parse, if_pos ht]
      refine is_then h (fun hb => ⟨hb, rfl⟩) hn fun t hb e => ?_
      exact ⟨hn, hb, rfl, by rw [fl_node1, e]; simp⟩)
    generalize textB ws n false = s at *
    have hs := h
    have q0 : (s.toList == [45]) = true := by rw [str_litR, hs]; decide
    have q1 : (s.toList == [110, 111, 116]) = false := by rw [str_litR, hs]; decide
    clear hs h
    go_enter Tryz.func82, Tryz.ntmps82
    go_wp2_with (first
      | (go_at_call 50; refine (unhide HX).mono ?_; rintro e w0 ⟨rfl, d0⟩; have TT0 := hide (show Turn [pb] w w0 from Turn.of_below d0); have ST0 := hide ((unhide ST).up d0); clear HX ST d0; have HS := hide ((unhide ST0).step HLT); have hw1 : IntKind.i64.wrap ((n : Int) + 1) = (n : Int) + 1 := (by have := (unhide ST0).len; rw [IntKind.wrap_i64]; omega); obtain ⟨⟨c0, c1, c2⟩, f0, f1, f2⟩ := (unhide ST0).box.triR; have ST1 := hide (unhide HS).1; have TT1 := hide ((unhide TT0).trans (unhide HS).2); clear HS ST0 TT0)
      | (go_at_call 52; have _t := ST2; refine (l2Put_any _ ⟨3, 0, ⟨#[]⟩, 1⟩ v2 (.slice none 0 0) (.slice none 0 0) l2 [] [] (unhide RA).in (NdIn.nil _) (NdIn.nil _) (by have := (unhide ST2).le; have := (unhide ST2).len; (try simp only [List.length_nil]); omega)).mono ?_; rintro e w3 ⟨v3, rfl, r3, g3⟩; have ST3 := hide ((unhide ST2).up (unhide g3)); have TT3 := hide ((unhide TT2).trans (Turn.of_below (unhide g3))); have RW := hide ((unhide r3).mono (B' := w.heap.size) (unhide TT2).size); clear ST2 TT2 r3 g3)
      | (go_at_call 82; have _t := ST1; refine (HH _ pb a c _ _ (unhide ST1) (by have := (unhide ST1).le; simp only [needF] at HF ⊢; omega)).mono ?_; rintro e w2 ⟨v2, l2, k2, b2, rfl, r2, s2, t2, p2⟩; have ST2 := s2; have LE2 := (unhide p2).le; have RA := hide ((unhide r2).mono (B' := w.heap.size) (unhide TT1).size); have TT2 := hide ((unhide TT1).trans (unhide t2)); clear s2 t2 r2 ST1 TT1)
      | fail)
    go_ret
    exact ⟨_, _, _, _, rfl, RW, ST3, TT3, hide (PRin.of (unhide HR _ _ _ (unhide p2)))⟩
  have n0 := h
  clear h
  by_cases h : textB ws n b = kNot
  · have hb : b = false := by cases b; rfl; exact absurd h (show textB ws n true ≠ kNot from by show (⟨#[]⟩ : ByteArray) ≠ kNot; decide)
    subst hb
    have ht : txt ws n = kNot := h
    have HLT := txt_lt ht (by decide)
    have HR := hide (fun l k b' (h : PRin false (parse ws f .ahead (n + 1)) (n + 1) l k b') => show PRis (parse ws (f + 1) .ahead n) n (⟨4, 0, ⟨#[]⟩, 1⟩ :: (l ++ ([] ++ []))) k b' from by
      have hn : n + (⟨4, 0, ⟨#[]⟩, 1⟩ :: (l ++ ([] ++ [])) : List NodeV).length ≤ k := by have := h.le; simp only [List.length_cons, List.length_append, List.length_nil]; omega
      rw [parse, if_neg (by rw [ht]; decide), if_pos ht]
      refine is_then h (fun hb => ⟨hb, rfl⟩) hn fun t hb e => ?_
      exact ⟨hn, hb, rfl, by rw [fl_node1, e]; simp⟩)
    generalize textB ws n false = s at *
    have hs := h
    have q0 : (s.toList == [45]) = false := by rw [str_litR, hs]; decide
    have q1 : (s.toList == [110, 111, 116]) = true := by rw [str_litR, hs]; decide
    clear hs h
    go_enter Tryz.func82, Tryz.ntmps82
    go_wp2_with (first
      | (go_at_call 50; refine (unhide HX).mono ?_; rintro e w0 ⟨rfl, d0⟩; have TT0 := hide (show Turn [pb] w w0 from Turn.of_below d0); have ST0 := hide ((unhide ST).up d0); clear HX ST d0; have HS := hide ((unhide ST0).step HLT); have hw1 : IntKind.i64.wrap ((n : Int) + 1) = (n : Int) + 1 := (by have := (unhide ST0).len; rw [IntKind.wrap_i64]; omega); obtain ⟨⟨c0, c1, c2⟩, f0, f1, f2⟩ := (unhide ST0).box.triR; have ST1 := hide (unhide HS).1; have TT1 := hide ((unhide TT0).trans (unhide HS).2); clear HS ST0 TT0)
      | (go_at_call 52; have _t := ST2; refine (l2Put_any _ ⟨4, 0, ⟨#[]⟩, 1⟩ v2 (.slice none 0 0) (.slice none 0 0) l2 [] [] (unhide RA).in (NdIn.nil _) (NdIn.nil _) (by have := (unhide ST2).le; have := (unhide ST2).len; (try simp only [List.length_nil]); omega)).mono ?_; rintro e w3 ⟨v3, rfl, r3, g3⟩; have ST3 := hide ((unhide ST2).up (unhide g3)); have TT3 := hide ((unhide TT2).trans (Turn.of_below (unhide g3))); have RW := hide ((unhide r3).mono (B' := w.heap.size) (unhide TT2).size); clear ST2 TT2 r3 g3)
      | (go_at_call 82; have _t := ST1; refine (HH _ pb a c _ _ (unhide ST1) (by have := (unhide ST1).le; simp only [needF] at HF ⊢; omega)).mono ?_; rintro e w2 ⟨v2, l2, k2, b2, rfl, r2, s2, t2, p2⟩; have ST2 := s2; have LE2 := (unhide p2).le; have RA := hide ((unhide r2).mono (B' := w.heap.size) (unhide TT1).size); have TT2 := hide ((unhide TT1).trans (unhide t2)); clear s2 t2 r2 ST1 TT1)
      | fail)
    go_ret
    exact ⟨_, _, _, _, rfl, RW, ST3, TT3, hide (PRin.of (unhide HR _ _ _ (unhide p2)))⟩
  have n1 := h
  clear h
  have HR := hide (fun l k b' (h : PRin b (parse ws f .atom n) n l k b') => show PRin b (parse ws (f + 1) .ahead n) n l k b' from by
    cases b
    · rw [parse, if_neg (show ¬ txt ws n = sSub from n0), if_neg (show ¬ txt ws n = kNot from n1)]; exact h
    · exact h)
  generalize textB ws n b = s at *
  have q0 : (s.toList == [45]) = false := by rw [str_litR]; exact decide_eq_false (n0)
  have q1 : (s.toList == [110, 111, 116]) = false := by rw [str_litR]; exact decide_eq_false (n1)
  clear n0 n1
  go_enter Tryz.func82, Tryz.ntmps82
  go_wp2_with (first
    | (go_at_call 50; refine (unhide HX).mono ?_; rintro e w0 ⟨rfl, d0⟩; have TT0 := hide (show Turn [pb] w w0 from Turn.of_below d0); have ST0 := hide ((unhide ST).up d0); clear HX ST d0)
    | (go_at_call 105; refine (HA _ pb a c _ _ (unhide ST0) (by simp only [needF] at HF ⊢; omega)).mono ?_; rintro e w1 ⟨v1, l1, k1, b1, rfl, r1, s1, t1, p1⟩; have R1 := hide ((unhide r1).mono (B' := w.heap.size) (unhide TT0).size); have T1 := hide ((unhide TT0).trans (unhide t1)); clear r1 t1)
    | fail)
  go_ret
  exact ⟨_, _, _, _, rfl, R1, s1, T1, hide (unhide HR _ _ _ (unhide p1))⟩
end Go.Proofs.YtkfhokeoooafnaaGreatDoor

set_option linter.unusedVariables false
namespace Go.Proofs.YtkfhokeoooafnaaGreatDoor
open Go.RowKit Go.Maps Go.Deep

set_option maxHeartbeats 6400000 in
set_option maxRecDepth 20000 in
theorem pair_one (ws : List WordV) (f : Nat) (HE : SaidE ws f) (kd : Int) (w : World) (pb : Nat) (a : Option Addr) (c n : Nat) (hp : PrS ws w pb a c n false) (HLT : n < ws.length) (HF : needF (ws.length - n) .atom < f + 1) :
    Calls Tryz.prog 117 #[.pointer (some ⟨pb, 0, none⟩), .int .i64 kd] w fun e w' => RetP ws pb a c n false (pairR ws f kd n) w e w' := by
  have HPB := hp.lt
  have ST0 := hide hp
  have TT0 := hide (Turn.refl [pb] w)
  clear hp
  have HS := hide ((unhide ST0).step HLT)
  have hw1 : IntKind.i64.wrap ((n : Int) + 1) = (n : Int) + 1 := (by have := (unhide ST0).len; rw [IntKind.wrap_i64]; omega)
  obtain ⟨⟨c0, c1, c2⟩, f0, f1, f2⟩ := (unhide ST0).box.triR
  have ST1 := hide (unhide HS).1
  have TT1 := hide ((unhide TT0).trans (unhide HS).2)
  clear HS ST0 TT0
  go_enter Tryz.func117, Tryz.ntmps117
  go_wp2_with (first
    | (go_at_call 52; have _t := ST6; refine (l2Put_any _ ⟨kd, 0, ⟨#[]⟩, 2⟩ v3 v5 (.slice none 0 0) l3 l5 [] (unhide RA).in (unhide RB).in (NdIn.nil _) (by have := (unhide ST6).le; have := (unhide ST6).len; (try simp only [List.length_nil]); omega)).mono ?_; rintro e w7 ⟨v7, rfl, r7, g7⟩; have ST7 := hide ((unhide ST6).up (unhide g7)); have TT7 := hide ((unhide TT6).trans (Turn.of_below (unhide g7))); have RW := hide ((unhide r7).mono (B' := w.heap.size) (unhide TT6).size); clear ST6 TT6 r7 g7)
    | (go_at_call 51; have _t := ST5; refine (take_any ws sShut (by decide) _ pb a c _ _ (unhide ST5)).mono ?_; rintro e w6 ⟨rfl, s6, t6⟩; have ST6 := s6; have TT6 := hide ((unhide TT5).trans (unhide t6)); have LE6 := take_le ws sShut (k5) (b5); have RAx := hide ((unhide RA).turn (unhide t6) HPB); clear RA; have RA := RAx; clear RAx; have RBx := hide ((unhide RB).turn (unhide t6) HPB); clear RB; have RB := RBx; clear RBx; clear s6 t6 ST5 TT5)
    | (go_at_call 26; have _t := ST4; refine (HE _ pb a c _ _ (unhide ST4) (by have := (unhide ST4).le; simp only [needF] at HF ⊢; omega)).mono ?_; rintro e w5 ⟨v5, l5, k5, b5, rfl, r5, s5, t5, p5⟩; have ST5 := s5; have LE5 := (unhide p5).le; have RB := hide ((unhide r5).mono (B' := w.heap.size) (unhide TT4).size); have TT5 := hide ((unhide TT4).trans (unhide t5)); have RAx := hide ((unhide RA).turn (unhide t5) HPB); clear RA; have RA := RAx; clear RAx; clear s5 t5 r5 ST4 TT4)
    | (go_at_call 51; have _t := ST3; refine (take_any ws sComma (by decide) _ pb a c _ _ (unhide ST3)).mono ?_; rintro e w4 ⟨rfl, s4, t4⟩; have ST4 := s4; have TT4 := hide ((unhide TT3).trans (unhide t4)); have LE4 := take_le ws sComma (k3) (b3); have RAx := hide ((unhide RA).turn (unhide t4) HPB); clear RA; have RA := RAx; clear RAx; clear s4 t4 ST3 TT3)
    | (go_at_call 26; have _t := ST2; refine (HE _ pb a c _ _ (unhide ST2) (by have := (unhide ST2).le; simp only [needF] at HF ⊢; omega)).mono ?_; rintro e w3 ⟨v3, l3, k3, b3, rfl, r3, s3, t3, p3⟩; have ST3 := s3; have LE3 := (unhide p3).le; have RA := hide ((unhide r3).mono (B' := w.heap.size) (unhide TT2).size); have TT3 := hide ((unhide TT2).trans (unhide t3)); clear s3 t3 r3 ST2 TT2)
    | (go_at_call 51; have _t := ST1; refine (take_any ws sOpen (by decide) _ pb a c _ _ (unhide ST1)).mono ?_; rintro e w2 ⟨rfl, s2, t2⟩; have ST2 := s2; have TT2 := hide ((unhide TT1).trans (unhide t2)); have LE2 := take_le ws sOpen (n + 1) (false); clear s2 t2 ST1 TT1)
    | fail)
  go_ret
  exact ⟨_, _, _, _, rfl, RW, ST7, TT7, hide (PRin.of (pair_is (unhide p3) (unhide p5)))⟩
end Go.Proofs.YtkfhokeoooafnaaGreatDoor
