/-
  The program's reader: expr and ahead. (Made by wip/mkrdrh.py.)
-/
import Derived.Test.YtjfebnplffpmoaaGreatDoorMerged41
set_option linter.unusedVariables false
namespace Go.Proofs.YtjfebnplffpmoaaGreatDoor
open Go.RowKit Go.Maps Go.Deep

theorem RetKa.hit {ws : List WordV} {sz rb : Nat} {a : Option Addr} {c n lv k : Nat} {w : World} {e : Ending} {w' : World} (h : RetKa ws sz rb a c n lv w e w') (hk : kindG lv (txt ws n) = k) (h0 : k ≠ 0) : e = .returned (.int .i64 (k : Int)) ∧ Hid (PrK ws sz w' rb a c (n + 1)) ∧ Hid (Turn [rb] w w') := by
  obtain ⟨h1, h2, h3⟩ := h
  rw [hk] at h1 h2
  rw [if_neg h0] at h2
  exact ⟨h1, h2, h3⟩
theorem RetKa.zero {ws : List WordV} {sz rb : Nat} {a : Option Addr} {c n lv : Nat} {w : World} {e : Ending} {w' : World} (h : RetKa ws sz rb a c n lv w e w') (hk : kindG lv (txt ws n) = 0) : e = .returned (.int .i64 0) ∧ Hid (PrK ws sz w' rb a c n) ∧ Hid (Turn [rb] w w') := by
  obtain ⟨h1, h2, h3⟩ := h
  rw [hk] at h1 h2
  rw [if_pos rfl] at h2
  exact ⟨h1, h2, h3⟩
theorem RetI.form {ws : List WordV} {sz rb : Nat} {a : Option Addr} {c : Nat} {r : PRes} {w : World} {e : Ending} {w' : World} (h : RetI ws sz rb a c r w e w') : (∃ k, e = .panicked (badChain ws sz k)) ∨ (∃ ty u, e = .returned (.iface ty u)) := by
  rcases h with ⟨k, _, h, _⟩ | ⟨_, _, ty, u, _, h, _⟩
  · exact .inl ⟨k, h⟩
  · exact .inr ⟨ty, u, h⟩
theorem RetI.from {ws : List WordV} {sz rb : Nat} {a : Option Addr} {c : Nat} {r : PRes} {w w1 : World} {e : Ending} {w' : World} (h : RetI ws sz rb a c r w1 e w') (t : Turn [rb] w w1) : RetI ws sz rb a c r w e w' := by
  rcases h with ⟨k, h1, h2, h3⟩ | ⟨x, k, ty, u, h1, h2, h3, h4, h5⟩
  · exact .inl ⟨k, h1, h2, hide (t.trans (unhide h3))⟩
  · exact .inr ⟨x, k, ty, u, h1, h2, h3, hide (t.trans (unhide h4)), hide ((unhide h5).mono t.size)⟩
set_option maxHeartbeats 6400000 in
set_option maxRecDepth 20000 in
theorem iexpr_one (ws : List WordV) (hw : ∀ x ∈ ws, WordIs x) (sz f : Nat) (HE : SaidIE ws sz f) (HL : SaidIL ws sz f) : SaidIE ws sz (f + 1) := by
  intro w rb a c n h hf
  have P0 := hide h
  have KA := hide (kindAt_any ws hw sz w rb a c n 0 (by omega) h)
  have hle := h.pr.le
  clear h
  rcases kindG_0 (txt ws n) with ⟨hk, ht⟩ | ⟨hk, ht⟩ | ⟨hk, ht⟩ | ⟨hk, n1, n2, n3⟩
  · have HR := hide (show parse ws (f + 1) .expr n = ifR ws f (n + 1) from by rw [parse, if_pos ht]; rfl)
    have HLT := txt_lt ht (by decide)
    have HF := hide (show needF (ws.length - (n + 1)) .expr < f from by simp only [needF] at hf ⊢; omega)
    rw [unhide HR]
    clear ht hf HR HLT
    go_enter Tryz.func50, Tryz.ntmps50
    go_wp2_with fail
    refine (unhide KA).mono ?_
    intro e w1 hr
    obtain ⟨rfl, P1, T1⟩ := hr.hit hk (by decide)
    clear hr KA hk
    go_wp2_with fail
    refine (ifRest_any ws hw sz f HE _ rb a c _ (unhide P1) (unhide HF)).mono ?_
    intro e w2 hr
    have HX := hide (hr.from (unhide T1))
    rcases hr.form with ⟨k, rfl⟩ | ⟨ty, u, rfl⟩
    · exact ⟨rfl, unhide HX⟩
    · clear hr
      go_wp2_with fail
      go_ret
      exact unhide HX
  · have HR := hide (show parse ws (f + 1) .expr n = letR ws f (n + 1) from by rw [parse, if_neg (by rw [ht]; decide), if_pos ht]; rfl)
    have HLT := txt_lt ht (by decide)
    have HF := hide (show needF (ws.length - (n + 1)) .expr < f from by simp only [needF] at hf ⊢; omega)
    rw [unhide HR]
    clear ht hf HR HLT
    go_enter Tryz.func50, Tryz.ntmps50
    go_wp2_with fail
    refine (unhide KA).mono ?_
    intro e w1 hr
    obtain ⟨rfl, P1, T1⟩ := hr.hit hk (by decide)
    clear hr KA hk
    go_wp2_with fail
    refine (letRest_any ws hw sz f HE _ rb a c _ (unhide P1) (unhide HF)).mono ?_
    intro e w2 hr
    have HX := hide (hr.from (unhide T1))
    rcases hr.form with ⟨k, rfl⟩ | ⟨ty, u, rfl⟩
    · exact ⟨rfl, unhide HX⟩
    · clear hr
      go_wp2_with fail
      go_ret
      exact unhide HX
  · have HR := hide (show parse ws (f + 1) .expr n = repR ws f (n + 1) from by rw [parse, if_neg (by rw [ht]; decide), if_neg (by rw [ht]; decide), if_pos ht]; rfl)
    have HLT := txt_lt ht (by decide)
    have HF := hide (show needF (ws.length - (n + 1)) .expr < f from by simp only [needF] at hf ⊢; omega)
    rw [unhide HR]
    clear ht hf HR HLT
    go_enter Tryz.func50, Tryz.ntmps50
    go_wp2_with fail
    refine (unhide KA).mono ?_
    intro e w1 hr
    obtain ⟨rfl, P1, T1⟩ := hr.hit hk (by decide)
    clear hr KA hk
    go_wp2_with fail
    refine (repRest_any ws hw sz f HE _ rb a c _ (unhide P1) (unhide HF)).mono ?_
    intro e w2 hr
    have HX := hide (hr.from (unhide T1))
    rcases hr.form with ⟨k, rfl⟩ | ⟨ty, u, rfl⟩
    · exact ⟨rfl, unhide HX⟩
    · clear hr
      go_wp2_with fail
      go_ret
      exact unhide HX
  · have HR := hide (show parse ws (f + 1) .expr n = parse ws f (.level 1) n from by rw [parse, if_neg n1, if_neg n2, if_neg n3])
    have HF := hide (show needF (ws.length - n) (.level 1) < f from by simp only [needF] at hf ⊢; omega)
    rw [unhide HR]
    clear n1 n2 n3 hf HR
    go_enter Tryz.func50, Tryz.ntmps50
    go_wp2_with fail
    refine (unhide KA).mono ?_
    intro e w1 hr
    obtain ⟨rfl, P1, T1⟩ := hr.zero hk
    clear hr KA hk
    go_wp2_with fail
    refine (HL 1 _ rb a c _ (by omega) (by omega) (unhide P1) (unhide HF)).mono ?_
    intro e w2 hr
    have HX := hide (hr.from (unhide T1))
    rcases hr.form with ⟨k, rfl⟩ | ⟨ty, u, rfl⟩
    · exact ⟨rfl, unhide HX⟩
    · clear hr
      go_wp2_with fail
      go_ret
      exact unhide HX
set_option maxHeartbeats 6400000 in
set_option maxRecDepth 20000 in
theorem iahead_one (ws : List WordV) (hw : ∀ x ∈ ws, WordIs x) (sz f : Nat) (HH : SaidIH ws sz f) (HA : SaidIA ws sz f) : SaidIH ws sz (f + 1) := by
  intro w rb a c n h hf
  have P0 := hide h
  have KA := hide (kindAt_any ws hw sz w rb a c n 6 (by omega) h)
  have hle := h.pr.le
  clear h
  rcases kindG_6 (txt ws n) with ⟨hk, ht⟩ | ⟨hk, ht⟩ | ⟨hk, n1, n2⟩
  · have HR := hide (show parse ws (f + 1) .ahead n = (parse ws f .ahead (n + 1)).then fun a n1 => .ok (node1 3 a) n1 from by rw [parse, if_pos ht])
    have HLT := txt_lt ht (by decide)
    have HF := hide (show needF (ws.length - (n + 1)) .ahead < f from by simp only [needF] at hf ⊢; omega)
    rw [unhide HR]
    clear ht hf HR HLT
    go_enter Tryz.func76, Tryz.ntmps76
    go_wp2_with fail
    refine (unhide KA).mono ?_
    intro e w1 hr
    obtain ⟨rfl, P1, T1⟩ := hr.hit hk (by decide)
    clear hr KA hk
    go_wp2_with fail
    refine (HH _ rb a c _ (unhide P1) (unhide HF)).mono ?_
    rintro e w2 (⟨k2, hp2, rfl, t2⟩ | ⟨x2, k2, y2, u2, hp2, rfl, p2, t2, f2⟩)
    · exact ⟨rfl, .inl ⟨k2, by rw [hp2]; rfl, rfl, hide ((unhide T1).trans (unhide t2))⟩⟩
    have T2 := hide ((unhide T1).trans (unhide t2))
    have R2 := hide (show ((parse ws f .ahead (n + 1)).then fun a n1 => .ok (node1 3 a) n1) = _ from by rw [hp2, ok_then])
    clear hp2 t2
    go_wp2_with fail
    go_ret
    exact .inr ⟨_, _, _, _, unhide R2, rfl, p2, T2, hide (forms_node ((unhide f2).mono (unhide T1).size) (.inr (.inr (.inl ⟨_, by simp, rfl, rfl⟩))))⟩
  · have HR := hide (show parse ws (f + 1) .ahead n = (parse ws f .ahead (n + 1)).then fun a n1 => .ok (node1 4 a) n1 from by rw [parse, if_neg (by rw [ht]; decide), if_pos ht])
    have HLT := txt_lt ht (by decide)
    have HF := hide (show needF (ws.length - (n + 1)) .ahead < f from by simp only [needF] at hf ⊢; omega)
    rw [unhide HR]
    clear ht hf HR HLT
    go_enter Tryz.func76, Tryz.ntmps76
    go_wp2_with fail
    refine (unhide KA).mono ?_
    intro e w1 hr
    obtain ⟨rfl, P1, T1⟩ := hr.hit hk (by decide)
    clear hr KA hk
    go_wp2_with fail
    refine (HH _ rb a c _ (unhide P1) (unhide HF)).mono ?_
    rintro e w2 (⟨k2, hp2, rfl, t2⟩ | ⟨x2, k2, y2, u2, hp2, rfl, p2, t2, f2⟩)
    · exact ⟨rfl, .inl ⟨k2, by rw [hp2]; rfl, rfl, hide ((unhide T1).trans (unhide t2))⟩⟩
    have T2 := hide ((unhide T1).trans (unhide t2))
    have R2 := hide (show ((parse ws f .ahead (n + 1)).then fun a n1 => .ok (node1 4 a) n1) = _ from by rw [hp2, ok_then])
    clear hp2 t2
    go_wp2_with fail
    go_ret
    exact .inr ⟨_, _, _, _, unhide R2, rfl, p2, T2, hide (forms_node ((unhide f2).mono (unhide T1).size) (.inr (.inr (.inl ⟨_, by simp, rfl, rfl⟩))))⟩
  · have HR := hide (show parse ws (f + 1) .ahead n = parse ws f .atom n from by rw [parse, if_neg n1, if_neg n2])
    have HF := hide (show needF (ws.length - n) .atom < f from by simp only [needF] at hf ⊢; omega)
    rw [unhide HR]
    clear n1 n2 hf HR
    go_enter Tryz.func76, Tryz.ntmps76
    go_wp2_with fail
    refine (unhide KA).mono ?_
    intro e w1 hr
    obtain ⟨rfl, P1, T1⟩ := hr.zero hk
    clear hr KA hk
    go_wp2_with fail
    refine (HA _ rb a c _ (unhide P1) (unhide HF)).mono ?_
    intro e w2 hr
    have HX := hide (hr.from (unhide T1))
    rcases hr.form with ⟨k, rfl⟩ | ⟨ty, u, rfl⟩
    · exact ⟨rfl, unhide HX⟩
    · clear hr
      go_wp2_with fail
      go_ret
      exact unhide HX
end Go.Proofs.YtjfebnplffpmoaaGreatDoor
