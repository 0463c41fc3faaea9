/-
  The program's reader: expr and ahead. (Made by wip/mkrdrh.py.)
-/
/-
  The program's reader: signs between two.
-/
/-
  DERIVED: THE SHELF's CONTRACTS AT THIS DUMP, IN PLAIN WORDS (tools/lay-plain.mjs out of 'TryzShelf.lean', which tools/lay-shelf.mjs wrote): THE SAME DECLARATIONS UNDER THE SAME NAMES: 'import', 'namespace', 'open', 'def', 'theorem' AND NOTHING ELSE: no command of the shelf's: FOR A HAND-IN. Each laying: the table of numbers ('.._ren') and one theorem, a field a fact of the dump's own or the kernel's comparison; each contract: ONE APPLICATION.
-/
import Derived.Test.YtkfhokeoooafnaaGreatDoorMerged38
import Derived.Shelf.Strings.Builder1
import Derived.Shelf.Strings.Builder2
import Derived.Shelf.Strings.OnBuilder
import Derived.Shelf.Strconv.Atoi
import Derived.Shelf.Strconv.Itoa0
import Derived.Shelf.Strconv.Itoa1
import Derived.Shelf.LaysM
import Derived.Shelf.Strconv.Itoa2
import Derived.Shelf.Strconv.Itoa3
import Derived.Shelf.Strconv.AtoiErrFast
import Derived.Shelf.Strconv.ParseIntEmpty
import Derived.Shelf.Strconv.AtoiFail
import Derived.Shelf.Strconv.Clone
import Derived.Shelf.Strconv.SyntaxError
import Derived.Shelf.LaysC
import Derived.Shelf.Strconv.ToError
import Derived.Shelf.Strconv.Lower
import Derived.Shelf.Strconv.ParseUint10
import Derived.Shelf.Strconv.ParseUint10Empty
import Derived.Shelf.Strconv.ParseUint10Any
import Derived.Shelf.Strconv.ParseInt10
import Derived.Shelf.Strconv.AtoiLong
import Derived.Shelf.Strconv.AtoiInnerAll
import Derived.Shelf.Strconv.RangeError
import Derived.Shelf.Strconv.ToErrorRange
import Derived.Shelf.Strconv.AtoiAll
import Derived.Shelf.Strconv.ErrVarAll
import Derived.Test.YtkfhokeoooafnaaGreatDoorProg
set_option linter.unusedVariables false
namespace Go.Proofs.YtkfhokeoooafnaaGreatDoor
open Go.RowKit Go.Maps Go.Deep

theorem RetKa.hit {ws : List WordV} {sz rb : Nat} {a : Option Addr} {c n lv k : Nat} {w : World} {e : Ending} {w' : World} (h : RetKa ws sz rb a c n lv w e w') (hk : kindG lv (txt ws n) = k) (h0 : k ≠ 0) : e = .returned (.int .i64 (k : Int)) ∧ Hid (PrK ws sz w' rb a c (n + 1)) ∧ Hid (Turn [rb] w w') := by
  obtain ⟨h1, h2, h3⟩ := h
  rw [hk] at h1 h2
  rw [if_neg h0] at h2
  exact ⟨h1, h2, h3⟩
theorem RetKa.zero {ws : List WordV} {sz rb : Nat} {a : Option Addr} {c n lv : Nat} {w : World} {e : Ending} {w' : World} (h : RetKa ws sz rb a c n lv w e w') (hk : kindG lv (txt ws n) = 0) : e = .returned (.int .i64 0) ∧ Hid (PrK ws sz w' rb a c n) ∧ Hid (Turn [rb] w w') := by
  obtain ⟨h1, h2, h3⟩ := h
  rw [hk] at h1 h2
  rw [if_pos rfl] at h2
  exact ⟨h1, h2, h3⟩
theorem RetI.form {ws : List WordV} {sz rb : Nat} {a : Option Addr} {c : Nat} {r : PRes} {w : World} {e : Ending} {w' : World} (h : RetI ws sz rb a c r w e w') : (∃ k, e = .panicked (badChain ws sz k)) ∨ (∃ ty u, e = .returned (.iface ty u)) := by
  rcases h with ⟨k, _, h, _⟩ | ⟨_, _, ty, u, _, h, _⟩
  · exact .inl ⟨k, h⟩
  · exact .inr ⟨ty, u, h⟩
theorem RetI.from {ws : List WordV} {sz rb : Nat} {a : Option Addr} {c : Nat} {r : PRes} {w w1 : World} {e : Ending} {w' : World} (h : RetI ws sz rb a c r w1 e w') (t : Turn [rb] w w1) : RetI ws sz rb a c r w e w' := by
  rcases h with ⟨k, h1, h2, h3⟩ | ⟨x, k, ty, u, h1, h2, h3, h4, h5⟩
  · exact .inl ⟨k, h1, h2, hide (t.trans (unhide h3))⟩
  · exact .inr ⟨x, k, ty, u, h1, h2, h3, hide (t.trans (unhide h4)), hide ((unhide h5).mono t.size)⟩
set_option maxHeartbeats 6400000 in
set_option maxRecDepth 20000 in
theorem iexpr_one (ws : List WordV) (hw : ∀ x ∈ ws, WordIs x) (sz f : Nat) (HE : SaidIE ws sz f) (HL : SaidIL ws sz f) : SaidIE ws sz (f + 1) := by
  intro w rb a c n h hf
  have P0 := hide h
  have KA := hide (kindAt_any ws hw sz w rb a c n 0 (by omega) h)
  have hle := h.pr.le
  clear h
  rcases kindG_0 (txt ws n) with ⟨hk, ht⟩ | ⟨hk, ht⟩ | ⟨hk, ht⟩ | ⟨hk, n1, n2, n3⟩
  · have HR := hide (show parse ws (f + 1) .expr n = ifR ws f (n + 1) from by rw [parse, if_pos ht]; rfl)
    have HLT := txt_lt ht (by decide)
    have HF := hide (show needF (ws.length - (n + 1)) .expr < f from by simp only [needF] at hf ⊢; omega)
    rw [unhide HR]
    clear ht hf HR HLT
    go_enter Tryz.func70, Tryz.ntmps70
    go_wp2_with fail
    refine (unhide KA).mono ?_
    intro e w1 hr
    obtain ⟨rfl, P1, T1⟩ := hr.hit hk (by decide)
    clear hr KA hk
    go_wp2_with fail
    refine (ifRest_any ws hw sz f HE _ rb a c _ (unhide P1) (unhide HF)).mono ?_
    intro e w2 hr
    have HX := hide (hr.from (unhide T1))
    rcases hr.form with ⟨k, rfl⟩ | ⟨ty, u, rfl⟩
    · exact ⟨rfl, unhide HX⟩
    · clear hr
      go_wp2_with fail
      go_ret
      exact unhide HX
  · have HR := hide (show parse ws (f + 1) .expr n = letR ws f (n + 1) from by rw [parse, if_neg (by rw [ht]; decide), if_pos ht]; rfl)
    have HLT := txt_lt ht (by decide)
    have HF := hide (show needF (ws.length - (n + 1)) .expr < f from by simp only [needF] at hf ⊢; omega)
    rw [unhide HR]
    clear ht hf HR HLT
    go_enter Tryz.func70, Tryz.ntmps70
    go_wp2_with fail
    refine (unhide KA).mono ?_
    intro e w1 hr
    obtain ⟨rfl, P1, T1⟩ := hr.hit hk (by decide)
    clear hr KA hk
    go_wp2_with fail
    refine (letRest_any ws hw sz f HE _ rb a c _ (unhide P1) (unhide HF)).mono ?_
    intro e w2 hr
    have HX := hide (hr.from (unhide T1))
    rcases hr.form with ⟨k, rfl⟩ | ⟨ty, u, rfl⟩
    · exact ⟨rfl, unhide HX⟩
    · clear hr
      go_wp2_with fail
      go_ret
      exact unhide HX
  · have HR := hide (show parse ws (f + 1) .expr n = repR ws f (n + 1) from by rw [parse, if_neg (by rw [ht]; decide), if_neg (by rw [ht]; decide), if_pos ht]; rfl)
    have HLT := txt_lt ht (by decide)
    have HF := hide (show needF (ws.length - (n + 1)) .expr < f from by simp only [needF] at hf ⊢; omega)
    rw [unhide HR]
    clear ht hf HR HLT
    go_enter Tryz.func70, Tryz.ntmps70
    go_wp2_with fail
    refine (unhide KA).mono ?_
    intro e w1 hr
    obtain ⟨rfl, P1, T1⟩ := hr.hit hk (by decide)
    clear hr KA hk
    go_wp2_with fail
    refine (repRest_any ws hw sz f HE _ rb a c _ (unhide P1) (unhide HF)).mono ?_
    intro e w2 hr
    have HX := hide (hr.from (unhide T1))
    rcases hr.form with ⟨k, rfl⟩ | ⟨ty, u, rfl⟩
    · exact ⟨rfl, unhide HX⟩
    · clear hr
      go_wp2_with fail
      go_ret
      exact unhide HX
  · have HR := hide (show parse ws (f + 1) .expr n = parse ws f (.level 1) n from by rw [parse, if_neg n1, if_neg n2, if_neg n3])
    have HF := hide (show needF (ws.length - n) (.level 1) < f from by simp only [needF] at hf ⊢; omega)
    rw [unhide HR]
    clear n1 n2 n3 hf HR
    go_enter Tryz.func70, Tryz.ntmps70
    go_wp2_with fail
    refine (unhide KA).mono ?_
    intro e w1 hr
    obtain ⟨rfl, P1, T1⟩ := hr.zero hk
    clear hr KA hk
    go_wp2_with fail
    refine (HL 1 _ rb a c _ (by omega) (by omega) (unhide P1) (unhide HF)).mono ?_
    intro e w2 hr
    have HX := hide (hr.from (unhide T1))
    rcases hr.form with ⟨k, rfl⟩ | ⟨ty, u, rfl⟩
    · exact ⟨rfl, unhide HX⟩
    · clear hr
      go_wp2_with fail
      go_ret
      exact unhide HX
set_option maxHeartbeats 6400000 in
set_option maxRecDepth 20000 in
theorem iahead_one (ws : List WordV) (hw : ∀ x ∈ ws, WordIs x) (sz f : Nat) (HH : SaidIH ws sz f) (HA : SaidIA ws sz f) : SaidIH ws sz (f + 1) := by
  intro w rb a c n h hf
  have P0 := hide h
  have KA := hide (kindAt_any ws hw sz w rb a c n 6 (by omega) h)
  have hle := h.pr.le
  clear h
  rcases kindG_6 (txt ws n) with ⟨hk, ht⟩ | ⟨hk, ht⟩ | ⟨hk, n1, n2⟩
  · have HR := hide (show parse ws (f + 1) .ahead n = (parse ws f .ahead (n + 1)).then fun a n1 => .ok (node1 3 a) n1 from by rw [parse, if_pos ht])
    have HLT := txt_lt ht (by decide)
    have HF := hide (show needF (ws.length - (n + 1)) .ahead < f from by simp only [needF] at hf ⊢; omega)
    rw [unhide HR]
    clear ht hf HR HLT
    go_enter Tryz.func115, Tryz.ntmps115
    go_wp2_with fail
    refine (unhide KA).mono ?_
    intro e w1 hr
    obtain ⟨rfl, P1, T1⟩ := hr.hit hk (by decide)
    clear hr KA hk
    go_wp2_with fail
    refine (HH _ rb a c _ (unhide P1) (unhide HF)).mono ?_
    rintro e w2 (⟨k2, hp2, rfl, t2⟩ | ⟨x2, k2, y2, u2, hp2, rfl, p2, t2, f2⟩)
    · exact ⟨rfl, .inl ⟨k2, by rw [hp2]; rfl, rfl, hide ((unhide T1).trans (unhide t2))⟩⟩
    have T2 := hide ((unhide T1).trans (unhide t2))
    have R2 := hide (show ((parse ws f .ahead (n + 1)).then fun a n1 => .ok (node1 3 a) n1) = _ from by rw [hp2, ok_then])
    clear hp2 t2
    go_wp2_with fail
    go_ret
    exact .inr ⟨_, _, _, _, unhide R2, rfl, p2, T2, hide (forms_node ((unhide f2).mono (unhide T1).size) (.inr (.inr (.inl ⟨_, by simp, rfl, rfl⟩))))⟩
  · have HR := hide (show parse ws (f + 1) .ahead n = (parse ws f .ahead (n + 1)).then fun a n1 => .ok (node1 4 a) n1 from by rw [parse, if_neg (by rw [ht]; decide), if_pos ht])
    have HLT := txt_lt ht (by decide)
    have HF := hide (show needF (ws.length - (n + 1)) .ahead < f from by simp only [needF] at hf ⊢; omega)
    rw [unhide HR]
    clear ht hf HR HLT
    go_enter Tryz.func115, Tryz.ntmps115
    go_wp2_with fail
    refine (unhide KA).mono ?_
    intro e w1 hr
    obtain ⟨rfl, P1, T1⟩ := hr.hit hk (by decide)
    clear hr KA hk
    go_wp2_with fail
    refine (HH _ rb a c _ (unhide P1) (unhide HF)).mono ?_
    rintro e w2 (⟨k2, hp2, rfl, t2⟩ | ⟨x2, k2, y2, u2, hp2, rfl, p2, t2, f2⟩)
    · exact ⟨rfl, .inl ⟨k2, by rw [hp2]; rfl, rfl, hide ((unhide T1).trans (unhide t2))⟩⟩
    have T2 := hide ((unhide T1).trans (unhide t2))
    have R2 := hide (show ((parse ws f .ahead (n + 1)).then fun a n1 => .ok (node1 4 a) n1) = _ from by rw [hp2, ok_then])
    clear hp2 t2
    go_wp2_with fail
    go_ret
    exact .inr ⟨_, _, _, _, unhide R2, rfl, p2, T2, hide (forms_node ((unhide f2).mono (unhide T1).size) (.inr (.inr (.inl ⟨_, by simp, rfl, rfl⟩))))⟩
  · have HR := hide (show parse ws (f + 1) .ahead n = parse ws f .atom n from by rw [parse, if_neg n1, if_neg n2])
    have HF := hide (show needF (ws.length - n) .atom < f from by simp only [needF] at hf ⊢; omega)
    rw [unhide HR]
    clear n1 n2 hf HR
    go_enter Tryz.func115, Tryz.ntmps115
    go_wp2_with fail
    refine (unhide KA).mono ?_
    intro e w1 hr
    obtain ⟨rfl, P1, T1⟩ := hr.zero hk
    clear hr KA hk
    go_wp2_with fail
    refine (HA _ rb a c _ (unhide P1) (unhide HF)).mono ?_
    intro e w2 hr
    have HX := hide (hr.from (unhide T1))
    rcases hr.form with ⟨k, rfl⟩ | ⟨ty, u, rfl⟩
    · exact ⟨rfl, unhide HX⟩
    · clear hr
      go_wp2_with fail
      go_ret
      exact unhide HX
end Go.Proofs.YtkfhokeoooafnaaGreatDoor

set_option linter.unusedVariables false
namespace Go.Proofs.YtkfhokeoooafnaaGreatDoor
open Go.RowKit Go.Maps Go.Deep

theorem good_level {ws : List WordV} {f lv n k : Nat} {t : TreeV} (hle : n ≤ ws.length) (h1 : 1 ≤ lv) (h6 : lv ≤ 6) (h : needF (ws.length - n) (.level lv) < f) (hp : parse ws f (.level lv) n = .ok t k) : n < k := by
  have g := parse_good ws f (.level lv) n hle (show modeOk (.level lv) from ⟨h1, h6⟩) h
  rw [hp] at g
  exact g.1
set_option maxHeartbeats 6400000 in
set_option maxRecDepth 20000 in
theorem ilevel_one (ws : List WordV) (hw : ∀ x ∈ ws, WordIs x) (sz F : Nat) (HL : ∀ f', f' ≤ F → SaidIL ws sz f') (HH : SaidIH ws sz F) : SaidIL ws sz (F + 1) := by
  intro lv w rb a c n hl1 hl6 hp HF
  have HRB := hp.pr.lt
  by_cases h5 : 5 < lv
  · have e : lv = 6 := by omega
    subst e
    have P0 := hide hp
    have HR := hide (show parse ws (F + 1) (.level 6) n = parse ws F .ahead n from by rw [parse, if_pos (by omega)])
    have HFF : needF (ws.length - n) .ahead < F := by simp only [needF] at HF ⊢; omega
    rw [unhide HR]
    clear hp h5 hl1 hl6 HR
    go_enter Tryz.func98, Tryz.ntmps98
    go_wp2_with fail
    refine (HH _ rb a c _ (unhide P0) HFF).mono ?_
    intro e w2 hr
    have HX := hide hr
    rcases hr.form with ⟨k, rfl⟩ | ⟨ty, u, rfl⟩
    · exact ⟨rfl, unhide HX⟩
    · clear hr
      go_wp2_with fail
      go_ret
      exact unhide HX
  have hw1 : IntKind.i64.wrap ((lv : Int) + 1) = ((lv + 1 : Nat) : Int) := by rw [IntKind.wrap_i64]; omega
  have h6i : ((lv : Int) == 6) = false := by rw [beq_eq_false_iff_ne]; omega
  have P0 := hide hp
  have HFF : needF (ws.length - n) (.level (lv + 1)) < F := by simp only [needF] at HF ⊢; omega
  have HF2 := hide (show 10 * (ws.length - n) + 4 ≤ F by simp only [needF] at HF; omega)
  have hl5 : lv ≤ 5 := by omega
  have R0 := hide (show parse ws (F + 1) (.level lv) n = _ from by rw [parse, if_neg h5])
  clear HF h5
  generalize parse ws (F + 1) (.level lv) n = R at *
  go_enter Tryz.func98, Tryz.ntmps98
  go_wp2_with fail
  refine (HL F (Nat.le_refl _) (lv + 1) _ rb a c _ (by omega) (by omega) (unhide P0) HFF).mono ?_
  rintro e w1 (⟨k1, hp1, rfl, t1⟩ | ⟨x1, k1, y1, u1, hp1, rfl, p1, t1, f1⟩)
  · exact ⟨rfl, .inl ⟨k1, by rw [unhide R0, hp1]; rfl, rfl, t1⟩⟩
  have G1 := hide (good_level (unhide P0).pr.le (by omega) (by omega) HFF hp1)
  have R1 := unhide R0
  rw [hp1, ok_then] at R1
  replace R1 := hide R1
  clear hp1 R0
  go_wp2_with fail
  go_loopw [5] (fun av wr => ∃ (ty : TypeId) (u : Value) (t : TreeV) (k f' : Nat), av = .iface ty u ∧ Hid (PrK ws sz wr rb a c k) ∧ Hid (Turn [rb] w wr) ∧ Hid (FormsAre w.heap.size wr t.f [.iface ty u]) ∧ Hid (R = parse ws f' (.loop lv t) k ∧ f' ≤ F ∧ 10 * (ws.length - k) < f')) (fun _ wr => ws.length - (match wr.cell? ⟨rb, 1, none⟩ with | some (.int _ x) => x.toNat | _ => 0))
  case atStart => exact ⟨y1, u1, x1, k1, F, rfl, p1, t1, f1, hide ⟨unhide R1, Nat.le_refl _, by have := unhide G1; have := unhide HF2; omega⟩⟩
  case round =>
    clear R1 G1 f1 p1 t1
    obtain ⟨ty, u, t, k, f', rfl, PK, TK, FK, RK⟩ := hrel
    have c1 := (unhide PK).pr.box.triR.1.2.1
    have HC := hide c1
    obtain ⟨f2, rfl⟩ : ∃ f2, f' = f2 + 1 := ⟨f' - 1, by have := (unhide RK).2.2; omega⟩
    have KA := hide (kindAt_any ws hw sz wr rb a c k lv (by omega) (unhide PK))
    have RE := (unhide RK).1
    rw [parse] at RE
    have hkl := kindG_L (lv := lv) ⟨hl1, hl5⟩ (txt ws k)
    by_cases hz : kindG lv (txt ws k) = 0
    · have hz2 : kindL lv (txt ws k) = 0 := by rw [← hkl, hz]; rfl
      rw [if_pos hz2] at RE
      replace RE := hide RE
      clear hkl hz2 c1
      go_wp2_with fail
      refine (unhide KA).mono ?_
      intro e w2 hr
      obtain ⟨rfl, P2, T2⟩ := hr.zero hz
      have TT := hide ((unhide TK).trans (unhide T2))
      have FF := hide ((unhide FK).turnR (unhide T2) HRB)
      clear hr KA hz
      go_wp2_with fail
      go_ret
      exact .inr ⟨_, _, _, _, unhide RE, rfl, P2, TT, FF⟩
    · have hz2 : ¬ kindL lv (txt ws k) = 0 := by rw [← hkl]; omega
      rw [if_neg hz2] at RE
      have HLT := hide (kindG_lt hz)
      obtain ⟨kd, hkd⟩ : ∃ kd, kindG lv (txt ws k) = kd := ⟨_, rfl⟩
      have h0 : kd ≠ 0 := by rw [← hkd]; exact hz
      rw [← hkl, hkd] at RE
      have hkf : 5 ≤ (kd : Int) ∧ (kd : Int) ≤ 17 := by
        rcases kindL_fit lv (txt ws k) with e | e
        · exact absurd e hz2
        · rw [← hkl, hkd] at e; exact e
      have z1 : ((kd : Int) == 0) = false := by rw [beq_eq_false_iff_ne]; omega
      have HKF := hide hkf
      have HF3 : needF (ws.length - (k + 1)) (.level (lv + 1)) < f2 := by
        have := unhide HLT; have := (unhide RK).2.2
        simp only [needF]; omega
      have HLF := hide (HL f2 (by have := (unhide RK).2.1; omega))
      have HFl := hide (unhide RK).2
      replace RE := hide RE
      clear hkl hz2 hz c1 RK hkf
      go_wp2_with fail
      refine (unhide KA).mono ?_
      intro e w2 hr
      obtain ⟨rfl, P2, T2⟩ := hr.hit hkd h0
      have TT := hide ((unhide TK).trans (unhide T2))
      have FF := hide ((unhide FK).turnR (unhide T2) HRB)
      clear hr KA hkd T2 FK TK
      go_wp2_with fail
      refine (unhide HLF (lv + 1) _ rb a c _ (by omega) (by omega) (unhide P2) HF3).mono ?_
      rintro e w3 (⟨k3, hp3, rfl, t3⟩ | ⟨x3, k3, y3, u3, hp3, rfl, p3, t3, f3⟩)
      · exact ⟨rfl, .inl ⟨k3, by rw [unhide RE, hp3]; rfl, rfl, hide ((unhide TT).trans (unhide t3))⟩⟩
      have G3 := hide (good_level (unhide P2).pr.le (by omega) (by omega) HF3 hp3)
      have R3 := unhide RE
      rw [hp3, ok_then] at R3
      have T3 := hide ((unhide TT).trans (unhide t3))
      have F2 := hide ((unhide f3).mono (unhide TT).size)
      have F3 := hide ((unhide FF).turnR (unhide t3) HRB)
      have FN := hide (fun W (h1 : FormsAre w.heap.size W t.f [.iface ty u]) (h2 : FormsAre w.heap.size W x3.f [.iface y3 u3]) => show FormsAre w.heap.size W (node2 (kd : Int) ⟨#[]⟩ t x3).f [.iface 82 (.agg #[.int .i64 (kd : Int), .iface ty u, .iface y3 u3])] from forms_node (h1.app h2) (.inr (.inr (.inr (.inl ⟨_, _, unhide HKF, rfl, rfl⟩)))))
      clear hp3 t3 FF TT RE P2
      by_cases h3 : lv = 3
      · have q3 : ((lv : Int) == 3) = true := by rw [h3]; rfl
        rw [if_pos h3] at R3
        replace R3 := hide R3
        clear h3
        go_wp2_with fail
        go_ret
        exact .inr ⟨_, _, _, _, unhide R3, rfl, p3, T3, hide (unhide FN _ (unhide F3) (unhide F2))⟩
      · have q3 : ((lv : Int) == 3) = false := by rw [beq_eq_false_iff_ne]; omega
        rw [if_neg h3] at R3
        replace R3 := hide R3
        clear h3
        go_wp2_with fail
        go_roundw
        case rel => exact ⟨_, _, _, k3, f2, rfl, p3, T3, hide (unhide FN _ (unhide F3) (unhide F2)), hide ⟨unhide R3, by have := (unhide HFl).1; omega, by have := unhide G3; have := (unhide HFl).2; have := unhide HLT; omega⟩⟩
        case measure =>
          have m1 := (unhide p3).pr.box.triR.1.2.1
          have m2 := unhide HLT
          have m3 := (unhide p3).pr.le
          have m4 := unhide G3
          rw [unhide HC, m1]
          simp only [Int.toNat_natCast]
          omega
end Go.Proofs.YtkfhokeoooafnaaGreatDoor

namespace Go.Proofs
open Go.Shelf
def Tryz.lays172_ren : Go.Shelf.Ren := ⟨fun | 172 => 132 | 244 => 133 | 245 => 134 | 247 => 135 | 279 => 136 | 280 => 137 | 281 => 138 | 282 => 139 | 287 => 140 | 316 => 141 | 171 => 36 | 205 => 142 | 321 => 143 | 322 => 144 | 243 => 61 | 246 => 85 | 283 => 107 | 284 => 108 | 285 => 109 | 286 => 110 | 129 => 119 | 317 => 118 | 318 => 120 | 319 => 121 | 320 => 122 | 337 => 128 | 338 => 129 | n => n, fun | 9 => 9 | 3 => 3 | 75 => 45 | 76 => 160 | 4 => 4 | 5 => 5 | 167 => 202 | 37 => 22 | 0 => 0 | 85 => 203 | 2 => 2 | 168 => 205 | 53 => 182 | 175 => 208 | 46 => 194 | 210 => 211 | 127 => 187 | 145 => 216 | 143 => 214 | 21 => 21 | 171 => 181 | 173 => 185 | 212 => 190 | 51 => 191 | 20 => 20 | 213 => 192 | 232 => 199 | 233 => 200 | 80 => 110 | n => n, fun | 15 => 6 | 16 => 7 | 17 => 2 | 18 => 4 | 19 => 5 | n => n⟩
theorem Tryz.lays172 : Go.Proofs.Lays.n172 Tryz.prog Tryz.lays172_ren := {
  mixed := by kernel_rfl
  f129 := Tryz.func119.trans (congrArg some (by kernel_rfl))
  f171 := Tryz.func36.trans (congrArg some (by kernel_rfl))
  f172 := Tryz.func132.trans (congrArg some (by kernel_rfl))
  f205 := Tryz.func142.trans (congrArg some (by kernel_rfl))
  f243 := Tryz.func61.trans (congrArg some (by kernel_rfl))
  f244 := Tryz.func133.trans (congrArg some (by kernel_rfl))
  f245 := Tryz.func134.trans (congrArg some (by kernel_rfl))
  f246 := Tryz.func85.trans (congrArg some (by kernel_rfl))
  f247 := Tryz.func135.trans (congrArg some (by kernel_rfl))
  f279 := Tryz.func136.trans (congrArg some (by kernel_rfl))
  f280 := Tryz.func137.trans (congrArg some (by kernel_rfl))
  f281 := Tryz.func138.trans (congrArg some (by kernel_rfl))
  f282 := Tryz.func139.trans (congrArg some (by kernel_rfl))
  f283 := Tryz.func107.trans (congrArg some (by kernel_rfl))
  f284 := Tryz.func108.trans (congrArg some (by kernel_rfl))
  f285 := Tryz.func109.trans (congrArg some (by kernel_rfl))
  f286 := Tryz.func110.trans (congrArg some (by kernel_rfl))
  f287 := Tryz.func140.trans (congrArg some (by kernel_rfl))
  f316 := Tryz.func141.trans (congrArg some (by kernel_rfl))
  f317 := Tryz.func118.trans (congrArg some (by kernel_rfl))
  f318 := Tryz.func120.trans (congrArg some (by kernel_rfl))
  f319 := Tryz.func121.trans (congrArg some (by kernel_rfl))
  f320 := Tryz.func122.trans (congrArg some (by kernel_rfl))
  f321 := Tryz.func143.trans (congrArg some (by kernel_rfl))
  f322 := Tryz.func144.trans (congrArg some (by kernel_rfl))
  f337 := Tryz.func128.trans (congrArg some (by kernel_rfl))
  f338 := Tryz.func129.trans (congrArg some (by kernel_rfl))
  t0 := Tryz.underlying0
  a0 := Tryz.isAgg0
  z0 := Tryz.sizeOf0
  v0 := Tryz.zeroValue0
  t2 := Tryz.underlying2
  a2 := Tryz.isAgg2
  z2 := Tryz.sizeOf2
  v2 := Tryz.zeroValue2
  t3 := Tryz.underlying3
  a3 := Tryz.isAgg3
  z3 := Tryz.sizeOf3
  v3 := Tryz.zeroValue3
  t4 := Tryz.underlying4
  a4 := Tryz.isAgg4
  z4 := Tryz.sizeOf4
  v4 := Tryz.zeroValue4
  t5 := Tryz.underlying5
  a5 := Tryz.isAgg5
  z5 := Tryz.sizeOf5
  v5 := Tryz.zeroValue5
  t9 := Tryz.underlying9
  a9 := Tryz.isAgg9
  z9 := Tryz.sizeOf9
  v9 := Tryz.zeroValue9
  t20 := Tryz.underlying20
  a20 := Tryz.isAgg20
  z20 := Tryz.sizeOf20
  v20 := Tryz.zeroValue20
  t21 := Tryz.underlying21
  a21 := Tryz.isAgg21
  z21 := Tryz.sizeOf21
  v21 := Tryz.zeroValue21
  t37 := Tryz.underlying22
  a37 := Tryz.isAgg22
  z37 := Tryz.sizeOf22
  v37 := Tryz.zeroValue22
  t46 := Tryz.underlying194
  a46 := Tryz.isAgg194
  z46 := Tryz.sizeOf194
  v46 := Tryz.zeroValue194
  t51 := Tryz.underlying191
  a51 := Tryz.isAgg191
  z51 := Tryz.sizeOf191
  v51 := Tryz.zeroValue191
  t53 := Tryz.underlying182
  a53 := Tryz.isAgg182
  z53 := Tryz.sizeOf182
  v53 := Tryz.zeroValue182
  t75 := Tryz.underlying45
  a75 := Tryz.isAgg45
  z75 := Tryz.sizeOf45
  v75 := Tryz.zeroValue45
  t76 := Tryz.underlying160
  a76 := Tryz.isAgg160
  z76 := Tryz.sizeOf160
  v76 := Tryz.zeroValue160
  t85 := Tryz.underlying203
  a85 := Tryz.isAgg203
  z85 := Tryz.sizeOf203
  v85 := Tryz.zeroValue203
  t127 := Tryz.underlying187
  a127 := Tryz.isAgg187
  z127 := Tryz.sizeOf187
  v127 := Tryz.zeroValue187
  t143 := Tryz.underlying214
  a143 := Tryz.isAgg214
  z143 := Tryz.sizeOf214
  v143 := Tryz.zeroValue214
  t145 := Tryz.underlying216
  a145 := Tryz.isAgg216
  z145 := Tryz.sizeOf216
  v145 := Tryz.zeroValue216
  t167 := Tryz.underlying202
  a167 := Tryz.isAgg202
  z167 := Tryz.sizeOf202
  v167 := Tryz.zeroValue202
  t168 := Tryz.underlying205
  a168 := Tryz.isAgg205
  z168 := Tryz.sizeOf205
  v168 := Tryz.zeroValue205
  t171 := Tryz.underlying181
  a171 := Tryz.isAgg181
  z171 := Tryz.sizeOf181
  v171 := Tryz.zeroValue181
  t173 := Tryz.underlying185
  a173 := Tryz.isAgg185
  z173 := Tryz.sizeOf185
  v173 := Tryz.zeroValue185
  t175 := Tryz.underlying208
  a175 := Tryz.isAgg208
  z175 := Tryz.sizeOf208
  v175 := Tryz.zeroValue208
  t210 := Tryz.underlying211
  a210 := Tryz.isAgg211
  z210 := Tryz.sizeOf211
  v210 := Tryz.zeroValue211
  t212 := Tryz.underlying190
  a212 := Tryz.isAgg190
  z212 := Tryz.sizeOf190
  v212 := Tryz.zeroValue190
  t213 := Tryz.underlying192
  a213 := Tryz.isAgg192
  z213 := Tryz.sizeOf192
  t232 := Tryz.underlying199
  a232 := Tryz.isAgg199
  z232 := Tryz.sizeOf199
  v232 := Tryz.zeroValue199
  t233 := Tryz.underlying200
  a233 := Tryz.isAgg200
  z233 := Tryz.sizeOf200
  v233 := Tryz.zeroValue200
  g15 := by kernel_rfl
  g16 := by kernel_rfl
  g17 := by kernel_rfl
  g18 := by kernel_rfl
  g19 := by kernel_rfl }
open Go.RowKit in
/-- strconv.Atoi: "Atoi is equivalent to ParseInt(s, 10, 0), converted to type int.": AT A DECIMAL NUMERAL OF AT MOST 18 BYTES: its value, and a nil error. The world behind the call: the one new row that the library's '[]byte(s)' lays. (LAID: no walk: one application.) -/
theorem Tryz.strconv_Atoi (s : ByteArray) (n : Int) (hl : s.size ≤ 18) (h : Lib.atoi s.data.toList = some n) (w : World) :
    Calls Tryz.prog 132 #[.string s] w fun e w' => e = .returned (.tuple #[.int .i64 n, .nilIface]) ∧ ∃ t, w' = Lib.bytesWorld w 5 t := Any.strconv_Atoi Tryz.lays172 s n hl h w
end Go.Proofs
