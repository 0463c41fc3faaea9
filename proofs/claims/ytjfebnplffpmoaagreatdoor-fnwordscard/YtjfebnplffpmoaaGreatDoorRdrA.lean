/-
  The program's reader: what binds most; and all of it. (Made by wip/mkrdra.py.)
-/
import Derived.Test.YtjfebnplffpmoaaGreatDoorMerged43
import Derived.Test.YtjfebnplffpmoaaGreatDoorMerged44
import Derived.Test.YtjfebnplffpmoaaGreatDoorRdrCR
set_option linter.unusedVariables false
namespace Go.Proofs.YtjfebnplffpmoaaGreatDoor
open Go.RowKit Go.Maps Go.Deep

theorem txt_some {ws : List WordV} {n : Nat} {s : ByteArray} (h : txt ws n = s) (hs : s ≠ ⟨#[]⟩) : ∃ x, ws[n]? = some x ∧ 3 ≤ x.a0 ∧ x.a1 = s := by
  unfold txt at h
  split at h
  · rename_i x hx
    split at h
    · rename_i h3; exact ⟨x, hx, h3, h⟩
    · exact absurd h.symm hs
  · exact absurd h.symm hs
theorem atom_pair {ws : List WordV} {f n : Nat} (h : txt ws n = kMin ∨ txt ws n = kMax) : parse ws (f + 1) .atom n = pairR ws f (if txt ws n = kMin then 18 else 19) n := by
  obtain ⟨x, hx, h3, hs⟩ : ∃ x, ws[n]? = some x ∧ 3 ≤ x.a0 ∧ x.a1 = txt ws n := by
    rcases h with h | h
    · obtain ⟨x, a, b, c⟩ := txt_some h (by decide); exact ⟨x, a, b, c.trans h.symm⟩
    · obtain ⟨x, a, b, c⟩ := txt_some h (by decide); exact ⟨x, a, b, c.trans h.symm⟩
  rw [← hs] at h ⊢
  rw [parse, hx]
  simp only
  rw [if_neg (by omega), if_neg (by omega), if_pos h]
  rfl
theorem atom_abs {ws : List WordV} {f n : Nat} (h : txt ws n = kAbs) : parse ws (f + 1) .atom n = absR ws f n := by
  obtain ⟨x, hx, h3, hs⟩ := txt_some h (by decide)
  rw [parse, hx]
  simp only
  rw [if_neg (by omega), if_neg (by omega), if_neg (by rw [hs]; decide), if_pos hs]
  rfl
theorem atom_open {ws : List WordV} {f n : Nat} (h : txt ws n = sOpen) : parse ws (f + 1) .atom n = openR ws f n := by
  obtain ⟨x, hx, h3, hs⟩ := txt_some h (by decide)
  rw [parse, hx]
  simp only
  rw [if_neg (by omega), if_neg (by omega), if_neg (by rw [hs]; decide), if_neg (by rw [hs]; decide), if_pos hs]
  rfl
theorem isT_some {ws : List WordV} {n : Nat} {k : Int} (h : isT ws n k = true) : ∃ hn : n < ws.length, ws[n].a0 = k := by
  unfold isT at h
  split at h
  · rename_i x hx
    obtain ⟨hn, e⟩ := List.getElem?_eq_some_iff.1 hx
    subst e
    exact ⟨hn, by simpa using h⟩
  · cases h
theorem atom_num {ws : List WordV} {f n : Nat} (hn : n < ws.length) (h : ws[n].a0 = 1) : parse ws (f + 1) .atom n = .ok (node0 1 (numTextV ws[n].a1) ⟨#[]⟩) (n + 1) := by
  rw [parse, List.getElem?_eq_getElem hn]
  simp only
  rw [if_pos h]
theorem atom_name {ws : List WordV} {f n : Nat} (hn : n < ws.length) (h : ws[n].a0 = 2) : parse ws (f + 1) .atom n = .ok (node0 2 0 ws[n].a1) (n + 1) := by
  rw [parse, List.getElem?_eq_getElem hn]
  simp only
  rw [if_neg (by rw [h]; decide), if_pos h]
theorem atom_bad {ws : List WordV} (hw : ∀ x ∈ ws, WordIs x) {f n : Nat} (n1 : txt ws n ≠ kMin) (n2 : txt ws n ≠ kMax) (n3 : txt ws n ≠ kAbs) (n4 : txt ws n ≠ sOpen) (h1 : isT ws n 1 = false) (h2 : isT ws n 2 = false) : parse ws (f + 1) .atom n = .bad n := by
  rw [parse]
  split
  · rfl
  · rename_i x hx
    obtain ⟨hn, e⟩ := List.getElem?_eq_some_iff.1 hx
    subst e
    unfold isT at h1 h2
    rw [hx] at h1 h2
    simp only [beq_eq_false_iff_ne] at h1 h2
    have k1 : ws[n].a1 ≠ kMin := fun e => n1 ((txt_iff hw hn (.inl (by decide))).1 e)
    have k2 : ws[n].a1 ≠ kMax := fun e => n2 ((txt_iff hw hn (.inl (by decide))).1 e)
    have k3 : ws[n].a1 ≠ kAbs := fun e => n3 ((txt_iff hw hn (.inl (by decide))).1 e)
    have k4 : ws[n].a1 ≠ sOpen := fun e => n4 ((txt_iff hw hn (.inr (by decide))).1 e)
    rw [if_neg h1, if_neg h2, if_neg (by rintro (e | e); exact k1 e; exact k2 e), if_neg k3, if_neg k4]
set_option maxHeartbeats 6400000 in
set_option maxRecDepth 20000 in
theorem iatom_one (ws : List WordV) (hw : ∀ x ∈ ws, WordIs x) (sz f : Nat) (HE : SaidIE ws sz f) : SaidIA ws sz (f + 1) := by
  intro w rb a c n h hf
  have HRB := h.pr.lt
  have P0 := hide h
  have KA := hide (kindAt_any ws hw sz w rb a c n 7 (by omega) h)
  have hle := h.pr.le
  clear h
  rcases kindG_7 (txt ws n) with ⟨hk, ht⟩ | ⟨hk, ht⟩ | ⟨hk, ht⟩ | ⟨hk, n1, n2, n3⟩
  · have HR := hide (show parse ws (f + 1) .atom n = pairR ws f 18 n from by rw [atom_pair (.inl ht), if_pos ht])
    have HLT := txt_lt ht (by decide)
    have HF := hide (show needF (ws.length - (n + 1)) .expr < f from by simp only [needF] at hf ⊢; omega)
    rw [unhide HR]
    clear ht hf HR HLT
    go_enter Tryz.func79, Tryz.ntmps79
    go_wp2_with fail
    refine (unhide KA).mono ?_
    intro e w1 hr
    obtain ⟨rfl, P1, T1⟩ := hr.hit hk (by decide)
    clear hr KA hk
    go_wp2_with fail
    refine (callPair18 ws hw sz f HE _ rb a c n (unhide P1) (unhide HF)).mono ?_
    intro e w2 hr
    have HX := hide (hr.from (unhide T1))
    rcases hr.form with ⟨k, rfl⟩ | ⟨ty, u, rfl⟩
    · exact ⟨rfl, unhide HX⟩
    · clear hr
      go_wp2_with fail
      go_ret
      exact unhide HX
  · have HR := hide (show parse ws (f + 1) .atom n = pairR ws f 19 n from by rw [atom_pair (.inr ht), if_neg (by rw [ht]; decide)])
    have HLT := txt_lt ht (by decide)
    have HF := hide (show needF (ws.length - (n + 1)) .expr < f from by simp only [needF] at hf ⊢; omega)
    rw [unhide HR]
    clear ht hf HR HLT
    go_enter Tryz.func79, Tryz.ntmps79
    go_wp2_with fail
    refine (unhide KA).mono ?_
    intro e w1 hr
    obtain ⟨rfl, P1, T1⟩ := hr.hit hk (by decide)
    clear hr KA hk
    go_wp2_with fail
    refine (callPair19 ws hw sz f HE _ rb a c n (unhide P1) (unhide HF)).mono ?_
    intro e w2 hr
    have HX := hide (hr.from (unhide T1))
    rcases hr.form with ⟨k, rfl⟩ | ⟨ty, u, rfl⟩
    · exact ⟨rfl, unhide HX⟩
    · clear hr
      go_wp2_with fail
      go_ret
      exact unhide HX
  · have HR := hide (show parse ws (f + 1) .atom n = absR ws f n from atom_abs ht)
    have HLT := txt_lt ht (by decide)
    have HF := hide (show needF (ws.length - (n + 1)) .expr < f from by simp only [needF] at hf ⊢; omega)
    rw [unhide HR]
    clear ht hf HR HLT
    go_enter Tryz.func79, Tryz.ntmps79
    go_wp2_with fail
    refine (unhide KA).mono ?_
    intro e w1 hr
    obtain ⟨rfl, P1, T1⟩ := hr.hit hk (by decide)
    clear hr KA hk
    go_wp2_with fail
    refine (callAbs ws hw sz f HE _ rb a c n (unhide P1) (unhide HF)).mono ?_
    intro e w2 hr
    have HX := hide (hr.from (unhide T1))
    rcases hr.form with ⟨k, rfl⟩ | ⟨ty, u, rfl⟩
    · exact ⟨rfl, unhide HX⟩
    · clear hr
      go_wp2_with fail
      go_ret
      exact unhide HX
  have HAS := hide (fun W (hp : PrI ws sz W rb a c n) => hasT_any ws sz W rb a c n sOpen hp)
  rw [has_txt hw n (.inr (by decide))] at HAS
  have HNX := hide (fun W (hp : PrI ws sz W rb a c n) => nextIs_any ws sz W rb a c n 1 hp)
  have HMB := hide (fun W (hp : PrI ws sz W rb a c n) => mustBe_any ws sz W rb a c n 2 hp)
  by_cases ht : txt ws n = sOpen
  · have HR := hide (show parse ws (f + 1) .atom n = openR ws f n from atom_open ht)
    have HLT := hide (txt_lt ht (by decide))
    have HF := hide (show needF (ws.length - (n + 1)) .expr < f from by have := unhide HLT; simp only [needF] at hf ⊢; omega)
    have hw1 : IntKind.i64.wrap ((n : Int) + 1) = (n : Int) + 1 := by have := (unhide P0).pr.len; have := unhide HLT; rw [IntKind.wrap_i64]; omega
    rw [unhide HR]
    rw [decide_eq_true ht] at HAS
    clear ht hf HR n1 n2 n3 HNX HMB
    go_enter Tryz.func79, Tryz.ntmps79
    go_wp2_with fail
    refine (unhide KA).mono ?_
    intro e w1 hr
    obtain ⟨rfl, P1, T1⟩ := hr.zero hk
    clear hr KA hk P0
    go_wp2_with fail
    refine (unhide HAS _ (unhide P1).pr).mono ?_
    rintro e w2 ⟨rfl, b2⟩
    have P2 := hide ((unhide P1).up b2)
    have T2 := hide ((unhide T1).trans (Turn.of_below b2))
    have S2 := hide ((unhide P2).pr.step (unhide HLT))
    obtain ⟨⟨c0, c1, c2⟩, f0, f1, f2⟩ := (unhide P2).pr.box.triR
    clear b2 P1 T1
    go_wp2_with fail
    have P3 := hide ((unhide P2).next (unhide S2).2 (unhide S2).1)
    have T3 := hide ((unhide T2).trans (unhide S2).2)
    clear P2 T2 S2 c0 c1 c2 f0 f1 f2
    generalize w2.setCell ⟨rb, 1, none⟩ (.int .i64 ((n : Int) + 1)) = W3 at *
    refine (HE _ rb a c _ (unhide P3) (unhide HF)).mono ?_
    rintro e w4 (⟨k4, hp4, rfl, t4⟩ | ⟨x4, k4, y4, u4, hp4, rfl, p4, t4, f4⟩)
    · exact ⟨rfl, .inl ⟨k4, by unfold openR; rw [hp4]; rfl, rfl, hide ((unhide T3).trans (unhide t4))⟩⟩
    have T4 := hide ((unhide T3).trans (unhide t4))
    have F4 := hide ((unhide f4).mono (unhide T3).size)
    have R4 : openR ws f n = _ := rfl
    rw [openR, hp4, ok_then] at R4
    replace R4 := hide R4
    clear T3 t4 f4
    go_wp2_with fail
    refine (must_any ws hw sz _ rb a c _ sShut (.inr (by decide)) (by decide) (unhide p4).pr).mono ?_
    rintro e w5 (⟨m5, rfl, p5, t5⟩ | ⟨m5, rfl, t5⟩)
    rotate_left
    · exact ⟨rfl, .inl ⟨k4, by unfold openR; rw [hp4]; exact must_no m5, rfl, hide ((unhide T4).trans (unhide t5))⟩⟩
    have RR := hide (show openR ws f n = .ok x4 (k4 + 1) from by unfold openR; rw [hp4]; exact must_yes m5)
    have P5 := hide ((unhide p4).next (unhide t5) (unhide p5))
    have T5 := hide ((unhide T4).trans (unhide t5))
    have F5 := hide ((unhide F4).turnR (unhide t5) HRB)
    clear hp4 R4 T4 F4 p5 t5 m5 p4
    go_wp2_with fail
    go_ret
    exact .inr ⟨_, _, _, _, unhide RR, rfl, P5, T5, F5⟩
  rw [decide_eq_false ht] at HAS
  cases h1 : isT ws n 1
  · rw [h1] at HNX
    have HB := hide (fun (h2 : isT ws n 2 = false) => show parse ws (f + 1) .atom n = .bad n from atom_bad hw n1 n2 n3 ht h1 h2)
    have HN := hide (fun (hn : n < ws.length) (h2 : ws[n].a0 = 2) => show parse ws (f + 1) .atom n = _ from atom_name hn h2)
    clear n1 n2 n3 h1 ht hf
    generalize parse ws (f + 1) .atom n = R at *
    go_enter Tryz.func79, Tryz.ntmps79
    go_wp2_with fail
    refine (unhide KA).mono ?_
    intro e w1 hr
    obtain ⟨rfl, P1, T1⟩ := hr.zero hk
    clear hr KA hk P0
    go_wp2_with fail
    refine (unhide HAS _ (unhide P1).pr).mono ?_
    rintro e w2 ⟨rfl, b2⟩
    have P2 := hide ((unhide P1).up b2)
    have T2 := hide ((unhide T1).trans (Turn.of_below b2))
    clear b2 P1 T1
    go_wp2_with fail
    refine (unhide HNX _ (unhide P2).pr).mono ?_
    rintro e w3 ⟨rfl, b3⟩
    have P3 := hide ((unhide P2).up b3)
    have T3 := hide ((unhide T2).trans (Turn.of_below b3))
    clear b3 P2 T2
    go_wp2_with fail
    refine (unhide HMB _ (unhide P3).pr).mono ?_
    rintro e w4 (⟨hl, hk2, rfl, p4, t4⟩ | ⟨h2, rfl, t4⟩)
    rotate_left
    · exact ⟨rfl, .inl ⟨n, unhide HB h2, rfl, hide ((unhide T3).trans (unhide t4))⟩⟩
    have RR := hide (unhide HN hl hk2)
    have P4 := hide ((unhide P3).next (unhide t4) (unhide p4))
    have T4 := hide ((unhide T3).trans (unhide t4))
    clear HB HN hk2 P3 T3 p4 t4
    generalize ws[n].a1 = tx at *
    go_wp2_with fail
    go_ret
    exact .inr ⟨_, _, _, _, unhide RR, rfl, P4, T4, hide (forms_node (show FormsAre w.heap.size _ .nil [] from rfl) (.inr (.inl ⟨rfl, rfl, rfl⟩)))⟩
  · rw [h1] at HNX
    obtain ⟨hn, hk1⟩ := isT_some h1
    have HN := hide (atom_num (f := f) hn hk1)
    have HNU := hide (fun W (hp : PrK ws sz W rb a c n) => number_any ws hw sz W rb a c n hn hk1 hp)
    clear n1 n2 n3 h1 ht hf hk1
    rw [unhide HN]
    generalize PRes.ok (node0 1 (numTextV ws[n].a1) ⟨#[]⟩) (n + 1) = R at *
    go_enter Tryz.func79, Tryz.ntmps79
    go_wp2_with fail
    refine (unhide KA).mono ?_
    intro e w1 hr
    obtain ⟨rfl, P1, T1⟩ := hr.zero hk
    clear hr KA hk P0
    go_wp2_with fail
    refine (unhide HAS _ (unhide P1).pr).mono ?_
    rintro e w2 ⟨rfl, b2⟩
    have P2 := hide ((unhide P1).up b2)
    have T2 := hide ((unhide T1).trans (Turn.of_below b2))
    clear b2 P1 T1
    go_wp2_with fail
    refine (unhide HNX _ (unhide P2).pr).mono ?_
    rintro e w3 ⟨rfl, b3⟩
    have P3 := hide ((unhide P2).up b3)
    have T3 := hide ((unhide T2).trans (Turn.of_below b3))
    clear b3 P2 T2
    go_wp2_with fail
    refine (unhide HNU _ (unhide P3)).mono ?_
    intro e w4 hr
    have HX := hide (hr.from (unhide T3))
    rcases hr.form with ⟨k, rfl⟩ | ⟨ty, u, rfl⟩
    · exact ⟨rfl, unhide HX⟩
    · clear hr
      go_wp2_with fail
      go_ret
      exact unhide HX
theorem isaid_all (ws : List WordV) (hw : ∀ x ∈ ws, WordIs x) (sz : Nat) : ∀ f, SaidIE ws sz f ∧ SaidIL ws sz f ∧ SaidIH ws sz f ∧ SaidIA ws sz f := by
  intro f
  induction f using Nat.strongRecOn with
  | ind f ih =>
    cases f with
    | zero => exact ⟨fun _ _ _ _ _ _ h => by omega, fun _ _ _ _ _ _ _ _ _ h => by omega, fun _ _ _ _ _ _ h => by omega, fun _ _ _ _ _ _ h => by omega⟩
    | succ f =>
      have h := ih f (by omega)
      exact ⟨iexpr_one ws hw sz f h.1 h.2.1, ilevel_one ws hw sz f (fun f' hf => (ih f' (by omega)).2.1) h.2.2.1, iahead_one ws hw sz f h.2.2.1 h.2.2.2, iatom_one ws hw sz f h.1⟩
end Go.Proofs.YtjfebnplffpmoaaGreatDoor
