/-
  The program's reader: what binds most; and all of it. (Made by wip/mkrdra.py.)
-/
/-
  What the nodes of a tree that was read are: mathematics alone.
-/
/-
  The program makes the form of a tree out of its nodes, and tells how deep it is.
-/
import Derived.Test.YtldgffkippejiaaGreatDoorMerged22
import Derived.Test.YtldgffkippejiaaGreatDoorMerged23
import Derived.Test.YtldgffkippejiaaGreatDoorRdrCR
import Derived.Test.YtldgffkippejiaaGreatDoorReadM
import Derived.Test.YtldgffkippejiaaGreatDoorMerged13
import Derived.Test.YtldgffkippejiaaGreatDoorForms
set_option linter.unusedVariables false
namespace Go.Proofs.YtldgffkippejiaaGreatDoor
open Go.RowKit Go.Maps Go.Deep

theorem txt_some {ws : List WordV} {n : Nat} {s : ByteArray} (h : txt ws n = s) (hs : s ≠ ⟨#[]⟩) : ∃ x, ws[n]? = some x ∧ 3 ≤ x.a0 ∧ x.a1 = s := by
  unfold txt at h
  split at h
  · rename_i x hx
    split at h
    · rename_i h3; exact ⟨x, hx, h3, h⟩
    · exact absurd h.symm hs
  · exact absurd h.symm hs
theorem atom_pair {ws : List WordV} {f n : Nat} (h : txt ws n = kMin ∨ txt ws n = kMax) : parse ws (f + 1) .atom n = pairR ws f (if txt ws n = kMin then 18 else 19) n := by
  obtain ⟨x, hx, h3, hs⟩ : ∃ x, ws[n]? = some x ∧ 3 ≤ x.a0 ∧ x.a1 = txt ws n := by
    rcases h with h | h
    · obtain ⟨x, a, b, c⟩ := txt_some h (by decide); exact ⟨x, a, b, c.trans h.symm⟩
    · obtain ⟨x, a, b, c⟩ := txt_some h (by decide); exact ⟨x, a, b, c.trans h.symm⟩
  rw [← hs] at h ⊢
  rw [parse, hx]
  simp only
  rw [if_neg (by omega), if_neg (by omega), if_pos h]
  rfl
theorem atom_abs {ws : List WordV} {f n : Nat} (h : txt ws n = kAbs) : parse ws (f + 1) .atom n = absR ws f n := by
  obtain ⟨x, hx, h3, hs⟩ := txt_some h (by decide)
  rw [parse, hx]
  simp only
  rw [if_neg (by omega), if_neg (by omega), if_neg (by rw [hs]; decide), if_pos hs]
  rfl
theorem atom_open {ws : List WordV} {f n : Nat} (h : txt ws n = sOpen) : parse ws (f + 1) .atom n = openR ws f n := by
  obtain ⟨x, hx, h3, hs⟩ := txt_some h (by decide)
  rw [parse, hx]
  simp only
  rw [if_neg (by omega), if_neg (by omega), if_neg (by rw [hs]; decide), if_neg (by rw [hs]; decide), if_pos hs]
  rfl
theorem isT_some {ws : List WordV} {n : Nat} {k : Int} (h : isT ws n k = true) : ∃ hn : n < ws.length, ws[n].a0 = k := by
  unfold isT at h
  split at h
  · rename_i x hx
    obtain ⟨hn, e⟩ := List.getElem?_eq_some_iff.1 hx
    subst e
    exact ⟨hn, by simpa using h⟩
  · cases h
theorem atom_num {ws : List WordV} {f n : Nat} (hn : n < ws.length) (h : ws[n].a0 = 1) : parse ws (f + 1) .atom n = .ok (node0 1 (numTextV ws[n].a1) ⟨#[]⟩) (n + 1) := by
  rw [parse, List.getElem?_eq_getElem hn]
  simp only
  rw [if_pos h]
theorem atom_name {ws : List WordV} {f n : Nat} (hn : n < ws.length) (h : ws[n].a0 = 2) : parse ws (f + 1) .atom n = .ok (node0 2 0 ws[n].a1) (n + 1) := by
  rw [parse, List.getElem?_eq_getElem hn]
  simp only
  rw [if_neg (by rw [h]; decide), if_pos h]
theorem atom_bad {ws : List WordV} (hw : ∀ x ∈ ws, WordIs x) {f n : Nat} (n1 : txt ws n ≠ kMin) (n2 : txt ws n ≠ kMax) (n3 : txt ws n ≠ kAbs) (n4 : txt ws n ≠ sOpen) (h1 : isT ws n 1 = false) (h2 : isT ws n 2 = false) : parse ws (f + 1) .atom n = .bad n := by
  rw [parse]
  split
  · rfl
  · rename_i x hx
    obtain ⟨hn, e⟩ := List.getElem?_eq_some_iff.1 hx
    subst e
    unfold isT at h1 h2
    rw [hx] at h1 h2
    simp only [beq_eq_false_iff_ne] at h1 h2
    have k1 : ws[n].a1 ≠ kMin := fun e => n1 ((txt_iff hw hn (.inl (by decide))).1 e)
    have k2 : ws[n].a1 ≠ kMax := fun e => n2 ((txt_iff hw hn (.inl (by decide))).1 e)
    have k3 : ws[n].a1 ≠ kAbs := fun e => n3 ((txt_iff hw hn (.inl (by decide))).1 e)
    have k4 : ws[n].a1 ≠ sOpen := fun e => n4 ((txt_iff hw hn (.inr (by decide))).1 e)
    rw [if_neg h1, if_neg h2, if_neg (by rintro (e | e); exact k1 e; exact k2 e), if_neg k3, if_neg k4]
set_option maxHeartbeats 6400000 in
set_option maxRecDepth 20000 in
theorem iatom_one (ws : List WordV) (hw : ∀ x ∈ ws, WordIs x) (sz f : Nat) (HE : SaidIE ws sz f) : SaidIA ws sz (f + 1) := by
  intro w rb a c n h hf
  have HRB := h.pr.lt
  have P0 := hide h
  have KA := hide (kindAt_any ws hw sz w rb a c n 7 (by omega) h)
  have hle := h.pr.le
  clear h
  rcases kindG_7 (txt ws n) with ⟨hk, ht⟩ | ⟨hk, ht⟩ | ⟨hk, ht⟩ | ⟨hk, n1, n2, n3⟩
  · have HR := hide (show parse ws (f + 1) .atom n = pairR ws f 18 n from by rw [atom_pair (.inl ht), if_pos ht])
    have HLT := txt_lt ht (by decide)
    have HF := hide (show needF (ws.length - (n + 1)) .expr < f from by simp only [needF] at hf ⊢; omega)
    rw [unhide HR]
    clear ht hf HR HLT
    go_enter Tryz.func126, Tryz.ntmps126
    go_wp2_with fail
    refine (unhide KA).mono ?_
    intro e w1 hr
    obtain ⟨rfl, P1, T1⟩ := hr.hit hk (by decide)
    clear hr KA hk
    go_wp2_with fail
    refine (callPair18 ws hw sz f HE _ rb a c n (unhide P1) (unhide HF)).mono ?_
    intro e w2 hr
    have HX := hide (hr.from (unhide T1))
    rcases hr.form with ⟨k, rfl⟩ | ⟨ty, u, rfl⟩
    · exact ⟨rfl, unhide HX⟩
    · clear hr
      go_wp2_with fail
      go_ret
      exact unhide HX
  · have HR := hide (show parse ws (f + 1) .atom n = pairR ws f 19 n from by rw [atom_pair (.inr ht), if_neg (by rw [ht]; decide)])
    have HLT := txt_lt ht (by decide)
    have HF := hide (show needF (ws.length - (n + 1)) .expr < f from by simp only [needF] at hf ⊢; omega)
    rw [unhide HR]
    clear ht hf HR HLT
    go_enter Tryz.func126, Tryz.ntmps126
    go_wp2_with fail
    refine (unhide KA).mono ?_
    intro e w1 hr
    obtain ⟨rfl, P1, T1⟩ := hr.hit hk (by decide)
    clear hr KA hk
    go_wp2_with fail
    refine (callPair19 ws hw sz f HE _ rb a c n (unhide P1) (unhide HF)).mono ?_
    intro e w2 hr
    have HX := hide (hr.from (unhide T1))
    rcases hr.form with ⟨k, rfl⟩ | ⟨ty, u, rfl⟩
    · exact ⟨rfl, unhide HX⟩
    · clear hr
      go_wp2_with fail
      go_ret
      exact unhide HX
  · have HR := hide (show parse ws (f + 1) .atom n = absR ws f n from atom_abs ht)
    have HLT := txt_lt ht (by decide)
    have HF := hide (show needF (ws.length - (n + 1)) .expr < f from by simp only [needF] at hf ⊢; omega)
    rw [unhide HR]
    clear ht hf HR HLT
    go_enter Tryz.func126, Tryz.ntmps126
    go_wp2_with fail
    refine (unhide KA).mono ?_
    intro e w1 hr
    obtain ⟨rfl, P1, T1⟩ := hr.hit hk (by decide)
    clear hr KA hk
    go_wp2_with fail
    refine (callAbs ws hw sz f HE _ rb a c n (unhide P1) (unhide HF)).mono ?_
    intro e w2 hr
    have HX := hide (hr.from (unhide T1))
    rcases hr.form with ⟨k, rfl⟩ | ⟨ty, u, rfl⟩
    · exact ⟨rfl, unhide HX⟩
    · clear hr
      go_wp2_with fail
      go_ret
      exact unhide HX
  have HAS := hide (fun W (hp : PrI ws sz W rb a c n) => hasT_any ws sz W rb a c n sOpen hp)
  rw [has_txt hw n (.inr (by decide))] at HAS
  have HNX := hide (fun W (hp : PrI ws sz W rb a c n) => nextIs_any ws sz W rb a c n 1 hp)
  have HMB := hide (fun W (hp : PrI ws sz W rb a c n) => mustBe_any ws sz W rb a c n 2 hp)
  by_cases ht : txt ws n = sOpen
  · have HR := hide (show parse ws (f + 1) .atom n = openR ws f n from atom_open ht)
    have HLT := hide (txt_lt ht (by decide))
    have HF := hide (show needF (ws.length - (n + 1)) .expr < f from by have := unhide HLT; simp only [needF] at hf ⊢; omega)
    have hw1 : IntKind.i64.wrap ((n : Int) + 1) = (n : Int) + 1 := by have := (unhide P0).pr.len; have := unhide HLT; rw [IntKind.wrap_i64]; omega
    rw [unhide HR]
    rw [decide_eq_true ht] at HAS
    clear ht hf HR n1 n2 n3 HNX HMB
    go_enter Tryz.func126, Tryz.ntmps126
    go_wp2_with fail
    refine (unhide KA).mono ?_
    intro e w1 hr
    obtain ⟨rfl, P1, T1⟩ := hr.zero hk
    clear hr KA hk P0
    go_wp2_with fail
    refine (unhide HAS _ (unhide P1).pr).mono ?_
    rintro e w2 ⟨rfl, b2⟩
    have P2 := hide ((unhide P1).up b2)
    have T2 := hide ((unhide T1).trans (Turn.of_below b2))
    have S2 := hide ((unhide P2).pr.step (unhide HLT))
    obtain ⟨⟨c0, c1, c2⟩, f0, f1, f2⟩ := (unhide P2).pr.box.triR
    clear b2 P1 T1
    go_wp2_with fail
    have P3 := hide ((unhide P2).next (unhide S2).2 (unhide S2).1)
    have T3 := hide ((unhide T2).trans (unhide S2).2)
    clear P2 T2 S2 c0 c1 c2 f0 f1 f2
    generalize w2.setCell ⟨rb, 1, none⟩ (.int .i64 ((n : Int) + 1)) = W3 at *
    refine (HE _ rb a c _ (unhide P3) (unhide HF)).mono ?_
    rintro e w4 (⟨k4, hp4, rfl, t4⟩ | ⟨x4, k4, y4, u4, hp4, rfl, p4, t4, f4⟩)
    · exact ⟨rfl, .inl ⟨k4, by unfold openR; rw [hp4]; rfl, rfl, hide ((unhide T3).trans (unhide t4))⟩⟩
    have T4 := hide ((unhide T3).trans (unhide t4))
    have F4 := hide ((unhide f4).mono (unhide T3).size)
    have R4 : openR ws f n = _ := rfl
    rw [openR, hp4, ok_then] at R4
    replace R4 := hide R4
    clear T3 t4 f4
    go_wp2_with fail
    refine (must_any ws hw sz _ rb a c _ sShut (.inr (by decide)) (by decide) (unhide p4).pr).mono ?_
    rintro e w5 (⟨m5, rfl, p5, t5⟩ | ⟨m5, rfl, t5⟩)
    rotate_left
    · exact ⟨rfl, .inl ⟨k4, by unfold openR; rw [hp4]; exact must_no m5, rfl, hide ((unhide T4).trans (unhide t5))⟩⟩
    have RR := hide (show openR ws f n = .ok x4 (k4 + 1) from by unfold openR; rw [hp4]; exact must_yes m5)
    have P5 := hide ((unhide p4).next (unhide t5) (unhide p5))
    have T5 := hide ((unhide T4).trans (unhide t5))
    have F5 := hide ((unhide F4).turnR (unhide t5) HRB)
    clear hp4 R4 T4 F4 p5 t5 m5 p4
    go_wp2_with fail
    go_ret
    exact .inr ⟨_, _, _, _, unhide RR, rfl, P5, T5, F5⟩
  rw [decide_eq_false ht] at HAS
  cases h1 : isT ws n 1
  · rw [h1] at HNX
    have HB := hide (fun (h2 : isT ws n 2 = false) => show parse ws (f + 1) .atom n = .bad n from atom_bad hw n1 n2 n3 ht h1 h2)
    have HN := hide (fun (hn : n < ws.length) (h2 : ws[n].a0 = 2) => show parse ws (f + 1) .atom n = _ from atom_name hn h2)
    clear n1 n2 n3 h1 ht hf
    generalize parse ws (f + 1) .atom n = R at *
    go_enter Tryz.func126, Tryz.ntmps126
    go_wp2_with fail
    refine (unhide KA).mono ?_
    intro e w1 hr
    obtain ⟨rfl, P1, T1⟩ := hr.zero hk
    clear hr KA hk P0
    go_wp2_with fail
    refine (unhide HAS _ (unhide P1).pr).mono ?_
    rintro e w2 ⟨rfl, b2⟩
    have P2 := hide ((unhide P1).up b2)
    have T2 := hide ((unhide T1).trans (Turn.of_below b2))
    clear b2 P1 T1
    go_wp2_with fail
    refine (unhide HNX _ (unhide P2).pr).mono ?_
    rintro e w3 ⟨rfl, b3⟩
    have P3 := hide ((unhide P2).up b3)
    have T3 := hide ((unhide T2).trans (Turn.of_below b3))
    clear b3 P2 T2
    go_wp2_with fail
    refine (unhide HMB _ (unhide P3).pr).mono ?_
    rintro e w4 (⟨hl, hk2, rfl, p4, t4⟩ | ⟨h2, rfl, t4⟩)
    rotate_left
    · exact ⟨rfl, .inl ⟨n, unhide HB h2, rfl, hide ((unhide T3).trans (unhide t4))⟩⟩
    have RR := hide (unhide HN hl hk2)
    have P4 := hide ((unhide P3).next (unhide t4) (unhide p4))
    have T4 := hide ((unhide T3).trans (unhide t4))
    clear HB HN hk2 P3 T3 p4 t4
    generalize ws[n].a1 = tx at *
    go_wp2_with fail
    go_ret
    exact .inr ⟨_, _, _, _, unhide RR, rfl, P4, T4, hide (forms_node (show FormsAre w.heap.size _ .nil [] from rfl) (.inr (.inl ⟨rfl, rfl, rfl⟩)))⟩
  · rw [h1] at HNX
    obtain ⟨hn, hk1⟩ := isT_some h1
    have HN := hide (atom_num (f := f) hn hk1)
    have HNU := hide (fun W (hp : PrK ws sz W rb a c n) => number_any ws hw sz W rb a c n hn hk1 hp)
    clear n1 n2 n3 h1 ht hf hk1
    rw [unhide HN]
    generalize PRes.ok (node0 1 (numTextV ws[n].a1) ⟨#[]⟩) (n + 1) = R at *
    go_enter Tryz.func126, Tryz.ntmps126
    go_wp2_with fail
    refine (unhide KA).mono ?_
    intro e w1 hr
    obtain ⟨rfl, P1, T1⟩ := hr.zero hk
    clear hr KA hk P0
    go_wp2_with fail
    refine (unhide HAS _ (unhide P1).pr).mono ?_
    rintro e w2 ⟨rfl, b2⟩
    have P2 := hide ((unhide P1).up b2)
    have T2 := hide ((unhide T1).trans (Turn.of_below b2))
    clear b2 P1 T1
    go_wp2_with fail
    refine (unhide HNX _ (unhide P2).pr).mono ?_
    rintro e w3 ⟨rfl, b3⟩
    have P3 := hide ((unhide P2).up b3)
    have T3 := hide ((unhide T2).trans (Turn.of_below b3))
    clear b3 P2 T2
    go_wp2_with fail
    refine (unhide HNU _ (unhide P3)).mono ?_
    intro e w4 hr
    have HX := hide (hr.from (unhide T3))
    rcases hr.form with ⟨k, rfl⟩ | ⟨ty, u, rfl⟩
    · exact ⟨rfl, unhide HX⟩
    · clear hr
      go_wp2_with fail
      go_ret
      exact unhide HX
theorem isaid_all (ws : List WordV) (hw : ∀ x ∈ ws, WordIs x) (sz : Nat) : ∀ f, SaidIE ws sz f ∧ SaidIL ws sz f ∧ SaidIH ws sz f ∧ SaidIA ws sz f := by
  intro f
  induction f using Nat.strongRecOn with
  | ind f ih =>
    cases f with
    | zero => exact ⟨fun _ _ _ _ _ _ h => by omega, fun _ _ _ _ _ _ _ _ _ h => by omega, fun _ _ _ _ _ _ h => by omega, fun _ _ _ _ _ _ h => by omega⟩
    | succ f =>
      have h := ih f (by omega)
      exact ⟨iexpr_one ws hw sz f h.1 h.2.1, ilevel_one ws hw sz f (fun f' hf => (ih f' (by omega)).2.1) h.2.2.1, iahead_one ws hw sz f h.2.2.1 h.2.2.2, iatom_one ws hw sz f h.1⟩
end Go.Proofs.YtldgffkippejiaaGreatDoor

set_option linter.unusedVariables false
namespace Go.Proofs.YtldgffkippejiaaGreatDoor
open Go.RowKit Go.Maps Go.Deep

/-- a node that has what its kind asks for, and nothing else -/
structure Norm (x : NodeV) : Prop where
  num : x.kind ≠ 1 → x.num = 0
  name : x.kind ≠ 2 → x.kind ≠ 22 → x.kind ≠ 23 → x.name = ⟨#[]⟩
  kids : x.kids = arity x.kind
def NormT (t : TreeV) : Prop := ∀ x ∈ fl t.f, Norm x
def NormR : PRes → Prop
  | .ok t _ => NormT t
  | _ => True
theorem NormR.then {r : PRes} {f : TreeV → Nat → PRes} (h : NormR r) (hf : ∀ t k, NormT t → NormR (f t k)) : NormR (r.then f) := by
  cases r with
  | out => trivial
  | bad k => trivial
  | ok t k => exact hf t k h
theorem norm_must {ws : List WordV} {k : Nat} {s : ByteArray} {f : Nat → PRes} (hf : NormR (f (k + 1))) : NormR (must ws s k f) := by
  unfold must
  split
  · exact hf
  · trivial
theorem norm_name {ws : List WordV} {k : Nat} {f : ByteArray → Nat → PRes} (hf : ∀ nm : ByteArray, NormR (f nm (k + 1))) : NormR (mustName ws k f) := by
  unfold mustName
  split
  · split
    · exact hf _
    · trivial
  · trivial
theorem normT_0 {k n : Int} {nm : ByteArray} (h : Norm ⟨k, n, nm, 0⟩) : NormT (node0 k n nm) := by
  intro x hx
  simp [node0, TreeV.f, fl] at hx
  rw [hx]; exact h
theorem normT_1 {k : Int} {a : TreeV} (h : Norm ⟨k, 0, ⟨#[]⟩, 1⟩) (ha : NormT a) : NormT (node1 k a) := by
  intro x hx
  simp only [node1, TreeV.f, fl, List.append_nil, List.mem_cons] at hx
  rcases hx with rfl | hx
  · exact h
  · exact ha x (by simpa [TreeV.f, fl] using hx)
theorem normT_2 {k : Int} {nm : ByteArray} {a b : TreeV} (h : Norm ⟨k, 0, nm, 2⟩) (ha : NormT a) (hb : NormT b) : NormT (node2 k nm a b) := by
  intro x hx
  have : fl (node2 k nm a b).f = ⟨k, 0, nm, 2⟩ :: ((fl a.f ++ fl b.f) ++ []) := by
    show _ :: (fl (app a.f b.f) ++ fl .nil) = _
    rw [fl_app]; rfl
  rw [this] at hx
  simp only [List.append_nil, List.mem_cons, List.mem_append] at hx
  rcases hx with rfl | hx | hx
  · exact h
  · exact ha x hx
  · exact hb x hx
theorem normT_3 {k : Int} {nm : ByteArray} {a b c : TreeV} (h : Norm ⟨k, 0, nm, 3⟩) (ha : NormT a) (hb : NormT b) (hc : NormT c) : NormT (node3 k nm a b c) := by
  intro x hx
  have : fl (node3 k nm a b c).f = ⟨k, 0, nm, 3⟩ :: ((fl a.f ++ (fl b.f ++ fl c.f)) ++ []) := by
    show _ :: (fl (app a.f (app b.f c.f)) ++ fl .nil) = _
    rw [fl_app, fl_app]; rfl
  rw [this] at hx
  simp only [List.append_nil, List.mem_cons, List.mem_append] at hx
  rcases hx with rfl | hx | hx | hx
  · exact h
  · exact ha x hx
  · exact hb x hx
  · exact hc x hx
def modeN : Mode → Prop
  | .loop _ a => NormT a
  | _ => True
theorem norm_sign {lv : Nat} {s : ByteArray} (h : kindL lv s ≠ 0) : Norm ⟨kindL lv s, 0, ⟨#[]⟩, 2⟩ := by
  have hk : 5 ≤ kindL lv s ∧ kindL lv s ≤ 17 := by rcases kindL_fit lv s with e | e; exact absurd e h; exact e
  generalize kindL lv s = k at *
  refine ⟨fun _ => rfl, fun _ _ _ => rfl, ?_⟩
  show (2 : Int) = arity k
  unfold arity
  rw [if_neg (by omega), if_neg (by omega), if_pos (by omega)]
theorem parse_norm (ws : List WordV) : ∀ f m n, modeN m → NormR (parse ws f m n) := by
  intro f
  induction f with
  | zero => intro m n _; trivial
  | succ f ih =>
    intro m n hm
    have IE : ∀ k, NormR (parse ws f .expr k) := fun k => ih .expr k trivial
    cases m with
    | expr =>
      rw [parse]
      split
      · exact (IE (n + 1)).then fun a n1 oa => norm_must ((IE (n1 + 1)).then fun b n3 ob => norm_must ((IE (n3 + 1)).then fun c n5 oc => normT_3 ⟨fun _ => rfl, fun _ _ _ => rfl, by decide⟩ oa ob oc))
      split
      · exact norm_name fun nm => norm_must ((IE (n + 1 + 1 + 1)).then fun a n3 oa => norm_must ((IE (n3 + 1)).then fun b n5 ob => normT_2 ⟨fun _ => rfl, fun _ h _ => absurd rfl h, (by decide : (2 : Int) = arity 22)⟩ oa ob))
      split
      · exact (IE (n + 1)).then fun a n1 oa => norm_must (norm_name fun nm => norm_must ((IE (n1 + 1 + 1 + 1)).then fun b n5 ob => norm_must ((IE (n5 + 1)).then fun c n7 oc => normT_3 ⟨fun _ => rfl, fun _ _ h => absurd rfl h, (by decide : (3 : Int) = arity 23)⟩ oa ob oc)))
      · exact ih (.level 1) n trivial
    | level lv =>
      rw [parse]
      split
      · exact ih .ahead n trivial
      · exact (ih (.level (lv + 1)) n trivial).then fun a n1 oa => ih (.loop lv a) n1 oa
    | loop lv a =>
      rw [parse]
      split
      · exact hm
      · rename_i h
        refine (ih (.level (lv + 1)) (n + 1) trivial).then fun b n1 ob => ?_
        have o := normT_2 (norm_sign h) hm ob
        split
        · exact o
        · exact ih (.loop lv _) n1 o
    | ahead =>
      rw [parse]
      split
      · exact (ih .ahead (n + 1) trivial).then fun a n1 oa => normT_1 ⟨fun _ => rfl, fun _ _ _ => rfl, by decide⟩ oa
      split
      · exact (ih .ahead (n + 1) trivial).then fun a n1 oa => normT_1 ⟨fun _ => rfl, fun _ _ _ => rfl, by decide⟩ oa
      · exact ih .atom n trivial
    | atom =>
      rw [parse]
      split
      · trivial
      · split
        · exact normT_0 ⟨fun h => absurd rfl h, fun _ _ _ => rfl, (by decide : (0 : Int) = arity 1)⟩
        split
        · exact normT_0 ⟨fun _ => rfl, fun h => absurd rfl h, (by decide : (0 : Int) = arity 2)⟩
        split
        · refine norm_must ((IE (n + 1 + 1)).then fun a n2 oa => norm_must ((IE (n2 + 1)).then fun b n4 ob => norm_must (normT_2 ⟨fun _ => rfl, fun _ _ _ => rfl, ?_⟩ oa ob)))
          show (2 : Int) = arity _
          split <;> decide
        split
        · exact norm_must ((IE (n + 1 + 1)).then fun a n2 oa => norm_must (normT_1 ⟨fun _ => rfl, fun _ _ _ => rfl, by decide⟩ oa))
        split
        · exact (IE (n + 1)).then fun a n2 oa => norm_must oa
        · trivial
end Go.Proofs.YtldgffkippejiaaGreatDoor

namespace Go.Proofs.YtldgffkippejiaaGreatDoor
open Go.RowKit Go.Maps Go.Deep

theorem infoForm : (Tryz.prog.info? 78).map (fun i => (i.zero, i.size, i.bytes)) = some (some .nilIface, 1, 16) := by kernel_rfl

def RetGrow (B : Nat) (x : NodeV) (l : BT NodeV) (q : Nat) (e : Ending) (w' : World) : Prop :=
  ∃ v ws, e = .returned (.tuple #[v, .int .i64 (q : Int)]) ∧ FormsAre B w' l ws ∧ IsNode B w' x ws v
def GrowSaid (x : NodeV) (l : BT NodeV) : Prop := ∀ (w : World) (b off cap : Nat) (ns : List NodeV) (p : Nat), StandsAt ns p x l → NodesAt w b off ns → b < w.heap.size → OwnAll ns →
  Calls Tryz.prog 62 #[.slice (some ⟨b, off, none⟩) ns.length cap, .int .i64 (p : Int)] w fun e w' => RetGrow w.heap.size x l (p + 1 + (fl l).length) e w' ∧ Below w.heap.size w w'

theorem own_parts {x : NodeV} (h : ownB x = true) : 1 ≤ x.kind ∧ x.kind ≤ 23 ∧ x.kids = arity x.kind := by
  have hk : x.kids = arity x.kind := by
    by_cases e : x.kids = arity x.kind
    · exact e
    · rw [show ownB x = false by simp [ownB, e]] at h; cases h
  have hr : ¬ (x.kind < 1 ∨ 23 < x.kind) := by
    intro e
    rw [show ownB x = false by simp [ownB, arity_out x.kind e]] at h; cases h
  exact ⟨by omega, by omega, hk⟩
theorem StandsAt.mem {ns : List NodeV} {p : Nat} {x : NodeV} {l : BT NodeV} (h : StandsAt ns p x l) : x ∈ ns := by
  obtain ⟨pre, post, rfl, rfl⟩ := h
  simp
theorem take_set (xs vs : List Value) (j : Nat) (v : Value) (hj : j < xs.length) (h : xs.take j = vs) : (xs.set j v).take (j + 1) = vs ++ [v] := by
  rw [List.take_set, List.take_succ_eq_append_getElem hj, h]
  have : vs.length = j := by rw [← h]; simp; omega
  rw [List.set_append_right _ _ (by omega), this]
  simp
theorem rowAt_of {w : World} {base : Nat} {e : TypeId} {g n cap : Nat} {xs : List Value} (h : w.ownsRow base e 1 (.slice (some ⟨g, 0, none⟩) n cap) n xs) : RowAt w g xs := by
  intro i hi
  have hx := h.1
  rw [h.cellAt i (by omega)]
  exact List.getElem?_eq_getElem hi

set_option maxHeartbeats 3200000 in
theorem grow_one (x : NodeV) (l : BT NodeV) (hx : x.kids = cnt l) (hl : kok l) (ih : ∀ y m, InF y m l → GrowSaid y m) : GrowSaid x l := by
  intro w b off cap ns p hst hn hb hown
  have IH := hide ih
  clear ih
  have hlt := hst.lt
  have hcl := cnt_le l
  have h400 : ns.length ≤ 400 := hown.1
  obtain ⟨c0, c1, c2, c3⟩ := hn p (by omega)
  rw [hst.node (by omega)] at c0 c1 c2 c3
  rw [hx] at c3
  obtain ⟨hk1, hk23, hka⟩ := own_parts (hown.2 x hst.mem)
  have HA := hide (hx.symm.trans hka)
  have HK := hide (And.intro hk1 hk23)
  have HN := hide hn
  have HST := hide hst
  have HO := hide hown
  have HX := hide hx
  clear hn hst hown hk1 hk23 hka hx
  obtain ⟨i0, hi, hz0, hz1, hz2⟩ := info_parts infoForm
  go_enter Tryz.func62, Tryz.ntmps62
  go_wp2_with (first
    | (at_make; refine wpList_make_full _ rfl _ _ 133 rfl w.heap.size 78 i0 _ 1 Tryz.underlying133 hi hz0 hz1 _ _ _ _ (cnt l) rfl rfl rfl rfl (by rw [hz2]; omega) (by unfold maxLen; omega) (Nat.le_refl _) ?_; intro w1 hrow hgrow))
  clear hz0 hz1 hz2 hi
  have hlt1 : w.heap.size < w1.heap.size := by
    rcases hrow.2 with ⟨h', _⟩ | ⟨g', cap', cur, h', _, hg, _⟩
    · simp at h'
    · simp only [Value.slice.injEq, Option.some.injEq, Addr.mk.injEq, and_true, true_and] at h'
      obtain ⟨rfl, rfl⟩ := h'
      exact (Array.getElem?_eq_some_iff.1 hg).1
  have hbw1 : Below w.heap.size w w1 := (Below.refl _ _).grown hgrow (Nat.le_refl _) (fun k hk => by cases hk)
  clear hgrow
  go_loopw [7, 19] (fun k i wr => ∃ (done todo : BT NodeV) (q j : Nat) (vs xs : List Value), Hid (l = app done todo) ∧ Hid (q = p + 1 + (fl done).length) ∧ Hid (j = cnt done) ∧ k = .int .i64 q ∧ i = .int .i64 j ∧ FormsAre (w.heap.size + 1) wr done vs ∧ Hid (xs.take j = vs) ∧ wr.ownsRow w.heap.size 78 1 (.slice (some ⟨w.heap.size, 0, none⟩) (cnt l) (cnt l)) (cnt l) xs ∧ w.heap.size < wr.heap.size ∧ Below w.heap.size w wr) (fun _ i _ => cnt l - (intOf i).toNat)
  case atStart => exact ⟨.nil, l, p + 1, 0, [], _, rfl, rfl, rfl, rfl, rfl, rfl, rfl, hrow, hlt1, hbw1⟩
  case round =>
    obtain ⟨done, todo, q, j, vs, xs, hle, hq, hj, rfl, rfl, hforms, htake, hrw, hsz, hbel⟩ := hrel
    have HF := hide hforms
    clear hforms hrow
    cases todo with
    | nil =>
      have hz : ¬ (j : Int) < (cnt l : Int) := by
        have h1 := unhide hj
        have h2 := unhide hle
        rw [app_nil] at h2
        subst h2
        omega
      have hxs : xs = vs := by
        rw [← unhide htake, List.take_of_length_le]
        rw [hrw.1]
        have h1 := unhide hj
        have h2 := unhide hle
        rw [app_nil] at h2
        subst h2
        omega
      have hforms : FormsAre (w.heap.size + 1) wr l xs := by
        have h2 := unhide hle
        rw [app_nil] at h2
        rw [h2, hxs]
        exact unhide HF
      have hql : q = p + 1 + (fl l).length := by
        have h2 := unhide hle
        rw [app_nil] at h2
        rw [h2]
        exact unhide hq
      have hxl : xs.length = cnt l := by rw [hforms.length]
      rw [← hbel.cell (by exact hb)] at c0 c1 c2 c3
      have FO := hide (formOf_any x wr w.heap.size w.heap.size (cnt l) xs hsz (Nat.le_refl _) (rowAt_of hrw) (unhide HK).1 (unhide HK).2 (by rw [hxl]; exact unhide HA) hforms.iface)
      rw [hxl, unhide HX] at FO
      have HQ := hide hql
      have HFF := hide hforms
      clear hxs hforms hql hxl
      go_wp2_with fail
      refine (unhide FO).mono ?_
      rintro e w2 ⟨⟨v, rfl, hnode⟩, hb2⟩
      go_wp2_with fail
      go_ret2
      refine ⟨⟨v, xs, by rw [← unhide HQ]; rfl, ((unhide HFF).agree (Agree.of_below hb2)).mono (Nat.le_succ _), hnode⟩, hbel.trans (hb2.mono hbel.size)⟩
    | node b' o' y m r =>
      have hkl : kok (app done (.node b' o' y m r)) := by rw [← unhide hle]; exact hl
      rw [kok_app] at hkl
      obtain ⟨hky, hkm, hkr⟩ := hkl.2
      have hS : StandsAt ns q y m := by
        rw [unhide hq]
        have := unhide HST
        rw [unhide hle] at this
        exact this.kid
      have HD := hide (unhide IH y m (by rw [unhide hle]; exact inF_app y m done b' o' r) wr b off cap ns q hS ((unhide HN).below hbel hb) (Nat.lt_of_lt_of_le hb hbel.size) (unhide HO))
      have hqb : q < ns.length := by have := hS.lt; omega
      have hjl : (j : Int) < (cnt l : Int) := by
        have e := unhide hle
        rw [e, cnt_app, unhide hj]; simp only [cnt]; omega
      have hle' := hide ((unhide hle).trans (app_snoc done b' o' y m r))
      have hq' := hide (show q + 1 + (fl m).length = p + 1 + (fl (app done (.node b' o' y m .nil))).length by
        rw [unhide hq, fl_app]; simp [fl]; omega)
      have hj' := hide (show j + 1 = cnt (app done (.node b' o' y m .nil)) by rw [unhide hj, cnt_app]; rfl)
      clear hkl hS hky hkm hkr
      go_wp2_with fail
      refine (unhide HD).mono ?_
      rintro e w2 ⟨⟨v, ws, rfl, hfs, hnode⟩, hb2⟩
      have hrow2 := ownsRow_below hrw hb2 hsz
      have hcell2 : ∃ u, w2.cell? ⟨w.heap.size, j, none⟩ = some u := ⟨_, rowAt_of hrow2 j (by rw [hrw.1]; omega)⟩
      obtain ⟨u0, hcell2⟩ := hcell2
      have hfz2 := hrow2.frozenAt j
      obtain ⟨tv, uv, rfl⟩ := hnode.iface
      have HNODE := hide hnode
      have HFS := hide hfs
      clear hnode hfs
      go_wp2_with fail
      have hst2 := hrow2.stored j (.iface tv uv)
      have hag : Agree (w.heap.size + 1) w2 (w2.setCell ⟨w.heap.size, j, none⟩ (.iface tv uv)) := Agree.setCell w2 (Nat.lt_succ_self _) j _
      have hbx : Below w.heap.size w (w2.setCell ⟨w.heap.size, j, none⟩ (.iface tv uv)) := (hbel.trans (hb2.mono hbel.size)).setCell (Nat.le_refl _) _
      have hs3 : w.heap.size < w2.heap.size := Nat.lt_of_lt_of_le hsz hb2.size
      have hnew : FormsAre (w.heap.size + 1) (w2.setCell ⟨w.heap.size, j, none⟩ (.iface tv uv)) (app done (.node b' o' y m .nil)) (vs ++ [.iface tv uv]) :=
        FormsAre.app (((unhide HF).agree (Agree.of_below hb2)).agree hag) ⟨_, [], ws, rfl, ((unhide HFS).mono (by omega)).agree hag, ((unhide HNODE).mono (by omega)).agree hag, rfl⟩
      have htk := hide (take_set xs vs j (.iface tv uv) (by rw [hrw.1]; omega) (unhide htake))
      clear hcell2 hfz2
      go_roundw
      case rel => exact ⟨_, r, _, _, _, _, unhide hle', unhide hq', unhide hj', by go_num, by go_num, hnew, unhide htk, hst2.1, by simpa using hs3, hbx⟩
      case measure => simp [intOf]; omega

theorem grow_all (f : BT NodeV) : kok f → ∀ y m, InF y m f → GrowSaid y m := by
  induction f with
  | nil => intro _ y m h; exact h.elim
  | node b o x l r ihl ihr =>
    intro hk y m h
    rcases h with ⟨rfl, rfl⟩ | h
    · exact grow_one y m hk.1 hk.2.1 (ihl hk.2.1)
    · exact ihr hk.2.2 y m h
theorem grow_any (x : NodeV) (l : BT NodeV) (hx : x.kids = cnt l) (hl : kok l) : GrowSaid x l := grow_one x l hx hl (grow_all l hl)

end Go.Proofs.YtldgffkippejiaaGreatDoor
