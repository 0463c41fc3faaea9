/-
  The program's reader: a tree out of words.
-/
/-
  The one place where the program's reader that has given up is caught.
-/
/-
  The specification's reader: what binds least. (Made by wip/mkreade.py.)
-/
/-
  The specification's reader: signs between two.
-/
/-
  The specification's reader: signs ahead. (Made by wip/mkreade.py.)
-/
/-
  The specification's reader: two in brackets. (Made by wip/mkreade.py.)
-/
/-
  The specification's reader: what binds most.
-/
/-
  The specification's reader: all of it.
-/
/-
  The specification reads a tree. (Made by wip/mkreadt.py.)
-/
import Derived.Test.YtjfebnplffpmoaaGreatDoorRdrA
import Derived.Test.YtjfebnplffpmoaaGreatDoorRdrAp
import Derived.Test.YtjfebnplffpmoaaGreatDoorMerged17
import Derived.Deep.RegionHeld3
import Derived.Test.YtjfebnplffpmoaaGreatDoorBodyI5
import Derived.Defers
import Derived.Recover
import Derived.Laws.Pointers
import Derived.Test.YtjfebnplffpmoaaGreatDoorReadS3
import Derived.Deep.DeepCutAuto
import Derived.Deep.CutBlock
import Derived.Test.YtjfebnplffpmoaaGreatDoorMerged21
set_option linter.unusedVariables false
namespace Go.Proofs.YtjfebnplffpmoaaGreatDoor
open Go.RowKit Go.Maps Go.Deep

/-- a tree, or what the reader gave up with -/
def RetTi (rb : Nat) (r : TrRes) (w : World) (e : Ending) (w' : World) : Prop := match r with
  | .bad c a => e = .panicked [{ v := errV c a, recovered := false }] ∧ Hid (Turn [rb] w w')
  | .ok x => ∃ v, e = .returned v ∧ Hid (NdRow w.heap.size w' v (fl x.f)) ∧ Hid (Turn [rb] w w')
theorem fl_f (x : TreeV) : fl x.f = x.x :: fl x.l := by show x.x :: (fl x.l ++ []) = _; rw [List.append_nil]
set_option maxHeartbeats 6400000 in
set_option maxRecDepth 20000 in
theorem tree_any (t : ByteArray) (w : World) (rb : Nat) (a : Option Addr) (c : Nat) (hc : bwCode t = 0) (h : PrK (bwWords t) t.size w rb a c 0) :
    Calls Tryz.prog 31 #[.pointer (some ⟨rb, 0, none⟩)] w fun e w' => RetTi rb (trRes t) w e w' := by
  obtain ⟨hlen, hwis⟩ := bw_words t
  have HRB := h.pr.lt
  have P0 := hide h
  have HEX := hide ((isaid_all (bwWords t) hwis t.size (fuelT (bwWords t))).1)
  have HFU := hide (fuel_ok (bwWords t))
  have HTR := hide (tr_tree t)
  have HGD := hide (tr_good t)
  have HNM := hide (parse_norm (bwWords t) (fuelT (bwWords t)) .expr 0 trivial)
  have TB := hide (fun k h => tr_bad (t := t) (k := k) hc h)
  have TM := hide (fun k x h1 h2 => tr_more (t := t) (k := k) (x := x) hc h1 h2)
  have TN := hide (fun k x h1 h2 h3 => tr_many (t := t) (k := k) (x := x) hc h1 h2 h3)
  have TD := hide (fun k x h1 h2 h3 h4 => tr_deep (t := t) (k := k) (x := x) hc h1 h2 h3 h4)
  have TO := hide (fun k x h1 h2 h3 h4 => tr_ok (t := t) (k := k) (x := x) hc h1 h2 h3 h4)
  clear hc h
  generalize trRes t = R at *
  have HMIS := hide (fun W k (hp : PrI (bwWords t) t.size W rb a c k) => misplaced_any (bwWords t) t.size W rb a c k hp)
  generalize bwWords t = ws at *
  go_enter Tryz.func31, Tryz.ntmps31
  go_wp2_with fail
  refine (unhide HEX _ rb a c _ (unhide P0) (unhide HFU)).mono ?_
  rintro e w1 (⟨k1, hp1, rfl, t1⟩ | ⟨x1, k1, y1, u1, hp1, rfl, p1, t1, f1⟩)
  · refine ⟨rfl, ?_⟩
    rw [unhide TB _ hp1]
    exact ⟨rfl, t1⟩
  have HOK := unhide HTR
  rw [hp1] at HOK
  have HSZ := hide HOK.2.2
  have HNT := unhide HNM
  rw [hp1] at HNT
  have HNT := hide HNT
  have G1 := unhide HGD
  rw [hp1] at G1
  have hk1 : k1 ≤ ws.length := G1.2
  have TM1 := hide (unhide TM _ _ hp1)
  have TN1 := hide (unhide TN _ _ hp1)
  have TD1 := hide (unhide TD _ _ hp1)
  have TO1 := hide (unhide TO _ _ hp1)
  obtain ⟨⟨c0, c1, c2⟩, f0, ff1, f2⟩ := (unhide p1).pr.box.triR
  clear HOK HTR HNM G1 HGD TB TM TN TD TO hp1 HEX P0 HFU
  by_cases hlt : k1 < ws.length
  · have hlt2 : (k1 : Int) < (ws.length : Int) := by omega
    have HR := hide (unhide TM1 hlt)
    clear hlt TM1 TN1 TD1 TO1
    have PD := hide ((unhide p1).up (Below.refl _ _).drew)
    have TD := hide ((unhide t1).trans (Turn.of_below (Below.refl _ _).drew))
    go_wp2_with fail
    go_region
    all_goals
      go_wp2_with (first
        | (go_at_call 51; refine (unhide HMIS _ _ (unhide PD).pr).mono ?_; rintro e w2 ⟨rfl, b2⟩)
        | fail)
      refine ⟨rfl, ?_⟩
      rw [unhide HR]
      exact ⟨rfl, hide ((unhide TD).trans (Turn.of_below b2))⟩
  · have hlt2 : ¬ (k1 : Int) < (ws.length : Int) := by omega
    have BD := hide ((Below.refl w1.heap.size w1).drew)
    have TD0 := hide ((unhide t1).trans (Turn.of_below (Below.refl w1.heap.size w1).drew))
    have F1 := hide ((unhide f1).upR (Below.refl w1.heap.size w1).drew)
    have TN2 := hide (unhide TN1 hlt)
    have TD2 := hide (unhide TD1 hlt)
    have TO2 := hide (unhide TO1 hlt)
    clear hlt TM1 TN1 TD1 TO1
    go_wp2_with fail
    go_region
    all_goals
      go_wp2_with fail
      generalize w1.drew = W1 at *
      obtain ⟨v1, rest1, kvs, ev, h1, h2, h3⟩ := unhide F1
      cases ev
      have HS : (fl x1.l).length + 1 ≤ 1500 := by have := unhide HSZ; rw [sizeT_is] at this; omega
      have HA := hide (app_any x1.x x1.l W1 W1 w.heap.size (.iface y1 u1) (.slice none 0 0) kvs [] h1 h2 (unhide HNT x1.x (by rw [fl_f]; simp)) (fun y hy => unhide HNT y (by rw [fl_f]; simp [hy])) (Below.refl _ _) (NdRow.nil _ _) (by simp; omega))
      have HFD := hide (fun (W : World) (b : Below W1.heap.size W1 W) => fdeep_any x1.x x1.l (by omega) W w.heap.size (.iface y1 u1) kvs (h1.upR b) (h2.agree (Agree.of_below b)))
      clear h1 h2 h3 F1
      refine (unhide HA).mono ?_
      rintro e w2 ⟨nv, rfl, R2, G2⟩
      have B2 := hide ((unhide G2).below (Below.refl W1.heap.size W1) (fun g hg => by cases hg))
      obtain ⟨a2, c2', e2⟩ := (unhide R2).slice
      subst e2
      have hm : ([] ++ x1.x :: fl x1.l).length = sizeT x1 := by rw [sizeT_is]; simp
      have R3 := hide (show NdRow W1.heap.size w2 (.slice a2 (sizeT x1) c2') (fl x1.f) from by have := unhide R2; rw [hm] at this; rw [fl_f]; exact this)
      rw [hm]
      clear R2 hm G2 HA
      by_cases h400 : 400 < sizeT x1
      · have h4i : (400 : Int) < (sizeT x1 : Int) := by omega
        have HR := hide (unhide TN2 h400)
        clear h400
        generalize sizeT x1 = m at *
        go_wp2_with (first
          | (go_at_call 19; refine (wrongAt_any 6 0 _).mono ?_; rintro e w4 ⟨rfl, rfl⟩)
          | fail)
        refine ⟨rfl, ?_⟩
        rw [unhide HR]
        exact ⟨rfl, hide ((unhide TD0).trans (Turn.of_below (unhide B2)))⟩
      · have h4i : ¬ (400 : Int) < (sizeT x1 : Int) := by omega
        have HD2 := hide (unhide TD2 h400)
        have HO2 := hide (unhide TO2 h400)
        clear h400
        have HFW := hide (unhide HFD w2 (unhide B2))
        obtain ⟨dn, hdn⟩ : ∃ dn : Nat, dn = dp x1.l + 1 := ⟨_, rfl⟩
        rw [← hdn] at HFW HD2 HO2
        clear hdn
        generalize sizeT x1 = m at *
        go_wp2_with fail
        refine (unhide HFW).mono ?_
        rintro e w5 ⟨rfl, b5⟩
        have T5 := hide (((unhide TD0).trans (Turn.of_below (unhide B2))).trans (Turn.of_below b5))
        have R5 := hide (((unhide R3).up b5).mono (unhide TD0).size)
        clear HFW HFD R3 b5 B2 TD0
        by_cases h40 : 40 < dn
        · have h4d : (40 : Int) < (dn : Int) := by omega
          have HR := hide (unhide HD2 h40)
          clear h40
          go_wp2_with (first
            | (go_at_call 19; refine (wrongAt_any 7 0 _).mono ?_; rintro e w6 ⟨rfl, rfl⟩)
            | fail)
          refine ⟨rfl, ?_⟩
          rw [unhide HR]
          exact ⟨rfl, T5⟩
        · have h4d : ¬ (40 : Int) < (dn : Int) := by omega
          have HR := hide (unhide HO2 h40)
          clear h40
          go_wp2_with fail
          go_ret
          rw [unhide HR]
          exact ⟨_, rfl, R5, T5⟩
end Go.Proofs.YtjfebnplffpmoaaGreatDoor

set_option linter.unusedVariables false
namespace Go.Proofs.YtjfebnplffpmoaaGreatDoor
open Go.RowKit Go.Maps Go.Deep

theorem wpS_plainR {P : Program} {c : Code} {Q : Exit → Act → List Frame → World → Prop} {a : Act} {cs : List Frame} {w : World} (h : ∀ Q' : Exit → Act → World → Prop, (∀ e a' w', Q e a' cs w' → Q' e a' w') → c.wp P Q' a w) : c.wpS P Q a cs w := wpS_of_wp (h _ (fun _ _ _ h => h))
set_option maxRecDepth 20000 in
set_option maxHeartbeats 3200000 in
/-- the deferred closure of a frame that returns: nothing to catch -/
theorem tree_idle (p q : Addr) (w : World) :
    CallsD Tryz.prog 30 #[.pointer (some p), .pointer (some q)] .returning w fun e u' w' => e = .returned (.tuple #[]) ∧ u' = .returning ∧ w' = w := by
  refine callsD_of_wpS Tryz.func30 rfl fun c₀ cs hu => ?_
  simp only [Tryz.ntmps30, List.size_toArray, List.length_cons, List.length_nil, Nat.reduceAdd, Nat.reduceSub, Array.replicate_succ, Array.replicate_zero, List.push_toArray, List.append_toArray, List.nil_append, List.cons_append]
  apply wpS_seq
  apply wpS_region
  simp [wpOpsS, go_sem, recoverD, hu, Exit.thenS]
  refine wpS_plainR fun Q' hk => ?_
  have HK := hide hk
  clear hk
  go_wp2_with fail
  refine unhide HK _ _ _ ?_
  cases c₀
  simp_all [bodyPostS, results, Tryz.results30]
def CaughtR (gl ge : Nat) (c a : Int) (w w' : World) : Prop := BoxF w' gl [.slice none 0 0] ∧ BoxF w' ge [errV c a] ∧ Turn [gl, ge] w w'
set_option maxRecDepth 20000 in
set_option maxHeartbeats 6400000 in
theorem tree_caught (gl ge : Nat) (c a : Int) (lv ev : Value) (w : World) (hl : BoxF w gl [lv]) (he : BoxF w ge [ev]) (hne : gl ≠ ge) :
    CallsD Tryz.prog 30 #[.pointer (some ⟨gl, 0, none⟩), .pointer (some ⟨ge, 0, none⟩)] (.panicking [{ v := errV c a, recovered := false }]) w fun e u' w' =>
      e = .returned (.tuple #[]) ∧ u' = .panicking [{ v := errV c a, recovered := true }] ∧ Hid (CaughtR gl ge c a w w') := by
  have hA : ∀ w : World, (Instr.typeAssert (.iface 67 (.agg #[.int .i64 a, .iface 69 (.agg #[.int .i64 c])])) 20 67 true).run Tryz.prog w = .ok (.tuple #[.agg #[.int .i64 a, .iface 69 (.agg #[.int .i64 c])], .bool true]) w := fun w => by kernel_rfl
  unfold errV
  have bA := (Below.refl w.heap.size w).alloc (Nat.le_refl _) (.cells #[.int .i64 a, .iface 69 (.agg #[.int .i64 c])] 67)
  have XL := hide (hl.up bA)
  have XE := hide (he.up bA)
  have BA := hide bA
  have HL := hide hl.1.1
  have HE := hide he.1.1
  obtain ⟨l0, l1⟩ := (unhide XL).oneI
  obtain ⟨e0, e1⟩ := (unhide XE).oneI
  clear bA hl he
  refine callsD_of_wpS Tryz.func30 rfl fun c₀ cs hu => ?_
  simp only [Tryz.ntmps30, List.size_toArray, List.length_cons, List.length_nil, Nat.reduceAdd, Nat.reduceSub, Array.replicate_succ, Array.replicate_zero, List.push_toArray, List.append_toArray, List.nil_append, List.cons_append]
  apply wpS_seq
  apply wpS_region
  simp [wpOpsS, go_sem, recoverD, hu, Exit.thenS]
  refine wpS_of_wp ?_
  go_wp2_with fail
  have XP := boxF_new w [.int .i64 a, .iface 69 (.agg #[.int .i64 c])] 67
  simp only [List.toArray] at XP
  obtain ⟨⟨p0, p1⟩, -⟩ := XP.duoI
  have hlt1 : w.heap.size ≠ gl := by have := unhide HL; omega
  have hlt2 : w.heap.size ≠ ge := by have := unhide HE; omega
  have hlt3 : gl ≠ w.heap.size := by have := unhide HL; omega
  have hlt4 : ge ≠ w.heap.size := by have := unhide HE; omega
  have hne2 : ge ≠ gl := fun h => hne h.symm
  clear XP
  generalize w.alloc (.cells #[.int .i64 a, .iface 69 (.agg #[.int .i64 c])] 67) = W at *
  have DD := hide (show BoxF W.drew gl [lv] ∧ BoxF W.drew ge [ev] ∧ Below w.heap.size w W.drew from ⟨(unhide XL).up (Below.refl _ _).drew, (unhide XE).up (Below.refl _ _).drew, (unhide BA).drew⟩)
  have FIN := hide (fun (V : World) (hv : V = (W.drew.setCell ⟨gl, 0, none⟩ (.slice none 0 0)).setCell ⟨ge, 0, none⟩ (errV c a) ∨ V = (W.drew.setCell ⟨ge, 0, none⟩ (errV c a)).setCell ⟨gl, 0, none⟩ (.slice none 0 0)) => show CaughtR gl ge c a w V from by
    obtain ⟨d1, d2, d3⟩ := unhide DD
    have q1 := d1.set 0 (.slice none 0 0) (by simp)
    have q2 := d2.set 0 (errV c a) (by simp)
    simp only [List.set] at q1 q2
    rcases hv with rfl | rfl
    · have q3 := (d2.far (g' := gl) 0 (.slice none 0 0) hne2).set 0 (errV c a) (by simp)
      simp only [List.set] at q3
      exact ⟨q1.far 0 (errV c a) hne, q3, ((Turn.of_below d3).setCell (by simp) _ _).setCell (by simp) _ _⟩
    · have q3 := (d1.far (g' := ge) 0 (errV c a) hne).set 0 (.slice none 0 0) (by simp)
      simp only [List.set] at q3
      exact ⟨q3, q2.far 0 (.slice none 0 0) hne2, ((Turn.of_below d3).setCell (by simp) _ _).setCell (by simp) _ _⟩)
  clear HL HE DD XL XE BA
  unfold errV at FIN
  go_region
  all_goals
    go_wp2_with fail
    refine ⟨rfl, _, rfl, .tuple #[], results_none rfl _ _ _, rfl, rfl, hide (unhide FIN _ ?_)⟩
    first | exact .inl rfl | exact .inr rfl
end Go.Proofs.YtjfebnplffpmoaaGreatDoor

set_option linter.unusedVariables false
namespace Go.Proofs.YtjfebnplffpmoaaGreatDoor
open Go.RowKit Go.Maps Go.Deep

end Go.Proofs.YtjfebnplffpmoaaGreatDoor

set_option linter.unusedVariables false
namespace Go.Proofs.YtjfebnplffpmoaaGreatDoor
open Go.RowKit Go.Maps Go.Deep

/-- where the loop of a level stands: what is read so far, and what the whole will be -/
def LoopIs (ws : List WordV) (F lv : Nat) (R : PRes) (n : Nat) (l : List NodeV) (k : Nat) (b : Bool) (kd : Int) : Prop :=
  n + l.length ≤ k ∧ ((b = true ∧ R = .bad k) ∨ (b = false ∧ kd = 0 ∧ ∃ t, R = .ok t k ∧ l = fl t.f) ∨ (b = false ∧ kd ≠ 0 ∧ kd = kindL lv (txt ws k) ∧ ∃ t f', f' < F ∧ 10 * (ws.length - k) ≤ f' ∧ R = parse ws (f' + 1) (.loop lv t) k ∧ l = fl t.f))
def LoopIn (b0 : Bool) (ws : List WordV) (F lv : Nat) (R : PRes) (n : Nat) (l : List NodeV) (k : Nat) (b : Bool) (kd : Int) : Prop :=
  if b0 then l = [] ∧ k = n ∧ b = true else LoopIs ws F lv R n l k b kd
theorem LoopIn.le {b0 : Bool} {ws : List WordV} {F lv : Nat} {R : PRes} {n : Nat} {l : List NodeV} {k : Nat} {b : Bool} {kd : Int} (h : LoopIn b0 ws F lv R n l k b kd) : n + l.length ≤ k := by
  unfold LoopIn at h
  split at h
  · obtain ⟨rfl, rfl, _⟩ := h; simp
  · exact h.1
theorem kind_textB (ws : List WordV) (lv k : Nat) (b : Bool) : kindL lv (textB ws k b) = if b then 0 else kindL lv (txt ws k) := by
  cases b
  · rfl
  · exact kindL_empty lv
theorem loop_start {b0 : Bool} {ws : List WordV} {F lv n : Nat} {l : List NodeV} {k : Nat} {b : Bool} (h5 : ¬ 5 < lv) (hk : k ≤ ws.length) (hF : 10 * (ws.length - n) + 4 ≤ F) (h : PRin b0 (parse ws F (.level (lv + 1)) n) n l k b) : LoopIn b0 ws F lv (parse ws (F + 1) (.level lv) n) n l k b (kindL lv (textB ws k b)) := by
  have hle := h.le
  unfold LoopIn
  rcases h.cases with ⟨rfl, h2, h3, h4⟩ | ⟨rfl, h2, h3, h4⟩ | ⟨rfl, h2, h3, t, h4, h5'⟩
  · exact ⟨h2, h3, h4⟩
  · rw [if_neg (by simp)]
    refine ⟨hle, .inl ⟨h2, ?_⟩⟩
    rw [parse, if_neg h5, h3]; rfl
  · rw [if_neg (by simp)]
    have e : parse ws (F + 1) (.level lv) n = parse ws F (.loop lv t) k := by rw [parse, if_neg h5, h4]; rfl
    refine ⟨hle, .inr ?_⟩
    obtain ⟨f', rfl⟩ : ∃ f', F = f' + 1 := ⟨F - 1, by omega⟩
    rw [kind_textB, h2]
    simp only [Bool.false_eq_true, if_false]
    by_cases hz : kindL lv (txt ws k) = 0
    · exact .inl ⟨trivial, hz, t, by rw [e, parse, if_pos hz], h5'⟩
    · exact .inr ⟨trivial, hz, trivial, t, f', by omega, by omega, e, h5'⟩
theorem loop_next {ws : List WordV} {F lv n : Nat} {R : PRes} {l l2 : List NodeV} {k k2 : Nat} {b2 : Bool} {kd : Int} {t : TreeV} {f' : Nat} (hle : n + l.length ≤ k) (hk : k < ws.length) (hk2 : k2 ≤ ws.length) (hf : f' < F) (hf2 : 10 * (ws.length - k) ≤ f') (hkd : kd = kindL lv (txt ws k)) (hz : kd ≠ 0) (hR : R = parse ws (f' + 1) (.loop lv t) k) (hl : l = fl t.f)
    (h : PRin false (parse ws f' (.level (lv + 1)) (k + 1)) (k + 1) l2 k2 b2) : LoopIn false ws F lv R n (⟨kd, 0, ⟨#[]⟩, 2⟩ :: (l ++ (l2 ++ []))) k2 b2 (if lv = 3 then 0 else kindL lv (textB ws k2 b2)) := by
  have hle2 := h.le
  unfold LoopIn
  rw [if_neg (by simp)]
  refine ⟨by simp only [List.length_cons, List.length_append, List.length_nil]; omega, ?_⟩
  have e : R = (parse ws f' (.level (lv + 1)) (k + 1)).then fun b n1 => if lv = 3 then .ok (node2 kd ⟨#[]⟩ t b) n1 else parse ws f' (.loop lv (node2 kd ⟨#[]⟩ t b)) n1 := by
    rw [hR, parse, ← hkd, if_neg hz]
  rcases h.cases with ⟨h1, _⟩ | ⟨_, h2, h3, h4⟩ | ⟨_, h2, h3, t2, h4, h5'⟩
  · cases h1
  · exact .inl ⟨h2, by rw [e, h3]; rfl⟩
  · refine .inr ?_
    rw [kind_textB, h2]
    simp only [Bool.false_eq_true, if_false]
    have hfl : (⟨kd, 0, ⟨#[]⟩, 2⟩ :: (l ++ (l2 ++ [])) : List NodeV) = fl (node2 kd ⟨#[]⟩ t t2).f := by rw [fl_node2, hl, h5', List.append_nil]
    by_cases h3' : lv = 3
    · rw [if_pos h3']
      exact .inl ⟨trivial, rfl, _, by rw [e, h4]; show (if lv = 3 then _ else _) = _; rw [if_pos h3'], hfl⟩
    · rw [if_neg h3']
      have e2 : R = parse ws f' (.loop lv (node2 kd ⟨#[]⟩ t t2)) k2 := by rw [e, h4]; show (if lv = 3 then _ else _) = _; rw [if_neg h3']
      obtain ⟨f2, rfl⟩ : ∃ f2, f' = f2 + 1 := ⟨f' - 1, by omega⟩
      by_cases hz2 : kindL lv (txt ws k2) = 0
      · exact .inl ⟨trivial, hz2, _, by rw [e2, parse, if_pos hz2], hfl⟩
      · exact .inr ⟨trivial, hz2, rfl, _, f2, by omega, by omega, e2, hfl⟩
theorem loop_end {b0 : Bool} {ws : List WordV} {F lv : Nat} {R : PRes} {n : Nat} {l : List NodeV} {k : Nat} {b : Bool} {kd : Int} (h : LoopIn b0 ws F lv R n l k b kd) (he : b = true ∨ kd = 0) : PRin b0 R n l k b := by
  unfold LoopIn at h
  unfold PRin
  split
  · rename_i hb; rw [if_pos hb] at h; exact h
  · rename_i hb
    rw [if_neg hb] at h
    refine ⟨h.1, ?_⟩
    rcases h.2 with ⟨h1, h2⟩ | ⟨h1, h2, t, h3, h4⟩ | ⟨h1, h2, _⟩
    · rw [h2]; exact ⟨h1, rfl⟩
    · rw [h3]; exact ⟨h1, rfl, h4⟩
    · rcases he with h3 | h3
      · rw [h1] at h3; cases h3
      · exact absurd h3 h2
theorem loop_on {b0 : Bool} {ws : List WordV} {F lv : Nat} {R : PRes} {n : Nat} {l : List NodeV} {k : Nat} {kd : Int} (h : LoopIn b0 ws F lv R n l k false kd) (hz : kd ≠ 0) : b0 = false ∧ n + l.length ≤ k ∧ kd = kindL lv (txt ws k) ∧ ∃ t f', f' < F ∧ 10 * (ws.length - k) ≤ f' ∧ R = parse ws (f' + 1) (.loop lv t) k ∧ l = fl t.f := by
  unfold LoopIn at h
  split at h
  · cases h.2.2
  · rename_i hb
    have hb : b0 = false := by simpa using hb
    refine ⟨hb, h.1, ?_⟩
    rcases h.2 with ⟨h1, h2⟩ | ⟨h1, h2, _⟩ | ⟨h1, h2, h3, h4⟩
    · cases h1
    · exact absurd h2 hz
    · exact ⟨h3, h4⟩
def kOf (lv : Nat) (s : ByteArray) : Int := if lv = 3 then 0 else kindL lv s
end Go.Proofs.YtjfebnplffpmoaaGreatDoor

set_option linter.unusedVariables false
namespace Go.Proofs.YtjfebnplffpmoaaGreatDoor
open Go.RowKit Go.Maps Go.Deep

end Go.Proofs.YtjfebnplffpmoaaGreatDoor

set_option linter.unusedVariables false
namespace Go.Proofs.YtjfebnplffpmoaaGreatDoor
open Go.RowKit Go.Maps Go.Deep

end Go.Proofs.YtjfebnplffpmoaaGreatDoor

set_option linter.unusedVariables false
namespace Go.Proofs.YtjfebnplffpmoaaGreatDoor
open Go.RowKit Go.Maps Go.Deep

theorem ndOne (w : World) (B : Nat) (hB : B ≤ w.heap.size) (x : NodeV) : NdRow B (w.alloc (.cells #[.int .i64 x.kind, .int .i64 x.num, .string x.name, .int .i64 x.kids] 49)) (.slice (some ⟨w.heap.size, 0, none⟩) 1 1) [x] := by
  have := World.ownsRow_lit (size := 4) (base := B) (e := 49) w #[.int .i64 x.kind, .int .i64 x.num, .string x.name, .int .i64 x.kids] 1 hB (by unfold maxLen; omega) rfl
  unfold NdRow
  exact this
end Go.Proofs.YtjfebnplffpmoaaGreatDoor

set_option linter.unusedVariables false
namespace Go.Proofs.YtjfebnplffpmoaaGreatDoor
open Go.RowKit Go.Maps Go.Deep

end Go.Proofs.YtjfebnplffpmoaaGreatDoor

set_option linter.unusedVariables false
namespace Go.Proofs.YtjfebnplffpmoaaGreatDoor
open Go.RowKit Go.Maps Go.Deep

def RetTr (r : TrRes) (w : World) (e : Ending) (w' : World) : Prop := ∃ a n c, e = .returned (.tuple #[.slice a n c, .agg #[.int .i64 r.code, .int .i64 r.at']]) ∧ Hid (NdRow w.heap.size w' (.slice a n c) r.nodes) ∧ Below w.heap.size w w'
theorem WdRow.words {B : Nat} {w : World} {a : Option Addr} {n c : Nat} {ws : List WordV} (h : WdRow B w (.slice a n c) ws) : n = ws.length ∧ WordIn w a ws ∧ ∀ g o, a = some ⟨g, o, none⟩ → g < w.heap.size := by
  obtain ⟨a', c', e, hin⟩ := h.rd
  obtain ⟨a2, c2, e2⟩ := h.slice
  injection e with e1 e3 e4
  injection e2 with q1 q2 q3
  refine ⟨q2, by rw [e1]; exact hin, fun g o hg => h.lt g (by rw [hg]; rfl)⟩
/-- the reader's box, new -/
theorem prs_new {w : World} {a : Option Addr} {ws : List WordV} {c : Nat} (h : WordIn w a ws) (hl : ws.length ≤ 400000) (hb : ∀ g o, a = some ⟨g, o, none⟩ → g < w.heap.size) (T : TypeId) : PrS ws (w.alloc (.cells #[.slice a ws.length c, .int .i64 0, .bool false] T)) w.heap.size a c 0 false := by
  have t : Turn [] w (w.alloc (.cells #[.slice a ws.length c, .int .i64 0, .bool false] T)) := Turn.of_alloc [] w _
  refine ⟨boxF_new w [.slice a ws.length c, .int .i64 0, .bool false] T, ?_, Nat.zero_le _, hl, fun g o e => Nat.ne_of_lt (hb g o e)⟩
  rcases h with h0 | ⟨g, o, e, hg, hc⟩
  · exact .inl h0
  · exact .inr ⟨g, o, e, Nat.lt_of_lt_of_le hg t.size, hc.turn t hg (by simp)⟩
theorem NdRow.turnW {B : Nat} {w w' : World} {v : Value} {ns : List NodeV} {p : Nat} (h : NdRow B w v ns) (t : Turn [p] w w') (hp : p < B) : NdRow B w' v ns := h.turn t hp
theorem nd_at {B : Nat} {w : World} {a : Option Addr} {n c : Nat} {ns : List NodeV} (h : NdRow B w (.slice a n c) ns) (hne : ns ≠ []) : ∃ g o, a = some ⟨g, o, none⟩ ∧ NodesAt w g o ns := by
  obtain ⟨a', c', e, hin⟩ := h.rd
  injection e with e1 e2 e3
  subst e1
  rcases hin with h0 | ⟨g, o, ha, _, hc⟩
  · exact absurd h0 hne
  · exact ⟨g, o, ha, hc⟩
theorem bad_of {ws : List WordV} {f k k2 : Nat} {l : List NodeV} {b : Bool} (h : parse ws f .expr 0 = .bad k) (p : PRin false (parse ws f .expr 0) 0 l k2 b) : b = true ∧ k2 = k := by
  rw [h] at p
  exact p.2
theorem ok_of {ws : List WordV} {f k k2 : Nat} {x : TreeV} {l : List NodeV} {b : Bool} (h : parse ws f .expr 0 = .ok x k) (p : PRin false (parse ws f .expr 0) 0 l k2 b) : b = false ∧ k2 = k ∧ l = fl x.f := by
  rw [h] at p
  exact p.2
theorem word_in_up {w w' : World} {a : Option Addr} {ws : List WordV} (h : WordIn w a ws) (b : Below w.heap.size w w') : WordIn w' a ws := by
  rcases h with h0 | ⟨g, o, e, hg, hc⟩
  · exact .inl h0
  · exact .inr ⟨g, o, e, Nat.lt_of_lt_of_le hg b.size, hc.turn (Turn.of_below (S := []) b) hg (by simp)⟩
theorem nd_slice {B : Nat} {w : World} {v : Value} {l : List NodeV} (h : NdRow B w v l) : ∃ a c, v = .slice a l.length c := h.slice
end Go.Proofs.YtjfebnplffpmoaaGreatDoor
