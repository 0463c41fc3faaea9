/-
  The one place where the program's reader that has given up is caught.
-/
import Derived.Test.YtaonajalokhngaaGreatDoorRdrT
import Derived.Test.YtaonajalokhngaaGreatDoorBodyI5
import Derived.Defers
import Derived.Recover
import Derived.Laws.Pointers
set_option linter.unusedVariables false
namespace Go.Proofs.YtaonajalokhngaaGreatDoor
open Go.RowKit Go.Maps Go.Deep

theorem wpS_plainR {P : Program} {c : Code} {Q : Exit → Act → List Frame → World → Prop} {a : Act} {cs : List Frame} {w : World} (h : ∀ Q' : Exit → Act → World → Prop, (∀ e a' w', Q e a' cs w' → Q' e a' w') → c.wp P Q' a w) : c.wpS P Q a cs w := wpS_of_wp (h _ (fun _ _ _ h => h))
set_option maxRecDepth 20000 in
set_option maxHeartbeats 3200000 in
/-- the deferred closure of a frame that returns: nothing to catch -/
theorem tree_idle (p q : Addr) (w : World) :
    CallsD Tryz.prog 24 #[.pointer (some p), .pointer (some q)] .returning w fun e u' w' => e = .returned (.tuple #[]) ∧ u' = .returning ∧ w' = w := by
  refine callsD_of_wpS Tryz.func24 rfl fun c₀ cs hu => ?_
  simp only [Tryz.ntmps24, List.size_toArray, List.length_cons, List.length_nil, Nat.reduceAdd, Nat.reduceSub, Array.replicate_succ, Array.replicate_zero, List.push_toArray, List.append_toArray, List.nil_append, List.cons_append]
  apply wpS_seq
  apply wpS_region
  simp [wpOpsS, go_sem, recoverD, hu, Exit.thenS]
  refine wpS_plainR fun Q' hk => ?_
  have HK := hide hk
  clear hk
  go_wp2_with fail
  refine unhide HK _ _ _ ?_
  cases c₀
  simp_all [bodyPostS, results, Tryz.results24]
def CaughtR (gl ge : Nat) (c a : Int) (w w' : World) : Prop := BoxF w' gl [.slice none 0 0] ∧ BoxF w' ge [errV c a] ∧ Turn [gl, ge] w w'
set_option maxRecDepth 20000 in
set_option maxHeartbeats 6400000 in
theorem tree_caught (gl ge : Nat) (c a : Int) (lv ev : Value) (w : World) (hl : BoxF w gl [lv]) (he : BoxF w ge [ev]) (hne : gl ≠ ge) :
    CallsD Tryz.prog 24 #[.pointer (some ⟨gl, 0, none⟩), .pointer (some ⟨ge, 0, none⟩)] (.panicking [{ v := errV c a, recovered := false }]) w fun e u' w' =>
      e = .returned (.tuple #[]) ∧ u' = .panicking [{ v := errV c a, recovered := true }] ∧ Hid (CaughtR gl ge c a w w') := by
  have hA : ∀ w : World, (Instr.typeAssert (.iface 56 (.agg #[.int .i64 a, .iface 62 (.agg #[.int .i64 c])])) 20 56 true).run Tryz.prog w = .ok (.tuple #[.agg #[.int .i64 a, .iface 62 (.agg #[.int .i64 c])], .bool true]) w := fun w => by kernel_rfl
  unfold errV
  have bA := (Below.refl w.heap.size w).alloc (Nat.le_refl _) (.cells #[.int .i64 a, .iface 62 (.agg #[.int .i64 c])] 56)
  have XL := hide (hl.up bA)
  have XE := hide (he.up bA)
  have BA := hide bA
  have HL := hide hl.1.1
  have HE := hide he.1.1
  obtain ⟨l0, l1⟩ := (unhide XL).oneI
  obtain ⟨e0, e1⟩ := (unhide XE).oneI
  clear bA hl he
  refine callsD_of_wpS Tryz.func24 rfl fun c₀ cs hu => ?_
  simp only [Tryz.ntmps24, List.size_toArray, List.length_cons, List.length_nil, Nat.reduceAdd, Nat.reduceSub, Array.replicate_succ, Array.replicate_zero, List.push_toArray, List.append_toArray, List.nil_append, List.cons_append]
  apply wpS_seq
  apply wpS_region
  simp [wpOpsS, go_sem, recoverD, hu, Exit.thenS]
  refine wpS_of_wp ?_
  go_wp2_with fail
  have XP := boxF_new w [.int .i64 a, .iface 62 (.agg #[.int .i64 c])] 56
  simp only [List.toArray] at XP
  obtain ⟨⟨p0, p1⟩, -⟩ := XP.duoI
  have hlt1 : w.heap.size ≠ gl := by have := unhide HL; omega
  have hlt2 : w.heap.size ≠ ge := by have := unhide HE; omega
  have hlt3 : gl ≠ w.heap.size := by have := unhide HL; omega
  have hlt4 : ge ≠ w.heap.size := by have := unhide HE; omega
  have hne2 : ge ≠ gl := fun h => hne h.symm
  clear XP
  generalize w.alloc (.cells #[.int .i64 a, .iface 62 (.agg #[.int .i64 c])] 56) = W at *
  have DD := hide (show BoxF W.drew gl [lv] ∧ BoxF W.drew ge [ev] ∧ Below w.heap.size w W.drew from ⟨(unhide XL).up (Below.refl _ _).drew, (unhide XE).up (Below.refl _ _).drew, (unhide BA).drew⟩)
  have FIN := hide (fun (V : World) (hv : V = (W.drew.setCell ⟨gl, 0, none⟩ (.slice none 0 0)).setCell ⟨ge, 0, none⟩ (errV c a) ∨ V = (W.drew.setCell ⟨ge, 0, none⟩ (errV c a)).setCell ⟨gl, 0, none⟩ (.slice none 0 0)) => show CaughtR gl ge c a w V from by
    obtain ⟨d1, d2, d3⟩ := unhide DD
    have q1 := d1.set 0 (.slice none 0 0) (by simp)
    have q2 := d2.set 0 (errV c a) (by simp)
    simp only [List.set] at q1 q2
    rcases hv with rfl | rfl
    · have q3 := (d2.far (g' := gl) 0 (.slice none 0 0) hne2).set 0 (errV c a) (by simp)
      simp only [List.set] at q3
      exact ⟨q1.far 0 (errV c a) hne, q3, ((Turn.of_below d3).setCell (by simp) _ _).setCell (by simp) _ _⟩
    · have q3 := (d1.far (g' := ge) 0 (errV c a) hne).set 0 (.slice none 0 0) (by simp)
      simp only [List.set] at q3
      exact ⟨q3, q2.far 0 (.slice none 0 0) hne2, ((Turn.of_below d3).setCell (by simp) _ _).setCell (by simp) _ _⟩)
  clear HL HE DD XL XE BA
  unfold errV at FIN
  go_region
  all_goals
    go_wp2_with fail
    refine ⟨rfl, _, rfl, .tuple #[], results_none rfl _ _ _, rfl, rfl, hide (unhide FIN _ ?_)⟩
    first | exact .inl rfl | exact .inr rfl
end Go.Proofs.YtaonajalokhngaaGreatDoor
