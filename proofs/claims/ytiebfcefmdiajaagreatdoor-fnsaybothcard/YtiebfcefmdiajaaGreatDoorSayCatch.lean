/-
  The one place where a reader that has given up is caught.
-/
import Derived.Test.YtiebfcefmdiajaaGreatDoorSayTell
import Derived.Laws.Pointers
set_option linter.unusedVariables false
namespace Go.Proofs.YtiebfcefmdiajaaGreatDoor
open Go.RowKit Go.Maps Go.Deep

theorem wpS_plainW {P : Program} {c : Code} {Q : Exit → Act → List Frame → World → Prop} {a : Act} {cs : List Frame} {w : World} (h : ∀ Q' : Exit → Act → World → Prop, (∀ e a' w', Q e a' cs w' → Q' e a' w') → c.wp P Q' a w) : c.wpS P Q a cs w := wpS_of_wp (h _ (fun _ _ _ h => h))
set_option maxRecDepth 20000 in
set_option maxHeartbeats 3200000 in
/-- the deferred closure of a frame that returns: nothing to catch -/
theorem word_idle (p q : Addr) (w : World) :
    CallsD Tryz.prog 60 #[.pointer (some p), .pointer (some q)] .returning w fun e u' w' => e = .returned (.tuple #[]) ∧ u' = .returning ∧ w' = w := by
  refine callsD_of_wpS Tryz.func60 rfl fun c₀ cs hu => ?_
  simp only [Tryz.ntmps60, List.size_toArray, List.length_cons, List.length_nil, Nat.reduceAdd, Nat.reduceSub, Array.replicate_succ, Array.replicate_zero, List.push_toArray, List.append_toArray, List.nil_append, List.cons_append]
  apply wpS_seq
  apply wpS_region
  simp [wpOpsS, go_sem, recoverD, hu, Exit.thenS]
  refine wpS_plainW fun Q' hk => ?_
  have HK := hide hk
  clear hk
  go_wp2_with fail
  refine unhide HK _ _ _ ?_
  cases c₀
  simp_all [bodyPostS, results, Tryz.results60]
theorem hAssertW (w : World) : (Instr.typeAssert (.iface 100 (.agg #[])) 20 100 true).run Tryz.prog w = .ok (.tuple #[.agg #[], .bool true]) w := by kernel_rfl
def CaughtW (gs go : Nat) (w w' : World) : Prop := BoxF w' gs [.int .i64 0, .int .i64 0, .int .i64 0, .string ⟨#[]⟩, .int .i64 0, .slice none 0 0] ∧ BoxF w' go [.bool false] ∧ Turn [gs, go] w w'
theorem fill6W {w : World} {g : Nat} {z0 z1 z2 z3 z4 z5 : Value} (h : BoxF w g [z0, z1, z2, z3, z4, z5]) (a b c d e f : Value) :
    BoxF ((((((w.setCell ⟨g, 0, none⟩ a).setCell ⟨g, 1, none⟩ b).setCell ⟨g, 2, none⟩ c).setCell ⟨g, 3, none⟩ d).setCell ⟨g, 4, none⟩ e).setCell ⟨g, 5, none⟩ f) g [a, b, c, d, e, f] ∧ Turn [g] w ((((((w.setCell ⟨g, 0, none⟩ a).setCell ⟨g, 1, none⟩ b).setCell ⟨g, 2, none⟩ c).setCell ⟨g, 3, none⟩ d).setCell ⟨g, 4, none⟩ e).setCell ⟨g, 5, none⟩ f) := by
  have h0 := h.set 0 a (by simp)
  have h1 := h0.set 1 b (by simp)
  have h2 := h1.set 2 c (by simp)
  have h3 := h2.set 3 d (by simp)
  have h4 := h3.set 4 e (by simp)
  have h5 := h4.set 5 f (by simp)
  simp only [List.set] at h5
  exact ⟨h5, ((((((Turn.refl _ _).setCell (by simp) _ _).setCell (by simp) _ _).setCell (by simp) _ _).setCell (by simp) _ _).setCell (by simp) _ _).setCell (by simp) _ _⟩
theorem BoxF.oneW {w : World} {g : Nat} {a : Value} (h : BoxF w g [a]) : w.cell? ⟨g, 0, none⟩ = some a ∧ w.frozen? ⟨g, 0, none⟩ = false := ⟨h.1.2 0 _ rfl, h.2 0 (by simp)⟩
set_option maxRecDepth 20000 in
set_option maxHeartbeats 6400000 in
theorem word_short (gs go : Nat) (x : Value) (w : World) (hs : Six w gs) (ho : BoxF w go [x]) (hne : gs ≠ go) :
    CallsD Tryz.prog 60 #[.pointer (some ⟨gs, 0, none⟩), .pointer (some ⟨go, 0, none⟩)] (.panicking shortChain) w fun e u' w' =>
      e = .returned (.tuple #[]) ∧ u' = .panicking [{ v := .iface 100 (.agg #[]), recovered := true }] ∧ Hid (CaughtW gs go w w') := by
  unfold shortChain
  have hA := hAssertW
  obtain ⟨z0, z1, z2, z3, z4, z5, hs⟩ := hs
  have bA := (Below.refl w.heap.size w).alloc (Nat.le_refl _) (.cells #[] 100)
  have X1 := hs.up bA
  have Y1 := ho.up bA
  obtain ⟨X2, T2⟩ := fill6W X1 (.int .i64 0) (.int .i64 0) (.int .i64 0) (.string ⟨#[]⟩) (.int .i64 0) (.slice none 0 0)
  have Y2 := Y1.turn T2 (by simpa using hne.symm)
  have Y3 := Y2.set 0 (.bool false) (by simp)
  simp only [List.set] at Y3
  have T3 := T2.mono (S' := [gs, go]) (by simp)
  have HC := hide (show CaughtW gs go w _ from ⟨X2.far 0 (.bool false) hne, Y3, ((Turn.of_below bA).trans T3).setCell (g := go) (by simp) 0 (.bool false)⟩)
  obtain ⟨⟨c0, c1, c2, c3, c4, c5⟩, f0, f1, f2, f3, f4, f5⟩ := X1.sixW
  obtain ⟨y0, y1⟩ := Y2.oneW
  obtain ⟨u0, u1⟩ := Y1.oneW
  clear X1 Y1 X2 Y2 Y3 T2 T3 bA hs ho
  refine callsD_of_wpS Tryz.func60 rfl fun c₀ cs hu => ?_
  simp only [Tryz.ntmps60, List.size_toArray, List.length_cons, List.length_nil, Nat.reduceAdd, Nat.reduceSub, Array.replicate_succ, Array.replicate_zero, List.push_toArray, List.append_toArray, List.nil_append, List.cons_append]
  apply wpS_seq
  apply wpS_region
  simp [wpOpsS, go_sem, recoverD, hu, Exit.thenS]
  refine wpS_of_wp ?_
  go_wp2_with fail
  exact ⟨rfl, _, rfl, .tuple #[], results_none rfl _ _ _, rfl, rfl, HC⟩
end Go.Proofs.YtiebfcefmdiajaaGreatDoor
