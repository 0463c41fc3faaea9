/-
  New rows of bytes: the specification's l6Bytes, bytes.Clone, slices.Concat of two.
-/
import Derived.Test.YtongnlbdpfhngaaByAppend
import Derived.Test.YtongnlbdpfhngaaMade
import Derived.Lib.SliceRun
set_option linter.unusedVariables false
namespace Go.Proofs.Ytongnlbdpfhngaa
open Go.RowKit Go.Maps Go.Deep

theorem byLit (w : World) (B : Nat) (hB : B ≤ w.heap.size) : ByRow B (w.alloc (.cells #[] 5)) (.slice (some ⟨w.heap.size, 0, none⟩) 0 0) [] :=
  World.ownsRow_lit (size := 1) w #[] 0 hB (by unfold maxLen; omega) rfl
/-- a new row of these bytes is handed back -/
def RetRow1 (bs : List UInt8) (w : World) (e : Ending) (w' : World) : Prop := ∃ a n c, e = .returned (.slice a n c) ∧ Hid (n = bs.length) ∧ ByRow w.heap.size w' (.slice a n c) bs ∧ Below w.heap.size w w'


set_option maxHeartbeats 1600000 in
theorem clone_any (w : World) (u : Value) (xs : List UInt8) (hu : ByRd w u xs) (hl : xs.length ≤ 140737488355328) :
    Calls Try.prog 44 #[u] w fun e w' => RetRow1 xs w e w' := by
  have q22 : ∀ (w : World) (a : Option Addr) (n c n' c' : Nat), (binOp .eql 22 (.slice a n c) (.slice none n' c')).run Try.prog w = .ok (.bool a.isNone) w := fun w a n c n' c' => Lib.run_eql_slice_nil w _ _ a n c n' c' Try.underlying22
  have R0 := hide (byLit w w.heap.size (Nat.le_refl _))
  have U := hide (hu.up ((Below.refl _ _).alloc (Nat.le_refl _) (.cells #[] 5)))
  have UI := hide hu
  obtain ⟨a, c, rfl⟩ := hu.len
  clear hu
  cases a with
  | none =>
    have hx : xs = [] := by
      obtain ⟨a, c, e, h⟩ := unhide UI
      rcases h with h | ⟨b, off, e2, _⟩
      · exact h
      · subst e2; cases e
    subst hx
    go_enter Try.func44, Try.ntmps44
    go_wp2_with fail
    go_ret
    exact ⟨none, 0, 0, rfl, hide rfl, ByRow.nil _ _, Below.refl _ _⟩
  | some ad =>
    go_enter Try.func44, Try.ntmps44
    go_wp2_with (first
      | (at_builtin; refine wpList_byAppend rfl _ _ rfl w.heap.size _ _ [] xs rfl rfl (unhide R0) (unhide U) (by simp; omega) (by simp) ?_; simp only [List.length_nil, Nat.zero_add, List.nil_append]; intro a1 c1 w1 r1 g1 _; have R1 := hide r1; have B1 := hide ((Below.alloc (Below.refl w.heap.size w) (Nat.le_refl _) (.cells #[] 5)).grown g1 (by simp) (fun y hy => (unhide R0).ge y hy)); clear r1 g1)
      | fail)
    go_ret
    exact ⟨a1, _, c1, rfl, hide rfl, unhide R1, unhide B1⟩

end Go.Proofs.Ytongnlbdpfhngaa
