/-
  New rows of bytes: the specification's l6Bytes, bytes.Clone, slices.Concat of two.
-/
import Derived.Test.YtlgmmibncoedgaaByAppend
import Derived.Test.YtlgmmibncoedgaaMerged2
import Derived.Lib.SliceRun
set_option linter.unusedVariables false
namespace Go.Proofs.Ytlgmmibncoedgaa
open Go.RowKit Go.Maps Go.Deep

theorem byLit (w : World) (B : Nat) (hB : B ≤ w.heap.size) : ByRow B (w.alloc (.cells #[] 5)) (.slice (some ⟨w.heap.size, 0, none⟩) 0 0) [] :=
  World.ownsRow_lit (size := 1) w #[] 0 hB (by unfold maxLen; omega) rfl
/-- a new row of these bytes is handed back -/
def RetRow1 (bs : List UInt8) (w : World) (e : Ending) (w' : World) : Prop := ∃ a n c, e = .returned (.slice a n c) ∧ Hid (n = bs.length) ∧ ByRow w.heap.size w' (.slice a n c) bs ∧ Below w.heap.size w w'


set_option maxHeartbeats 1600000 in
theorem clone_any (w : World) (u : Value) (xs : List UInt8) (hu : ByRd w u xs) (hl : xs.length ≤ 140737488355328) :
    Calls Try.prog 45 #[u] w fun e w' => RetRow1 xs w e w' := by
  have q22 : ∀ (w : World) (a : Option Addr) (n c n' c' : Nat), (binOp .eql 22 (.slice a n c) (.slice none n' c')).run Try.prog w = .ok (.bool a.isNone) w := fun w a n c n' c' => Lib.run_eql_slice_nil w _ _ a n c n' c' Try.underlying22
  have R0 := hide (byLit w w.heap.size (Nat.le_refl _))
  have U := hide (hu.up ((Below.refl _ _).alloc (Nat.le_refl _) (.cells #[] 5)))
  have UI := hide hu
  obtain ⟨a, c, rfl⟩ := hu.len
  clear hu
  cases a with
  | none =>
    have hx : xs = [] := by
      obtain ⟨a, c, e, h⟩ := unhide UI
      rcases h with h | ⟨b, off, e2, _⟩
      · exact h
      · subst e2; cases e
    subst hx
    go_enter Try.func45, Try.ntmps45
    go_wp2_with fail
    go_ret
    exact ⟨none, 0, 0, rfl, hide rfl, ByRow.nil _ _, Below.refl _ _⟩
  | some ad =>
    go_enter Try.func45, Try.ntmps45
    go_wp2_with (first
      | (at_builtin; refine wpList_byAppend rfl _ _ rfl w.heap.size _ _ [] xs rfl rfl (unhide R0) (unhide U) (by simp; omega) (by simp) ?_; simp only [List.length_nil, Nat.zero_add, List.nil_append]; intro a1 c1 w1 r1 g1 _; have R1 := hide r1; have B1 := hide ((Below.alloc (Below.refl w.heap.size w) (Nat.le_refl _) (.cells #[] 5)).grown g1 (by simp) (fun y hy => (unhide R0).ge y hy)); clear r1 g1)
      | fail)
    go_ret
    exact ⟨a1, _, c1, rfl, hide rfl, unhide R1, unhide B1⟩

theorem underInt : Try.prog.underlying 3 = some (.int .i64) := Try.underlying3
set_option maxHeartbeats 800000 in
theorem growBy_pos (w : World) (n : Nat) (h1 : 1 ≤ n) (h2 : n ≤ 100000) : Calls Try.prog 67 #[.slice none 0 0, .int .i64 n] w fun e w' => ∃ a c, e = .returned (.slice a 0 c) ∧ Hid (ByRow w.heap.size w' (.slice a 0 c) [] ∧ Below w.heap.size w w') := by
  obtain ⟨i0, hi, hz0, hz1, hz2⟩ := info_parts1 infoByte
  have hrun := fun ty => run_append_made (P := Try.prog) w 22 3 ty 5 i0 _ Try.underlying22 underInt hi hz0 hz1 n (by omega) (by omega) (by omega)
  have hge := grownCap_ge w n 0 5
  have hcm : grownCap w n 0 5 ≤ maxLen := grownCap_le_maxLen w n 0 5 (by unfold maxLen; omega)
  have HP := hide (show ByRow w.heap.size (w.drew.alloc (.cells (Builtin.zeroCells (Value.cells (.int .u8 0)) n ++ Builtin.zeroCells (Value.cells (.int .u8 0)) (grownCap w n 0 5 - n)) 5)) (.slice (some ⟨w.heap.size, 0, none⟩) 0 (grownCap w n 0 5)) [] ∧ Below w.heap.size w (w.drew.alloc (.cells (Builtin.zeroCells (Value.cells (.int .u8 0)) n ++ Builtin.zeroCells (Value.cells (.int .u8 0)) (grownCap w n 0 5 - n)) 5)) from
    ⟨⟨rfl, .inr ⟨w.heap.size, _, _, rfl, Nat.le_refl _, heap_alloc_new w.drew _, Nat.zero_le _, hcm, by simp only [Array.size_append, size_zeroCells]; simp [Value.cells]; omega, by simp⟩⟩, (Below.refl w.heap.size w).drew.alloc (Nat.le_refl _) _⟩)
  generalize grownCap w n 0 5 = cap at hrun hge hcm HP
  generalize (w.drew.alloc (.cells (Builtin.zeroCells (Value.cells (.int .u8 0)) n ++ Builtin.zeroCells (Value.cells (.int .u8 0)) (cap - n)) 5)) = w1 at hrun HP
  clear hz0 hz1 hz2 hi hcm
  have HR := hide hrun
  clear hrun
  go_enter Try.func67, Try.ntmps67
  go_wp2_with (first | (at_builtin; refine wpList_append_made rfl _ _ _ _ rfl _ _ _ rfl rfl (unhide HR _) ?_) | fail)
  go_ret
  exact ⟨_, _, rfl, HP⟩
theorem growBy_any (w : World) (n : Nat) (h2 : n ≤ 100000) : Calls Try.prog 67 #[.slice none 0 0, .int .i64 n] w fun e w' => ∃ a c, e = .returned (.slice a 0 c) ∧ Hid (ByRow w.heap.size w' (.slice a 0 c) [] ∧ Below w.heap.size w w') := by
  by_cases h1 : 1 ≤ n
  · exact growBy_pos w n h1 h2
  · obtain rfl : n = 0 := by omega
    go_enter Try.func67, Try.ntmps67
    go_wp2
    go_ret
    exact ⟨_, _, rfl, hide ⟨ByRow.nil _ _, Below.refl _ _⟩⟩

set_option maxHeartbeats 1600000 in
theorem concat2_any (w : World) (sb sc : Nat) (u v : Value) (xs ys : List UInt8) (hsb : sb < w.heap.size) (h0 : w.cell? ⟨sb, 0, none⟩ = some u) (h1 : w.cell? ⟨sb, 1, none⟩ = some v) (hu : ByRd w u xs) (hv : ByRd w v ys) (hl : xs.length + ys.length ≤ 100000) :
    Calls Try.prog 40 #[.slice (some ⟨sb, 0, none⟩) 2 sc] w fun e w' => RetRow1 (xs ++ ys) w e w' := by
  have U := hide hu
  have V := hide hv
  obtain ⟨au, cu, rfl⟩ := hu.len
  obtain ⟨av, cv, rfl⟩ := hv.len
  clear hu hv
  generalize hnx : xs.length = nx at *
  generalize hny : ys.length = ny at *
  have HNX := hide hnx
  have HNY := hide hny
  clear hnx hny
  have q0 : ¬ (nx : Int) < 0 := by omega
  have q1 : ¬ (nx : Int) + (ny : Int) < 0 := by omega
  go_enter Try.func40, Try.ntmps40
  go_wp2_with fail
  refine wp_loop_rounds 3 ?_
  rw [rounds_succ]
  go_wp2_with fail
  rw [rounds_succ]
  go_wp2_with fail
  rw [rounds_succ]
  go_wp2_with fail
  refine (growBy_any w (nx + ny) (by omega)).mono ?_
  rintro e w1 ⟨a1, c1, rfl, P1⟩
  have k0 : w1.cell? ⟨sb, 0, none⟩ = some (.slice au nx cu) := ((unhide P1).2.cell (by exact hsb)).trans h0
  have K0 := hide h1
  have U1 := hide (show ByRd w1 (.slice au nx cu) xs from (unhide U).up (unhide P1).2)
  have V1 := hide (show ByRd w1 (.slice av ny cv) ys from (unhide V).up (unhide P1).2)
  clear h0 h1
  go_wp2_with fail
  refine wp_loop_rounds 3 ?_
  rw [rounds_succ]
  go_wp2_with (first
    | (at_builtin; refine wpList_byAppend rfl _ _ rfl w.heap.size _ _ [] xs rfl rfl (unhide P1).1 (unhide U1) (by rw [unhide HNX]; simp; omega) (unhide P1).2.size ?_; simp only [List.length_nil, Nat.zero_add, List.nil_append]; rw [show xs.length = nx from unhide HNX]; intro a2 c2 w2 r2 g2 _; have R2 := hide r2; have B2 := hide ((unhide P1).2.grown g2 (unhide P1).2.size (fun y hy => (unhide P1).1.ge y hy)); clear r2 g2)
    | fail)
  have k1 : w2.cell? ⟨sb, 1, none⟩ = some (.slice av ny cv) := ((unhide B2).cell (by exact hsb)).trans (unhide K0)
  have V2 := hide (show ByRd w2 (.slice av ny cv) ys from (unhide V).up (unhide B2))
  clear k0
  rw [rounds_succ]
  go_wp2_with (first
    | (at_builtin; refine wpList_byAppend rfl _ _ rfl w.heap.size _ _ xs ys rfl rfl (unhide R2) (unhide V2) (by rw [unhide HNX, unhide HNY]; omega) (unhide B2).size ?_; rw [show xs.length = nx from unhide HNX, show ys.length = ny from unhide HNY]; intro a3 c3 w3 r3 g3 _; have R3 := hide r3; have B3 := hide ((unhide B2).grown g3 (unhide B2).size (fun y hy => (unhide R2).ge y hy)); clear r3 g3)
    | fail)
  clear k1
  rw [rounds_succ]
  go_wp2_with fail
  go_ret
  exact ⟨a3, _, c3, rfl, by rw [List.length_append, unhide HNX, unhide HNY]; exact hide rfl, unhide R3, unhide B3⟩
end Go.Proofs.Ytlgmmibncoedgaa
