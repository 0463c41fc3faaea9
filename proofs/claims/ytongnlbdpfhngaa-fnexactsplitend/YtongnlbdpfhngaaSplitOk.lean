/-
  SplitOk of both sides.
-/
import Derived.Test.YtongnlbdpfhngaaSplits
set_option linter.unusedVariables false
namespace Go.Proofs.Ytongnlbdpfhngaa
open Go.RowKit Go.Maps Go.Deep

theorem next_zero {bs : List UInt8} : (nextI bs == 0) = waitB bs := by
  unfold nextI
  by_cases g1 : frameSz bs < 0
  · have : waitB bs = false := by simp [waitB]; omega
    rw [if_pos g1, this]
    rfl
  · rw [if_neg g1]
    cases waitB bs
    · simp
      split <;> simp
    · simp
theorem wait_nil : waitB [] = true := rfl
theorem box2 {w w2 : World} {x0 x1 : Value} {T : TypeId} (hb : Below (w.alloc (.cells #[x0, x1] T)).heap.size (w.alloc (.cells #[x0, x1] T)) w2) :
    w2.cell? ⟨w.heap.size, 0, none⟩ = some x0 ∧ w2.cell? ⟨w.heap.size, 1, none⟩ = some x1 := by
  refine ⟨?_, ?_⟩
  all_goals
    rw [hb.cell (by simp), World.cell?_alloc_at _ _ _ _ rfl]
    rfl
set_option maxHeartbeats 3200000 in
theorem specSplitOk_any (d : SplitV) (v : Value) (w : World) (hs : SmallSplit d) (h : SplitRd w v d) :
    Calls Try.prog 14 #[v] w fun e w' => e = .returned (.bool (splitOkB d)) ∧ Below w.heap.size w w' := by
  obtain ⟨v0, rfl, h0⟩ := h
  obtain ⟨buf, lost⟩ := d
  simp only [SmallSplit] at hs h0 ⊢
  have HN := hide (fun W (b : Below w.heap.size w W) => next_any buf v0 W hs (h0.up b))
  obtain ⟨a, c, rfl⟩ := h0.len
  clear h0
  by_cases g1 : lost < 0
  · have HR := hide (show false = splitOkB ⟨buf, lost⟩ by simp [splitOkB]; omega)
    generalize buf.length = n at *
    go_enter Try.func14, Try.ntmps14
    go_wp2_with fail
    go_ret
    exact ⟨ret_bool (unhide HR), by go_grown⟩
  · by_cases g2 : 270 < (buf.length : Int)
    · have HR := hide (show false = splitOkB ⟨buf, lost⟩ by simp [splitOkB]; omega)
      generalize buf.length = n at *
      go_enter Try.func14, Try.ntmps14
      go_wp2_with fail
      go_ret
      exact ⟨ret_bool (unhide HR), by go_grown⟩
    · by_cases g3 : buf.length = 0
      · have HR := hide (show true = splitOkB ⟨buf, lost⟩ by
          obtain rfl := List.eq_nil_of_length_eq_zero g3
          simp [splitOkB, wait_nil]
          omega)
        rw [g3] at g2 ⊢
        go_enter Try.func14, Try.ntmps14
        go_wp2_with fail
        go_ret
        exact ⟨ret_bool (unhide HR), by go_grown⟩
      · have HR := hide (show (nextI buf == 0) = splitOkB ⟨buf, lost⟩ by
          rw [next_zero]
          simp only [splitOkB]
          rw [show decide (0 ≤ lost) = true by simp; omega, show decide (buf.length ≤ 270) = true by simp; omega]
          simp)
        have q0 : ((buf.length : Int) == 0) = false := by rw [beq_eq_false_iff_ne]; omega
        clear g3
        generalize buf.length = n at *
        go_enter Try.func14, Try.ntmps14
        go_wp2_with fail
        refine (unhide HN _ (by go_grown)).mono ?_
        rintro e w1 ⟨rfl, b1⟩
        have B1 := hide (show Below w.heap.size w w1 from Below.trans (by go_grown) (b1.mono (by simp)))
        clear b1
        go_wp2_with fail
        go_ret
        exact ⟨ret_bool (unhide HR), unhide B1⟩
set_option maxHeartbeats 3200000 in
theorem implSplitOk_any (d : SplitV) (v : Value) (w : World) (hs : SmallSplit d) (h : SplitRd w v d) :
    Calls Try.prog 17 #[v] w fun e w' => e = .returned (.bool (splitOkB d)) ∧ Below w.heap.size w w' := by
  obtain ⟨v0, rfl, h0⟩ := h
  obtain ⟨buf, lost⟩ := d
  simp only [SmallSplit] at hs h0 ⊢
  have HN := hide (fun g W (b : Below w.heap.size w W) (hg : g < W.heap.size) (hc : W.cell? ⟨g, 0, none⟩ = some v0) => waits_any buf v0 g W hs hg hc (h0.up b))
  obtain ⟨a, c, rfl⟩ := h0.len
  clear h0
  by_cases g1 : lost < 0
  · have HR := hide (show false = splitOkB ⟨buf, lost⟩ by simp [splitOkB]; omega)
    have g1' : ¬ 0 ≤ lost := by omega
    generalize buf.length = n at *
    go_enter Try.func17, Try.ntmps17
    go_wp2_with fail
    go_ret
    exact ⟨ret_bool (unhide HR), by go_grown⟩
  · have g1' : 0 ≤ lost := by omega
    by_cases g2 : 270 < (buf.length : Int)
    · have HR := hide (show false = splitOkB ⟨buf, lost⟩ by simp [splitOkB]; omega)
      have g2' : ¬ (buf.length : Int) ≤ 270 := by omega
      generalize buf.length = n at *
      go_enter Try.func17, Try.ntmps17
      go_wp2_with fail
      go_ret
      exact ⟨ret_bool (unhide HR), by go_grown⟩
    · have HR := hide (show waitB buf = splitOkB ⟨buf, lost⟩ by
        simp only [splitOkB]
        rw [show decide (0 ≤ lost) = true by simp; omega, show decide (buf.length ≤ 270) = true by simp; omega]
        simp)
      have g2' : (buf.length : Int) ≤ 270 := by omega
      generalize buf.length = n at *
      go_enter Try.func17, Try.ntmps17
      go_wp2_with fail
      refine (unhide HN _ _ (by go_grown) ?_ ?_).mono ?_
      · simp
      · rw [World.cell?_alloc_at _ _ _ _ (by simp)]; rfl
      rintro e w1 ⟨rfl, b1⟩
      have B1 := hide (show Below w.heap.size w w1 from Below.trans (by go_grown) (b1.mono (by simp; omega)))
      clear b1
      go_wp2_with fail
      go_ret
      exact ⟨ret_bool (unhide HR), unhide B1⟩
end Go.Proofs.Ytongnlbdpfhngaa
