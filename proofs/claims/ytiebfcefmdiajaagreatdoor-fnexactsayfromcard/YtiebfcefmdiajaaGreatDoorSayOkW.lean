/-
  The specification's SayOk.
-/
import Derived.Test.YtiebfcefmdiajaaGreatDoorSayOkS
import Derived.Test.YtiebfcefmdiajaaGreatDoorSays
set_option linter.unusedVariables false
namespace Go.Proofs.YtiebfcefmdiajaaGreatDoor
open Go.RowKit Go.Maps Go.Deep

theorem ok_false {s : SayV} (h : decide (s.src ≠ s.dst) = false ∨ nodeB s.src = false ∨ nodeB s.dst = false ∨ plainB s.name = false ∨ tailB s = false) : false = sayOkB s := by
  unfold sayOkB
  rcases h with h | h | h | h | h <;> simp [h]
theorem ok_tail {s : SayV} (h1 : s.src ≠ s.dst) (h2 : nodeB s.src = true) (h3 : nodeB s.dst = true) (h4 : plainB s.name = true) : tailB s = sayOkB s := by
  unfold sayOkB
  simp [h1, h2, h3, h4]
theorem node_low {n : Int} (h : n < 0) : nodeB n = false := by simp [nodeB]; omega
theorem node_high {n : Int} (h : 9 < n) : nodeB n = false := by simp [nodeB]; omega
theorem node_ok {n : Int} (h0 : ¬ n < 0) (h1 : ¬ 9 < n) : nodeB n = true := by simp [nodeB]; omega
set_option maxHeartbeats 6400000 in
theorem specSayOk_val (kind src dst val : Int) (name : ByteArray) (stamp : List VerV) (a : Option Addr) (c : Nat) (w : World) (hs : SmallSay ⟨kind, src, dst, name, val, stamp⟩) (h : VerIn w a stamp) :
    Calls Tryz.prog 14 #[.agg #[.int .i64 kind, .int .i64 src, .int .i64 dst, .string name, .int .i64 val, .slice a stamp.length c]] w fun e w' => e = .returned (.bool (sayOkB ⟨kind, src, dst, name, val, stamp⟩)) ∧ Below w.heap.size w w' := by
  have HP := hide (fun W => specPlain9_any name W (by have := hs.1.1; unfold maxLen; simp only at this; omega))
  have HT := hide (fun W (b : Below w.heap.size w W) => l9Stamp_any W (.slice a stamp.length c) stamp hs.2.1.2.2 ⟨a, c, rfl, h.below b⟩)
  have hln : stamp.length ≤ 1048576 := hs.1.2.1
  clear hs h
  obtain ⟨R, HR⟩ : ∃ R, Hid (R = sayOkB ⟨kind, src, dst, name, val, stamp⟩) := ⟨_, rfl⟩
  rw [← unhide HR]
  by_cases g1 : src < 0
  · have HE := hide ((ok_false (s := ⟨kind, src, dst, name, val, stamp⟩) (.inr (.inl (node_low g1)))).trans (unhide HR).symm)
    generalize stamp.length = n at *
    go_enter Tryz.func14, Tryz.ntmps14
    go_wp2_with fail
    go_ret
    exact ⟨ret_bool (unhide HE), by go_grown⟩
  by_cases g2 : 9 < src
  · have HE := hide ((ok_false (s := ⟨kind, src, dst, name, val, stamp⟩) (.inr (.inl (node_high g2)))).trans (unhide HR).symm)
    generalize stamp.length = n at *
    go_enter Tryz.func14, Tryz.ntmps14
    go_wp2_with fail
    go_ret
    exact ⟨ret_bool (unhide HE), by go_grown⟩
  by_cases g3 : dst < 0
  · have HE := hide ((ok_false (s := ⟨kind, src, dst, name, val, stamp⟩) (.inr (.inr (.inl (node_low g3))))).trans (unhide HR).symm)
    generalize stamp.length = n at *
    go_enter Tryz.func14, Tryz.ntmps14
    go_wp2_with fail
    go_ret
    exact ⟨ret_bool (unhide HE), by go_grown⟩
  by_cases g4 : 9 < dst
  · have HE := hide ((ok_false (s := ⟨kind, src, dst, name, val, stamp⟩) (.inr (.inr (.inl (node_high g4))))).trans (unhide HR).symm)
    generalize stamp.length = n at *
    go_enter Tryz.func14, Tryz.ntmps14
    go_wp2_with fail
    go_ret
    exact ⟨ret_bool (unhide HE), by go_grown⟩
  by_cases g5 : src = dst
  · have HE := hide ((ok_false (s := ⟨kind, src, dst, name, val, stamp⟩) (.inl (by simp [g5]))).trans (unhide HR).symm)
    subst g5
    generalize stamp.length = n at *
    go_enter Tryz.func14, Tryz.ntmps14
    go_wp2_with fail
    go_ret
    exact ⟨ret_bool (unhide HE), by go_grown⟩
  have q5 : (src == dst) = false := by simpa using g5
  cases g6 : plainB name
  · have HE := hide ((ok_false (s := ⟨kind, src, dst, name, val, stamp⟩) (.inr (.inr (.inr (.inl g6))))).trans (unhide HR).symm)
    rw [g6] at HP
    clear g5 g6
    generalize stamp.length = n at *
    go_enter Tryz.func14, Tryz.ntmps14
    go_wp2_with fail
    refine (unhide HP _).mono ?_
    rintro e w1 ⟨rfl, hw⟩
    rw [hw]
    clear hw
    go_wp2_with fail
    go_ret
    exact ⟨ret_bool (unhide HE), by go_grown⟩
  rw [g6] at HP
  have HE := hide ((ok_tail (s := ⟨kind, src, dst, name, val, stamp⟩) g5 (node_ok g1 g2) (node_ok g3 g4) g6).trans (unhide HR).symm)
  clear g5 g6
  by_cases k2 : kind = 2
  · subst k2
    by_cases hl0 : stamp.length = 0
    · have HE2 := hide (show false = R by rw [← unhide HE]; simp [tailB, hl0])
      rw [hl0]
      go_enter Tryz.func14, Tryz.ntmps14
      go_wp2_with fail
      refine (unhide HP _).mono ?_
      rintro e w1 ⟨rfl, hw⟩
      rw [hw]
      clear hw
      go_wp2_with fail
      go_ret
      exact ⟨ret_bool (unhide HE2), by go_grown⟩
    · have HE2 := hide (show stampB stamp = R by rw [← unhide HE]; simp [tailB]; omega)
      have hl1 : (0 : Int) < (stamp.length : Int) := by omega
      clear hl0
      go_enter Tryz.func14, Tryz.ntmps14
      go_wp2_with fail
      refine (unhide HP _).mono ?_
      rintro e w1 ⟨rfl, hw⟩
      rw [hw]
      clear hw
      go_wp2_with fail
      refine (unhide HT _ (by go_grown)).mono ?_
      rintro e w2 ⟨rfl, b2⟩
      have B2 := hide (show Below w.heap.size w w2 from Below.trans (by go_grown) (b2.mono (by simp)))
      clear b2
      go_wp2_with fail
      go_ret
      exact ⟨ret_bool (unhide HE2), unhide B2⟩
  by_cases k1 : kind = 1 ∨ kind = 3
  · have HE2 := hide (show (decide (val = 0) && decide (stamp.length = 0)) = R by rw [← unhide HE]; simp [tailB, k2, k1])
    by_cases hv : val = 0
    · subst hv
      have HE3 := hide (show ((stamp.length : Int) == 0) = R by
        rw [← unhide HE2, Bool.eq_iff_iff]
        simp)
      clear k2
      generalize stamp.length = n at *
      rcases k1 with rfl | rfl
      all_goals
        go_enter Tryz.func14, Tryz.ntmps14
        go_wp2_with fail
        refine (unhide HP _).mono ?_
        rintro e w1 ⟨rfl, hw⟩
        rw [hw]
        clear hw
        go_wp2_with fail
        go_ret
        exact ⟨ret_bool (unhide HE3), by go_grown⟩
    · have HE3 := hide (show false = R by rw [← unhide HE2]; simp [hv])
      have qv : (val == 0) = false := by simpa using hv
      clear k2 hv
      generalize stamp.length = n at *
      rcases k1 with rfl | rfl
      all_goals
        go_enter Tryz.func14, Tryz.ntmps14
        go_wp2_with fail
        refine (unhide HP _).mono ?_
        rintro e w1 ⟨rfl, hw⟩
        rw [hw]
        clear hw
        go_wp2_with fail
        go_ret
        exact ⟨ret_bool (unhide HE3), by go_grown⟩
  · have HE2 := hide (show false = R by rw [← unhide HE]; simp [tailB, k2, k1])
    have q1 : (kind == 1) = false := by rw [beq_eq_false_iff_ne]; intro e; exact k1 (.inl e)
    have q2 : (kind == 2) = false := by simpa using k2
    have q3 : (kind == 3) = false := by rw [beq_eq_false_iff_ne]; intro e; exact k1 (.inr e)
    clear k1 k2
    generalize stamp.length = n at *
    go_enter Tryz.func14, Tryz.ntmps14
    go_wp2_with fail
    refine (unhide HP _).mono ?_
    rintro e w1 ⟨rfl, hw⟩
    rw [hw]
    clear hw
    go_wp2_with fail
    go_ret
    exact ⟨ret_bool (unhide HE2), by go_grown⟩
theorem specSayOk_any (d : SayV) (v : Value) (w : World) (hs : SmallSay d) (h : SayRd w v d) : Calls Tryz.prog 14 #[v] w fun e w' => e = .returned (.bool (sayOkB d)) ∧ Below w.heap.size w w' := by
  obtain ⟨v5, rfl, a, c, rfl, h⟩ := h
  exact specSayOk_val d.kind d.src d.dst d.val d.name d.stamp a c w hs h
end Go.Proofs.YtiebfcefmdiajaaGreatDoor
