/-
  FrameBytes of the specification.
-/
import Derived.Test.YtlgmmibncoedgaaMerged6
import Derived.Handy
set_option linter.unusedVariables false
namespace Go.Proofs.Ytlgmmibncoedgaa
open Go.RowKit Go.Maps Go.Deep

theorem byRow1 (w : World) (c : UInt8) (B : Nat) (hB : B ≤ w.heap.size) : ByRow B (w.alloc (.cells #[.int .u8 (c.toNat : Int)] 5)) (.slice (some ⟨w.heap.size, 0, none⟩) 1 1) [c] := by
  have := World.ownsRow_lit (size := 1) (base := B) (e := 5) w #[.int .u8 (c.toNat : Int)] 1 hB (by unfold maxLen; omega) rfl
  unfold ByRow
  simp only [List.map, byV]
  exact this
theorem hd_len (body : List UInt8) : (frameHd body).length = 3 := by simp [frameHd, beL_length]
theorem frameL_len (body : List UInt8) : (frameL body).length ≤ 1000 := by
  unfold frameL
  split
  · rename_i h
    simp [frameFitB] at h
    simp [hd_len, beL_length]
    omega
  · simp
set_option maxHeartbeats 3200000 in
theorem specFrame_row (body : List UInt8) (v : Value) (w : World) (hl : body.length ≤ 1048576) (h : ByRd w v body) :
    Calls Try.prog 79 #[v] w fun e w' => ∃ v, e = .returned (.tuple #[v, .bool (frameFitB body)]) ∧ Hid (ByRow w.heap.size w' v (frameL body)) ∧ Below w.heap.size w w' := by
  obtain ⟨a, c, rfl⟩ := h.len
  by_cases g1 : body.length < 1
  · have HB := hide (show frameFitB body = false by simp [frameFitB]; omega)
    have HV := hide (show frameL body = [] by simp [frameL, unhide HB])
    have g1' : (body.length : Int) < 1 := by omega
    clear h g1
    generalize body.length = n at *
    go_enter Try.func79, Try.ntmps79
    go_wp2_with fail
    go_ret2
    exact ⟨_, by rw [unhide HB]; rfl, hide (by rw [unhide HV]; exact ByRow.nil _ _), Below.refl _ _⟩
  · have g1' : ¬ (body.length : Int) < 1 := by omega
    by_cases g2 : 260 < body.length
    · have HB := hide (show frameFitB body = false by simp [frameFitB]; omega)
      have HV := hide (show frameL body = [] by simp [frameL, unhide HB])
      have g2' : 260 < (body.length : Int) := by omega
      clear h g1 g2
      generalize body.length = n at *
      go_enter Try.func79, Try.ntmps79
      go_wp2_with fail
      go_ret2
      exact ⟨_, by rw [unhide HB]; rfl, hide (by rw [unhide HV]; exact ByRow.nil _ _), Below.refl _ _⟩
    · have g2' : ¬ 260 < (body.length : Int) := by omega
      have HB := hide (show frameFitB body = true by simp [frameFitB]; omega)
      have HV := hide (show frameL body = (frameHd body ++ body) ++ beL (saySum (frameHd body ++ body)) 2 by simp [frameL, unhide HB])
      have HD := hide (show [(245 : UInt8)] ++ beL (body.length : Int) 2 = frameHd body from rfl)
      have HL3 := hide (hd_len body)
      have HR := hide h
      have hn : body.length ≤ 260 := by omega
      have HN := hide (show body.length ≤ 260 by omega)
      have R0 := hide (byRow1 w 245 w.heap.size (Nat.le_refl _))
      have B0 := hide ((Below.refl w.heap.size w).alloc (Nat.le_refl _) (.cells #[.int .u8 245] 5))
      clear h g1 g2
      go_enter Try.func79, Try.ntmps79
      go_wp2_with fail
      refine (l9Put_any w.heap.size _ _ 1 1 [(245 : UInt8)] (body.length : Int) 2 (by omega) (by simp) (by simp) (unhide R0)).mono ?_
      rintro e w1 ⟨a1, n1, c1, rfl, P1⟩
      have R1 := hide (show ByRow w.heap.size w1 (.slice a1 n1 c1) (frameHd body) by rw [← unhide HD]; exact (unhide P1).1)
      have B1 := hide (show Below w.heap.size w w1 from (unhide B0).trans ((unhide P1).2.1.below (unhide B0).size (ownL_ge (unhide R0))))
      clear P1
      go_wp2_with (first
        | (at_builtin; refine wpList_byAppend rfl _ _ rfl w.heap.size _ _ (frameHd body) body rfl rfl (unhide R1) ((unhide HR).up (unhide B1)) (by rw [unhide HL3]; omega) (unhide B1).size ?_; intro a2 c2 w2 r2 g2 _; generalize (frameHd body).length + body.length = n2 at *; have R2 := hide r2; have B2 := hide ((unhide B1).grown g2 (unhide B1).size (fun y hy => (unhide R1).ge y hy)); clear r2 g2)
        | fail)
      refine (specSSum_any _ _ (frameHd body ++ body) (by rw [List.length_append, unhide HL3]; unfold maxLen; omega) (unhide R2).rd).mono ?_
      rintro e w3 ⟨rfl, hw⟩
      rw [hw]
      clear hw
      go_wp2_with fail
      refine (l9Put_any w.heap.size w2 _ _ _ (frameHd body ++ body) _ 2 (by omega) (by rw [List.length_append, unhide HL3]; omega) (unhide B2).size (unhide R2)).mono ?_
      rintro e w4 ⟨a4, n4, c4, rfl, P4⟩
      have R4 := hide (unhide P4).1
      have B4 := hide (show Below w.heap.size w w4 from (unhide B2).trans ((unhide P4).2.1.below (unhide B2).size (ownL_ge (unhide R2))))
      clear P4
      go_wp2_with fail
      go_ret2
      exact ⟨_, by rw [unhide HB]; rfl, hide (by rw [unhide HV]; exact unhide R4), unhide B4⟩
theorem specFrame_any (body : List UInt8) (v : Value) (w : World) (hl : body.length ≤ 1048576) (h : ByRd w v body) :
    Calls Try.prog 79 #[v] w fun e w' => ∃ v, e = .returned (.tuple #[v, .bool (frameFitB body)]) ∧ Hid (ByRd w' v (frameL body)) ∧ Below w.heap.size w w' := by
  refine (specFrame_row body v w hl h).mono ?_
  rintro e w' ⟨v, rfl, h1, h2⟩
  exact ⟨v, rfl, hide (unhide h1).rd, h2⟩
end Go.Proofs.Ytlgmmibncoedgaa
