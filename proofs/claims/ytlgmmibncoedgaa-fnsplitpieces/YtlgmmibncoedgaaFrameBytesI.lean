/-
  FrameBytes of the program.
-/
import Derived.Test.YtlgmmibncoedgaaMerged6
import Derived.Test.YtlgmmibncoedgaaMerged15
set_option linter.unusedVariables false
namespace Go.Proofs.Ytlgmmibncoedgaa
open Go.RowKit Go.Maps Go.Deep

def headV (n : Nat) : Value := .agg #[.int .u8 245, .int .u8 ((beB (n : Int) 1).toNat : Int), .int .u8 ((beB (n : Int) 0).toNat : Int)]
theorem beB_one (n : Nat) : ((beB (n : Int) 1).toNat : Int) = (n : Int) / 256 % 256 := by rw [beB_val]; rfl
theorem beB_zero (n : Nat) : ((beB (n : Int) 0).toNat : Int) = (n : Int) % 256 := by rw [beB_val]; simp; rfl
set_option maxHeartbeats 3200000 in
theorem headFor_any (n : Nat) (w : World) (hn : n ≤ 1048576) : Calls Try.prog 39 #[.int .i64 (n : Int)] w fun e w' => e = .returned (headV n) ∧ Below w.heap.size w w' := by
  unfold headV
  rw [beB_one, beB_zero]
  go_enter Try.func39, Try.ntmps39
  go_wp2_with fail
  exact bodyPost_ret (v := .agg #[.int .u8 245, .int .u8 ((n : Int) / 256 % 256), .int .u8 ((n : Int) % 256)]) (by simp [results, Try.results39, go_sem]) rfl ⟨rfl, by go_grown⟩
theorem headRow (w : World) (n : Nat) (T : TypeId) : ByRd (w.alloc (.cells #[.int .u8 245, .int .u8 ((beB (n : Int) 1).toNat : Int), .int .u8 ((beB (n : Int) 0).toNat : Int)] T)) (.slice (some ⟨w.heap.size, 0, none⟩) 3 3) [245, beB (n : Int) 1, beB (n : Int) 0] := by
  refine ⟨_, 3, rfl, .inr ⟨w.heap.size, 0, rfl, by simp, fun i hi => ?_⟩, Nat.le_refl _⟩
  rw [World.cell?_alloc_at _ _ _ _ (by simp)]
  match i, hi with
  | 0, _ => rfl
  | 1, _ => rfl
  | 2, _ => rfl
theorem pairRow (w : World) (u v : Value) (T : TypeId) (g : Nat) (hg : g = w.heap.size) : g < (w.alloc (.cells #[u, v] T)).heap.size ∧ (w.alloc (.cells #[u, v] T)).cell? ⟨g, 0, none⟩ = some u ∧ (w.alloc (.cells #[u, v] T)).cell? ⟨g, 1, none⟩ = some v := by
  subst hg
  refine ⟨by simp, ?_, ?_⟩
  all_goals
    rw [World.cell?_alloc_at _ _ _ _ rfl]
    rfl
set_option maxHeartbeats 3200000 in
theorem implFrame_any (body : List UInt8) (v : Value) (w : World) (hl : body.length ≤ 1048576) (h : ByRd w v body) :
    Calls Try.prog 10 #[v] w fun e w' => ∃ v S, e = .returned (.tuple #[v, .bool (frameFitB body)]) ∧ Hid (ByOwn S w' v (frameL body)) ∧ Hid (∀ k ∈ S, w.heap.size ≤ k) ∧ Below w.heap.size w w' := by
  obtain ⟨a, c, rfl⟩ := h.len
  have HFI := hide (show fitI (body.length : Int) = frameFitB body by unfold fitI frameFitB; congr 1 <;> (rw [decide_eq_decide]; omega))
  cases hfit : frameFitB body
  · have HV := hide (show frameL body = [] by simp [frameL, hfit])
    have HFB := hide ((unhide HFI).trans hfit)
    clear h hfit
    generalize body.length = n at *
    go_enter Try.func10, Try.ntmps10
    go_wp2_with fail
    refine (bodySizeOk_any _ _).mono ?_
    rintro e w1 ⟨rfl, hw⟩
    rw [hw, unhide HFB]
    clear hw w1
    go_wp2_with fail
    go_ret2
    exact ⟨_, [], rfl, by rw [unhide HV]; exact ByOwn.nil _ _ _, hide (by intro k hk; cases hk), by go_grown⟩
  · have HFB := hide ((unhide HFI).trans hfit)
    have hn : body.length ≤ 260 := by simp [frameFitB] at hfit; omega
    have HV := hide (show frameL body = (frameHd body ++ body) ++ putL 2 [saySum (frameHd body ++ body)] by simp [frameL, hfit, putL])
    have HD := hide (show [245, beB (body.length : Int) 1, beB (body.length : Int) 0] = frameHd body from rfl)
    have HL3 := hide (hd_len body)
    have HR := hide h
    clear h hfit
    go_enter Try.func10, Try.ntmps10
    go_wp2_with fail
    refine (bodySizeOk_any _ _).mono ?_
    rintro e w1 ⟨rfl, hw⟩
    rw [hw, unhide HFB]
    clear hw w1
    go_wp2_with fail
    refine (headFor_any body.length w (by omega)).mono ?_
    rintro e w1 ⟨rfl, b1⟩
    have B1 := hide b1
    have U1 := hide (headRow w1 body.length 68)
    rw [unhide HD] at U1
    have B2 := hide ((unhide B1).alloc (unhide B1).size (.cells #[.int .u8 245, .int .u8 ((beB (body.length : Int) 1).toNat : Int), .int .u8 ((beB (body.length : Int) 0).toNat : Int)] 68))
    unfold headV
    generalize ((beB (body.length : Int) 1).toNat : Int) = y1 at *
    generalize ((beB (body.length : Int) 0).toNat : Int) = y0 at *
    clear b1
    go_wp2_with fail
    obtain ⟨p0, p1, p2⟩ := pairRow (w1.alloc (.cells #[.int .u8 245, .int .u8 y1, .int .u8 y0] 68)) (.slice (some ⟨w1.heap.size, 0, none⟩) 3 3) (.slice a body.length c) 22 (w1.heap.size + 1) (by simp)
    have B3 := hide ((unhide B2).alloc (unhide B2).size (.cells #[.slice (some ⟨w1.heap.size, 0, none⟩) 3 3, .slice a body.length c] 22))
    have U3 := hide ((unhide U1).up ((Below.refl _ _).alloc (Nat.le_refl _) (.cells #[.slice (some ⟨w1.heap.size, 0, none⟩) 3 3, .slice a body.length c] 22)))
    refine (concat2_any _ (w1.heap.size + 1) 2 _ _ (frameHd body) body p0 p1 p2 (unhide U3) ((unhide HR).up (unhide B3)) (by rw [unhide HL3]; omega)).mono ?_
    rintro e w4 ⟨a4, n4, c4, rfl, HN4, r4, b4⟩
    have R4 := hide (r4.mono (unhide B3).size)
    have B4 := hide ((unhide B3).trans (b4.mono (unhide B3).size))
    clear p0 p1 p2 r4 b4 U1 U3 B1 B2 B3
    go_wp2_with fail
    refine (implSSum_any _ _ (frameHd body ++ body) (by rw [List.length_append, unhide HL3]; unfold maxLen; omega) (unhide R4).rd).mono ?_
    rintro e w5 ⟨rfl, hw⟩
    rw [hw]
    clear hw
    have R5 := hide ((unhide R4).up' (.cells #[.int .i64 (saySum (frameHd body ++ body))] 3))
    have B5 := hide ((unhide B4).alloc (unhide B4).size (.cells #[.int .i64 (saySum (frameHd body ++ body))] 3))
    have HAW := hide (show (Value.slice a4 n4 c4).ownBlock ≠ some w4.heap.size from fun e => by have := (unhide R4).lt _ e; omega)
    go_wp2_with fail
    refine (putNums_any w.heap.size _ _ _ _ (frameHd body ++ body) 2 w4.heap.size 1 [saySum (frameHd body ++ body)] (by omega) (by simp) (by rw [List.length_append, unhide HL3]; omega) (unhide B5).size (unhide HAW) (unhide R5) (nums1 (numsOne w4 _ 3))).mono ?_
    rintro e w6 ⟨a6, n6, c6, rfl, P6⟩
    have R6 := hide (unhide P6).1
    have B6 := hide (show Below w.heap.size w w6 from (unhide B5).trans ((unhide P6).2.1.below (unhide B5).size (ownL_ge (unhide R5))))
    clear P6
    go_wp2_with fail
    go_ret2
    obtain ⟨S, s1, s2, _⟩ := (unhide R6).own
    exact ⟨_, S, rfl, by rw [unhide HV]; exact s1, s2, unhide B6⟩
end Go.Proofs.Ytlgmmibncoedgaa
