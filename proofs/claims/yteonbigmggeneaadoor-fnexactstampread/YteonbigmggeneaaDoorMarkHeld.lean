/-
  Marks over a list of marks, found again.
-/
import Derived.Test.YteonbigmggeneaaDoorMarkRowsOwn
import Derived.Deep.RegionHeld3
set_option linter.unusedVariables false
namespace Go.Proofs.YteonbigmggeneaaDoor
open Go.RowKit Go.Maps Go.Deep

set_option maxHeartbeats 3200000 in
theorem heldMarkS_row (w : World) (b off cap n : Nat) (k : Nat) (hk : k ≤ 1000000000000000) (hl : n ≤ 1048576) (hb : b < w.heap.size) (hc : MarkAt w b off (msMark k n)) :
    Calls Tryd.prog 15 #[.slice (some ⟨b, off, none⟩) n cap, .int .i64 (k : Int)] w fun e w' => e = .returned (.int .i64 ((k + 2 * n : Nat) : Int)) ∧ Below w.heap.size w w' := by
  have HC := hide (show ∀ j, j < n → w.cell? ⟨b, off + j * 2, none⟩ = some (.string (mText ((k + 2 * j : Nat) : Int))) ∧ w.cell? ⟨b, off + j * 2 + 1, none⟩ = some (.int .i64 (((k + 2 * j : Nat) : Int) + 1)) from fun j hj => by
    have hj' : j < (msMark k n).length := by rw [msMark_len]; exact hj
    have := hc j hj'
    rw [msMark_get] at this
    exact this)
  clear hc
  go_enter Tryd.func15, Tryd.ntmps15
  go_wp2_with fail
  go_loopw [1, 5] (fun kv i wr => ∃ j : Nat, j ≤ n ∧ i = .int .i64 j ∧ kv = .int .i64 ((k + 2 * j : Nat) : Int) ∧ Hid (Below w.heap.size w wr)) (fun _ i _ => n - (intOf i).toNat)
  case atStart => exact ⟨0, Nat.zero_le _, rfl, rfl, hide (Below.refl _ _)⟩
  case round =>
    obtain ⟨j, hj, rfl, rfl, HB⟩ := hrel
    by_cases hlt : j < n
    · have hkj : ((k + 2 * j : Nat) : Int) ≤ 999999999999999999 := by omega
      have HM := hide (fun W => markText_any ((k + 2 * j : Nat) : Int) hkj W)
      have HCJ := hide (fun (X : World) (bx : Below w.heap.size w X) => show X.cell? ⟨b, off + j * 2, none⟩ = some (.string (mText ((k + 2 * j : Nat) : Int))) ∧ X.cell? ⟨b, off + j * 2 + 1, none⟩ = some (.int .i64 (((k + 2 * j : Nat) : Int) + 1)) from ⟨(bx.cell (by exact hb)).trans (unhide HC j hlt).1, (bx.cell (by exact hb)).trans (unhide HC j hlt).2⟩)
      have hK1 : (0 : Int) ≤ ((k + 2 * j : Nat) : Int) := by omega
      have hK2 : ((k + 2 * j : Nat) : Int) ≤ 10000000000000000 := by omega
      have HKE := hide (show (((k + 2 * j : Nat) : Int) + 1 + 1 : Int) = ((k + 2 * (j + 1) : Nat) : Int) by omega)
      clear hkj
      generalize mText ((k + 2 * j : Nat) : Int) = mt at *
      generalize ((k + 2 * j : Nat) : Int) = K at *
      have HBD := hide (unhide HB).drew
      have KP := hide (show ∀ X : World, Below w.heap.size w X → X.cell? ⟨b, off + j * 2, none⟩ = some (.string mt) ∧ Hid (Below w.heap.size w X) from fun X h => ⟨(unhide HCJ X h).1, hide h⟩)
      obtain ⟨c0, c1⟩ := unhide HCJ wr (unhide HB)
      go_wp2_with fail
      go_region_held3 (fun X => X.cell? ⟨b, off + j * 2, none⟩ = some (.string mt) ∧ Hid (Below w.heap.size w X)) ((refine unhide KP _ ?_; exact unhide (by assumption)))
        (first | (go_at_call 30; refine (unhide HM _).mono ?_; rintro e w2 ⟨rfl, hb2⟩; have HB2 := hide ((unhide HBD).trans (hb2.mono (unhide HBD).size)); clear hb2))
      all_goals
        clear c0 c1
        obtain ⟨c0, c1⟩ := unhide HCJ w2 (unhide HB2)
        go_wp2_with fail
        go_roundw
        case rel => exact ⟨j + 1, by omega, by go_num, by rw [unhide HKE], HB2⟩
        case measure => simp [intOf]; omega
    · have e : j = n := by omega
      subst e
      go_wp2_with fail
      go_ret
      exact ⟨rfl, unhide HB⟩
theorem heldMarkS_none (w : World) (a : Option Addr) (cap : Nat) (K : Int) : Calls Tryd.prog 15 #[.slice a 0 cap, .int .i64 K] w fun e w' => e = .returned (.int .i64 K) ∧ w' = w := by
  go_enter Tryd.func15, Tryd.ntmps15
  go_wp2
  refine wp_loop_rounds 1 ?_
  rw [rounds_succ]
  go_wp2
  go_ret
  exact ⟨rfl, rfl⟩
theorem heldMarkS_rd (w : World) (v : Value) (n k : Nat) (hk : k ≤ 1000000000000000) (hl : n ≤ 1048576) (h : MarkSRd w v (msMark k n)) :
    Calls Tryd.prog 15 #[v, .int .i64 (k : Int)] w fun e w' => e = .returned (.int .i64 ((k + 2 * n : Nat) : Int)) ∧ Below w.heap.size w w' := by
  obtain ⟨a, c, rfl, h⟩ := h
  rw [msMark_len]
  rcases h with h0 | ⟨b, off, rfl, hb, hc⟩
  · have hn : n = 0 := by have := congrArg List.length h0; rwa [msMark_len] at this
    subst hn
    refine (heldMarkS_none w a c k).mono ?_
    rintro e w' ⟨rfl, rfl⟩
    exact ⟨by simp, Below.refl _ _⟩
  · exact heldMarkS_row w b off c n k hk hl hb hc
theorem heldMarkS_kit (ns : List MarkV) (v : Value) (w : World) (k n : Nat) (K : Int) (hK : K = (k : Int)) (hn : nMarkS ns = n) (hk : k ≤ 1000000000000000) (hs : SmallMarkS ns) (h : MarkSRd w v (marksMarkS k ns)) :
    Calls Tryd.prog 15 #[v, .int .i64 K] w fun e w' => e = .returned (.int .i64 (K + (n : Int))) ∧ Below w.heap.size w w' := by
  subst hK hn
  have hl := hs.1.1
  refine (heldMarkS_rd w v ns.length k hk hl h).mono ?_
  rintro e w' ⟨rfl, hb⟩
  exact ⟨by rw [show ((k + 2 * ns.length : Nat) : Int) = (k : Int) + ((nMarkS ns : Nat) : Int) by unfold nMarkS; omega], hb⟩
end Go.Proofs.YteonbigmggeneaaDoor
