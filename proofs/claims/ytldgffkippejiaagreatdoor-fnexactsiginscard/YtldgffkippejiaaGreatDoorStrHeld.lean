/-
  Marks over a list of texts, found again.
-/
import Derived.Test.YtldgffkippejiaaGreatDoorStrRows
import Derived.Deep.RegionHeld3
set_option linter.unusedVariables false
namespace Go.Proofs.YtldgffkippejiaaGreatDoor
open Go.RowKit Go.Maps Go.Deep

set_option maxHeartbeats 3200000 in
theorem heldStringS_row (w : World) (b off cap : Nat) (ts : List ByteArray) (k : Nat) (hk : k ≤ 1000000000000000) (hl : ts.length ≤ 1048576) (hb : b < w.heap.size) (hc : StrsAt w b off (marksStringS k ts)) :
    Calls Tryz.prog 9 #[.slice (some ⟨b, off, none⟩) ts.length cap, .int .i64 (k : Int)] w fun e w' => e = .returned (.int .i64 ((k + ts.length : Nat) : Int)) ∧ Below w.heap.size w w' := by
  have HC := hide (show ∀ j, j < ts.length → w.cell? ⟨b, off + j, none⟩ = some (.string (mText ((k + j : Nat) : Int))) from fun j hj => by
    have hj' : j < (marksStringS k ts).length := by rw [marksStringS_len]; exact hj
    have := hc j hj'
    simpa [marksStringS] using this)
  clear hc
  generalize ts.length = n at *
  go_enter Tryz.func9, Tryz.ntmps9
  go_wp2_with fail
  go_loopw [1, 5] (fun kv i wr => ∃ j : Nat, j ≤ n ∧ i = .int .i64 j ∧ kv = .int .i64 ((k + j : Nat) : Int) ∧ Hid (Below w.heap.size w wr)) (fun _ i _ => n - (intOf i).toNat)
  case atStart => exact ⟨0, Nat.zero_le _, rfl, rfl, hide (Below.refl _ _)⟩
  case round =>
    obtain ⟨j, hj, rfl, rfl, HB⟩ := hrel
    by_cases hlt : j < n
    · have hkj : ((k + j : Nat) : Int) ≤ 999999999999999999 := by omega
      have HM := hide (fun W => markText_any ((k + j : Nat) : Int) hkj W)
      have HCJ := hide (fun (X : World) (bx : Below w.heap.size w X) => show X.cell? ⟨b, off + j, none⟩ = some (.string (mText ((k + j : Nat) : Int))) from (bx.cell (by exact hb)).trans (unhide HC j hlt))
      have hK1 : (0 : Int) ≤ ((k + j : Nat) : Int) := by omega
      have hK2 : ((k + j : Nat) : Int) ≤ 10000000000000000 := by omega
      have HKE := hide (show (((k + j : Nat) : Int) + 1 : Int) = ((k + (j + 1) : Nat) : Int) by omega)
      clear hkj
      generalize mText ((k + j : Nat) : Int) = mt at *
      generalize ((k + j : Nat) : Int) = K at *
      have HBD := hide (unhide HB).drew
      have KP := hide (show ∀ X : World, Below w.heap.size w X → X.cell? ⟨b, off + j, none⟩ = some (.string mt) ∧ Hid (Below w.heap.size w X) from fun X h => ⟨unhide HCJ X h, hide h⟩)
      have c0 := unhide HCJ wr (unhide HB)
      go_wp2_with fail
      go_region_held3 (fun X => X.cell? ⟨b, off + j, none⟩ = some (.string mt) ∧ Hid (Below w.heap.size w X)) ((refine unhide KP _ ?_; exact unhide (by assumption)))
        (first | (go_at_call 18; refine (unhide HM _).mono ?_; rintro e w2 ⟨rfl, hb2⟩; have HB2 := hide ((unhide HBD).trans (hb2.mono (unhide HBD).size)); clear hb2))
      all_goals
        clear c0
        go_wp2_with fail
        go_roundw
        case rel => exact ⟨j + 1, by omega, by go_num, by rw [unhide HKE], HB2⟩
        case measure => simp [intOf]; omega
    · have e : j = n := by omega
      subst e
      go_wp2_with fail
      go_ret
      exact ⟨rfl, unhide HB⟩
theorem heldStringS_none (w : World) (a : Option Addr) (cap : Nat) (K : Int) : Calls Tryz.prog 9 #[.slice a 0 cap, .int .i64 K] w fun e w' => e = .returned (.int .i64 K) ∧ w' = w := by
  go_enter Tryz.func9, Tryz.ntmps9
  go_wp2
  refine wp_loop_rounds 1 ?_
  rw [rounds_succ]
  go_wp2
  go_ret
  exact ⟨rfl, rfl⟩
theorem heldStringS_kit (ts : List ByteArray) (v : Value) (w : World) (k n : Nat) (K : Int) (hK : K = (k : Int)) (hn : nStringS ts = n) (hk : k ≤ 1000000000000000) (hs : SmallStringS ts) (h : StringSRd w v (marksStringS k ts)) :
    Calls Tryz.prog 9 #[v, .int .i64 K] w fun e w' => e = .returned (.int .i64 (K + (n : Int))) ∧ Below w.heap.size w w' := by
  subst hK hn
  obtain ⟨a, c, rfl, h⟩ := h
  rw [marksStringS_len]
  rcases h with h0 | ⟨b, off, rfl, hb, hc⟩
  · have hn : ts = [] := List.eq_nil_of_length_eq_zero (by have := congrArg List.length h0; rwa [marksStringS_len] at this)
    subst hn
    refine (heldStringS_none w a c k).mono ?_
    rintro e w' ⟨rfl, rfl⟩
    exact ⟨by simp [nStringS], Below.refl _ _⟩
  · refine (heldStringS_row w b off c ts k hk hs.1 hb hc).mono ?_
    rintro e w' ⟨rfl, b⟩
    exact ⟨by rw [show ((k + ts.length : Nat) : Int) = (k : Int) + ((nStringS ts : Nat) : Int) by unfold nStringS; omega], b⟩
end Go.Proofs.YtldgffkippejiaaGreatDoor
