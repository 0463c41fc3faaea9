/-
  Marks over a list of words, found again.
-/
import Derived.Test.YtpekcpjlappkgaaDoorWordRowsOwn
import Derived.Deep.RegionHeld3
set_option linter.unusedVariables false
namespace Go.Proofs.YtpekcpjlappkgaaDoor
open Go.RowKit Go.Maps Go.Deep

set_option maxHeartbeats 6400000 in
theorem heldWordS_row (w : World) (b off cap n : Nat) (k : Nat) (hk : k ≤ 1000000000) (hl : n ≤ 1048576) (hb : b < w.heap.size) (hc : WordAt w b off (msWord k n)) :
    Calls Tryd.prog 9 #[.slice (some ⟨b, off, none⟩) n cap, .int .i64 (k : Int)] w fun e w' => e = .returned (.int .i64 ((k + 3 * n : Nat) : Int)) ∧ Below w.heap.size w w' := by
  have HC := hide (show ∀ j, j < n → w.cell? ⟨b, off + j * 3, none⟩ = some (.int .i64 ((k + 3 * j : Nat) : Int)) ∧ w.cell? ⟨b, off + j * 3 + 1, none⟩ = some (.string (mText (((k + 3 * j : Nat) : Int) + 1))) ∧ w.cell? ⟨b, off + j * 3 + 2, none⟩ = some (.int .i64 (((k + 3 * j : Nat) : Int) + 1 + 1)) from fun j hj => by
    have hj' : j < (msWord k n).length := by rw [msWord_len]; exact hj
    have := hc j hj'
    rw [msWord_get] at this
    exact this)
  clear hc
  go_enter Tryd.func9, Tryd.ntmps9
  go_wp2_with fail
  go_loopw [1, 5] (fun kv i wr => ∃ j : Nat, j ≤ n ∧ i = .int .i64 j ∧ kv = .int .i64 ((k + 3 * j : Nat) : Int) ∧ Hid (Below w.heap.size w wr)) (fun _ i _ => n - (intOf i).toNat)
  case atStart => exact ⟨0, Nat.zero_le _, rfl, rfl, hide (Below.refl _ _)⟩
  case round =>
    obtain ⟨j, hj, rfl, rfl, HB⟩ := hrel
    by_cases hlt : j < n
    · have hkj : ((k + 3 * j : Nat) : Int) ≤ 9999999999 := by omega
      have HM1 := hide (fun W => markText_any (((k + 3 * j : Nat) : Int) + 1) (by omega) W)
      have HCJ := hide (fun (X : World) (bx : Below w.heap.size w X) => show X.cell? ⟨b, off + j * 3, none⟩ = some (.int .i64 ((k + 3 * j : Nat) : Int)) ∧ X.cell? ⟨b, off + j * 3 + 1, none⟩ = some (.string (mText (((k + 3 * j : Nat) : Int) + 1))) ∧ X.cell? ⟨b, off + j * 3 + 2, none⟩ = some (.int .i64 (((k + 3 * j : Nat) : Int) + 1 + 1)) from ⟨(bx.cell (by exact hb)).trans (unhide HC j hlt).1, (bx.cell (by exact hb)).trans (unhide HC j hlt).2.1, (bx.cell (by exact hb)).trans (unhide HC j hlt).2.2⟩)
      have hK1 : (0 : Int) ≤ ((k + 3 * j : Nat) : Int) := by omega
      have hK2 : ((k + 3 * j : Nat) : Int) ≤ 10000000000 := by omega
      have HKE := hide (show (((k + 3 * j : Nat) : Int) + 1 + 1 + 1 : Int) = ((k + 3 * (j + 1) : Nat) : Int) by omega)
      clear hkj
      generalize ((k + 3 * j : Nat) : Int) = K at *
      generalize mText (K + 1) = mt1 at *
      have HBD := hide (unhide HB).drew
      have KP := hide (show ∀ X : World, Below w.heap.size w X → X.cell? ⟨b, off + j * 3 + 1, none⟩ = some (.string mt1) ∧ Hid (Below w.heap.size w X) from fun X h => ⟨(unhide HCJ X h).2.1, hide h⟩)
      obtain ⟨c0, c1, c2⟩ := unhide HCJ wr (unhide HB)
      go_wp2_with fail
      go_region_held3 (fun X => X.cell? ⟨b, off + j * 3 + 1, none⟩ = some (.string mt1) ∧ Hid (Below w.heap.size w X)) ((refine unhide KP _ ?_; exact unhide (by assumption)))
        (first | (go_at_call 14; refine (unhide HM1 _).mono ?_; rintro e w2 ⟨rfl, hb2⟩; have HB2 := hide ((unhide HBD).trans (hb2.mono (unhide HBD).size)); clear hb2))
      all_goals
        clear c0 c1 c2
        obtain ⟨c0, c1, c2⟩ := unhide HCJ w2 (unhide HB2)
        clear HBD
        go_wp2_with fail
        go_roundw
        case rel => exact ⟨j + 1, by omega, by go_num, by rw [unhide HKE], HB2⟩
        case measure => simp [intOf]; omega
    · have e : j = n := by omega
      subst e
      go_wp2_with fail
      go_ret
      exact ⟨rfl, unhide HB⟩
theorem heldWordS_none (w : World) (a : Option Addr) (cap : Nat) (K : Int) : Calls Tryd.prog 9 #[.slice a 0 cap, .int .i64 K] w fun e w' => e = .returned (.int .i64 K) ∧ w' = w := by
  go_enter Tryd.func9, Tryd.ntmps9
  go_wp2
  refine wp_loop_rounds 1 ?_
  rw [rounds_succ]
  go_wp2
  go_ret
  exact ⟨rfl, rfl⟩
theorem heldWordS_kit (ns : List WordV) (v : Value) (w : World) (k n : Nat) (K : Int) (hK : K = (k : Int)) (hn : nWordS ns = n) (hk : k ≤ 1000000000) (hs : SmallWordS ns) (h : WordSRd w v (marksWordS k ns)) :
    Calls Tryd.prog 9 #[v, .int .i64 K] w fun e w' => e = .returned (.int .i64 (K + (n : Int))) ∧ Below w.heap.size w w' := by
  subst hK hn
  have hl := hs.1.1
  obtain ⟨a, c, rfl, h⟩ := h
  unfold marksWordS at h ⊢
  rw [msWord_len]
  rcases h with h0 | ⟨b, off, rfl, hb, hc⟩
  · have hn : ns.length = 0 := by have := congrArg List.length h0; rwa [msWord_len] at this
    have e : ns = [] := List.eq_nil_of_length_eq_zero hn
    subst e
    refine (heldWordS_none w a c k).mono ?_
    rintro e w' ⟨rfl, rfl⟩
    exact ⟨by simp [nWordS], Below.refl _ _⟩
  · refine (heldWordS_row w b off c ns.length k hk hl hb hc).mono ?_
    rintro e w' ⟨rfl, hb⟩
    exact ⟨by rw [show ((k + 3 * ns.length : Nat) : Int) = (k : Int) + ((nWordS ns : Nat) : Int) by unfold nWordS; omega], hb⟩
end Go.Proofs.YtpekcpjlappkgaaDoor
