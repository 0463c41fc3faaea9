/-
  Marks over a list of records, found again.
-/
import Derived.Test.YthlcgghilmpboaaRecRowsOwn
import Derived.Deep.RegionHeld3
set_option linter.unusedVariables false
namespace Go.Proofs.Ythlcgghilmpboaa
open Go.RowKit Go.Maps Go.Deep

set_option maxHeartbeats 6400000 in
theorem heldRecS_row (w : World) (b off cap n : Nat) (k : Nat) (hk : k ≤ 1000000000) (hl : n ≤ 1048576) (hb : b < w.heap.size) (hc : RecAt w b off (msRec k n)) :
    Calls Try.prog 13 #[.slice (some ⟨b, off, none⟩) n cap, .int .i64 (k : Int)] w fun e w' => e = .returned (.int .i64 ((k + 4 * n : Nat) : Int)) ∧ Below w.heap.size w w' := by
  have HC := hide (show ∀ j, j < n → w.cell? ⟨b, off + j * 4, none⟩ = some (.int .i64 ((k + 4 * j : Nat) : Int)) ∧ w.cell? ⟨b, off + j * 4 + 1, none⟩ = some (.string (mText (((k + 4 * j : Nat) : Int) + 1))) ∧ w.cell? ⟨b, off + j * 4 + 2, none⟩ = some (.int .i64 (((k + 4 * j : Nat) : Int) + 1 + 1)) ∧ w.cell? ⟨b, off + j * 4 + 3, none⟩ = some (.string (mText (((k + 4 * j : Nat) : Int) + 1 + 1 + 1))) from fun j hj => by
    have hj' : j < (msRec k n).length := by rw [msRec_len]; exact hj
    have := hc j hj'
    rw [msRec_get] at this
    exact this)
  clear hc
  go_enter Try.func13, Try.ntmps13
  go_wp2_with fail
  go_loopw [1, 5] (fun kv i wr => ∃ j : Nat, j ≤ n ∧ i = .int .i64 j ∧ kv = .int .i64 ((k + 4 * j : Nat) : Int) ∧ Hid (Below w.heap.size w wr)) (fun _ i _ => n - (intOf i).toNat)
  case atStart => exact ⟨0, Nat.zero_le _, rfl, rfl, hide (Below.refl _ _)⟩
  case round =>
    obtain ⟨j, hj, rfl, rfl, HB⟩ := hrel
    by_cases hlt : j < n
    · have hkj : ((k + 4 * j : Nat) : Int) ≤ 9999999999 := by omega
      have HM1 := hide (fun W => markText_any (((k + 4 * j : Nat) : Int) + 1) (by omega) W)
      have HM3 := hide (fun W => markText_any (((k + 4 * j : Nat) : Int) + 1 + 1 + 1) (by omega) W)
      have HCJ := hide (fun (X : World) (bx : Below w.heap.size w X) => show X.cell? ⟨b, off + j * 4, none⟩ = some (.int .i64 ((k + 4 * j : Nat) : Int)) ∧ X.cell? ⟨b, off + j * 4 + 1, none⟩ = some (.string (mText (((k + 4 * j : Nat) : Int) + 1))) ∧ X.cell? ⟨b, off + j * 4 + 2, none⟩ = some (.int .i64 (((k + 4 * j : Nat) : Int) + 1 + 1)) ∧ X.cell? ⟨b, off + j * 4 + 3, none⟩ = some (.string (mText (((k + 4 * j : Nat) : Int) + 1 + 1 + 1))) from ⟨(bx.cell (by exact hb)).trans (unhide HC j hlt).1, (bx.cell (by exact hb)).trans (unhide HC j hlt).2.1, (bx.cell (by exact hb)).trans (unhide HC j hlt).2.2.1, (bx.cell (by exact hb)).trans (unhide HC j hlt).2.2.2⟩)
      have hK1 : (0 : Int) ≤ ((k + 4 * j : Nat) : Int) := by omega
      have hK2 : ((k + 4 * j : Nat) : Int) ≤ 10000000000 := by omega
      have HKE := hide (show (((k + 4 * j : Nat) : Int) + 1 + 1 + 1 + 1 : Int) = ((k + 4 * (j + 1) : Nat) : Int) by omega)
      clear hkj
      generalize ((k + 4 * j : Nat) : Int) = K at *
      generalize mText (K + 1) = mt1 at *
      generalize mText (K + 1 + 1 + 1) = mt3 at *
      have HBD := hide (unhide HB).drew
      have KP := hide (show ∀ X : World, Below w.heap.size w X → X.cell? ⟨b, off + j * 4 + 1, none⟩ = some (.string mt1) ∧ Hid (Below w.heap.size w X) from fun X h => ⟨(unhide HCJ X h).2.1, hide h⟩)
      have KP3 := hide (show ∀ X : World, Below w.heap.size w X → X.cell? ⟨b, off + j * 4 + 3, none⟩ = some (.string mt3) ∧ Hid (Below w.heap.size w X) from fun X h => ⟨(unhide HCJ X h).2.2.2, hide h⟩)
      obtain ⟨c0, c1, c2, c3⟩ := unhide HCJ wr (unhide HB)
      go_wp2_with fail
      go_region_held3 (fun X => X.cell? ⟨b, off + j * 4 + 1, none⟩ = some (.string mt1) ∧ Hid (Below w.heap.size w X)) ((refine unhide KP _ ?_; exact unhide (by assumption)))
        (first | (go_at_call 27; refine (unhide HM1 _).mono ?_; rintro e w2 ⟨rfl, hb2⟩; have HB2 := hide ((unhide HBD).trans (hb2.mono (unhide HBD).size)); clear hb2))
      all_goals
        clear c0 c1 c2 c3
        obtain ⟨c0, c1, c2, c3⟩ := unhide HCJ w2 (unhide HB2)
        have HBD2 := hide (unhide HB2).drew
        clear HBD
        go_wp2_with fail
        go_region_held3 (fun X => X.cell? ⟨b, off + j * 4 + 3, none⟩ = some (.string mt3) ∧ Hid (Below w.heap.size w X)) ((refine unhide KP3 _ ?_; exact unhide (by assumption)))
          (first | (go_at_call 27; refine (unhide HM3 _).mono ?_; rintro e w3 ⟨rfl, hb3⟩; have HB3 := hide ((unhide HBD2).trans (hb3.mono (unhide HBD2).size)); clear hb3))
        all_goals
          clear c0 c1 c2 c3
          obtain ⟨c0, c1, c2, c3⟩ := unhide HCJ w3 (unhide HB3)
          go_wp2_with fail
          go_roundw
          case rel => exact ⟨j + 1, by omega, by go_num, by rw [unhide HKE], HB3⟩
          case measure => simp [intOf]; omega
    · have e : j = n := by omega
      subst e
      go_wp2_with fail
      go_ret
      exact ⟨rfl, unhide HB⟩
theorem heldRecS_none (w : World) (a : Option Addr) (cap : Nat) (K : Int) : Calls Try.prog 13 #[.slice a 0 cap, .int .i64 K] w fun e w' => e = .returned (.int .i64 K) ∧ w' = w := by
  go_enter Try.func13, Try.ntmps13
  go_wp2
  refine wp_loop_rounds 1 ?_
  rw [rounds_succ]
  go_wp2
  go_ret
  exact ⟨rfl, rfl⟩
theorem heldRecS_kit (ns : List RecV) (v : Value) (w : World) (k n : Nat) (K : Int) (hK : K = (k : Int)) (hn : nRecS ns = n) (hk : k ≤ 1000000000) (hs : SmallRecS ns) (h : RecSRd w v (marksRecS k ns)) :
    Calls Try.prog 13 #[v, .int .i64 K] w fun e w' => e = .returned (.int .i64 (K + (n : Int))) ∧ Below w.heap.size w w' := by
  subst hK hn
  have hl := hs.1.1
  obtain ⟨a, c, rfl, h⟩ := h
  unfold marksRecS at h ⊢
  rw [msRec_len]
  rcases h with h0 | ⟨b, off, rfl, hb, hc⟩
  · have hn : ns.length = 0 := by have := congrArg List.length h0; rwa [msRec_len] at this
    have e : ns = [] := List.eq_nil_of_length_eq_zero hn
    subst e
    refine (heldRecS_none w a c k).mono ?_
    rintro e w' ⟨rfl, rfl⟩
    exact ⟨by simp [nRecS], Below.refl _ _⟩
  · refine (heldRecS_row w b off c ns.length k hk hl hb hc).mono ?_
    rintro e w' ⟨rfl, hb⟩
    exact ⟨by rw [show ((k + 4 * ns.length : Nat) : Int) = (k : Int) + ((nRecS ns : Nat) : Int) by unfold nRecS; omega], hb⟩
end Go.Proofs.Ythlcgghilmpboaa
