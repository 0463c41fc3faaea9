/-
  The specification's SayOk.
-/
import Derived.Test.YtiebfcefmdiajaaGreatDoorSayMath
import Derived.BigQuiet
import Derived.Deep.QuietTactic
import Derived.Handy
import Derived.Laws.Cover1
set_option linter.unusedVariables false
namespace Go.Proofs.YtiebfcefmdiajaaGreatDoor
open Go.RowKit Go.Maps Go.Deep

set_option maxHeartbeats 3200000 in
theorem l9Stamp_row (w : World) (b off cap : Nat) (ns : List VerV) (hl : (ns.length : Int) ≤ 12) (hc : VerAt w b off ns) (hb : b < w.heap.size) (hs : VerOk ns) :
    Calls Tryz.prog 36 #[.slice (some ⟨b, off, none⟩) ns.length cap] w fun e w' => e = .returned (.bool (stampB ns)) ∧ Below w.heap.size w w' := by
  have HS := hide hs
  have HC := hide hc
  have g12 : ¬ 12 < (ns.length : Int) := by omega
  clear hs hc
  go_enter Tryz.func36, Tryz.ntmps36
  go_wp2_with fail
  go_loopw [3] (fun i wr => ∃ k : Nat, k ≤ ns.length ∧ i = .int .i64 k ∧ Hid (StampTo ns k) ∧ Hid (Below w.heap.size w wr)) (fun i _ => ns.length - (intOf i).toNat)
  case atStart => exact ⟨0, Nat.zero_le _, rfl, stamp_zero ns, Below.refl _ _⟩
  case round =>
    obtain ⟨k, hk, rfl, HG, HBr⟩ := hrel
    by_cases hlt : k < ns.length
    · obtain ⟨c0, c1⟩ := unhide HC k hlt
      rw [← (unhide HBr).cell (by exact hb)] at c0 c1
      have hname := hide (unhide HS _ (List.getElem_mem hlt)).1
      have HP := hide (fun W => specPlain9_any ns[k].a0 W (unhide hname))
      rcases ver_cases ns[k] with ⟨hv, p1, p2, p3⟩ | ⟨hv, hcase⟩
      · rw [p1] at HP
        by_cases hk0 : k = 0
        · have HG2 := hide (show StampTo ns (k + 1) by subst hk0; exact stamp_step0 hlt hv)
          have d0 : decide (0 < k) = false := by simp; omega
          clear hv hk0
          generalize ns[k].a0 = nm at *
          generalize ns[k].a1 = vl at *
          go_wp2_with fail
          refine (unhide HP _).mono ?_
          rintro e w1 ⟨rfl, hw⟩
          rw [hw]
          clear hw
          go_wp2_with fail
          go_quiet (fail)
          go_wp2_with fail
          go_roundw
          case rel => exact ⟨k + 1, by omega, by go_num, HG2, hide ((unhide HBr).trans ((belowN _ _).mono (unhide HBr).size))⟩
          case measure => simp [intOf]; omega
        · obtain ⟨j, hj⟩ : ∃ j, k = j + 1 := ⟨k - 1, by omega⟩
          have hjl : j < ns.length := by omega
          obtain ⟨e0, e1⟩ := unhide HC j hjl
          rw [← (unhide HBr).cell (by exact hb)] at e0 e1
          have HUP := hide (show lessS ns[j].a0 ns[k].a0 = true → StampTo ns (k + 1) by subst hj; exact stamp_step hlt (unhide HG) hv)
          have HDN := hide (show lessS ns[j].a0 ns[k].a0 = false → false = stampB ns by subst hj; exact fun h => (stamp_down hlt h).symm)
          unfold lessS at HUP HDN
          have hsub : (k : Int) - 1 = (j : Int) := by omega
          have hwr : IntKind.i64.wrap (j : Int) = (j : Int) := wrap_small _ (by omega) (by omega)
          have d0 : decide (0 < k) = true := by simp; omega
          have d1 : (j : Int) < (ns.length : Int) := by omega
          have d2 : (k : Int) < (ns.length : Int) := by omega
          clear hv hj hk0
          generalize ns[k].a0 = nm at *
          generalize ns[k].a1 = vl at *
          generalize ns[j].a0 = nj at *
          generalize ns[j].a1 = vj at *
          go_wp2_with fail
          refine (unhide HP _).mono ?_
          rintro e w1 ⟨rfl, hw⟩
          rw [hw]
          clear hw
          go_wp2_with fail
          go_quiet (fail)
          cases hless : Op.bytesLess nj.toList nm.toList
          · go_wp2_with fail
            go_ret
            exact ⟨ret_bool (unhide HDN hless), (unhide HBr).trans ((belowN _ _).mono (unhide HBr).size)⟩
          · have HG2 := hide (unhide HUP hless)
            go_wp2_with fail
            go_roundw
            case rel => exact ⟨k + 1, by omega, by go_num, HG2, hide ((unhide HBr).trans ((belowN _ _).mono (unhide HBr).size))⟩
            case measure => simp [intOf]; omega
      · have HR := hide (stamp_bad hlt hv).symm
        clear hv
        generalize ns[k].a0 = nm at *
        generalize ns[k].a1 = vl at *
        rcases hcase with p1 | ⟨p1, p2⟩ | ⟨p1, p2, p3⟩
        all_goals
          rw [p1] at HP
          go_wp2_with fail
          refine (unhide HP _).mono ?_
          rintro e w1 ⟨rfl, hw⟩
          rw [hw]
          clear hw
          go_wp2_with fail
          go_ret
          exact ⟨ret_bool (unhide HR), unhide HBr⟩
    · have e : k = ns.length := by omega
      have HR := hide (show true = stampB ns from (stamp_good (by omega) (by rw [e] at HG; exact unhide HG)).symm)
      clear e
      go_wp2_with fail
      go_ret
      exact ⟨ret_bool (unhide HR), unhide HBr⟩
theorem l9Stamp_none (w : World) (a : Option Addr) (cap : Nat) : Calls Tryz.prog 36 #[.slice a 0 cap] w fun e w' => e = .returned (.bool (stampB [])) ∧ Below w.heap.size w w' := by
  go_enter Tryz.func36, Tryz.ntmps36
  go_wp2_with fail
  refine wp_loop_rounds 1 ?_
  rw [rounds_succ]
  go_wp2_with fail
  go_ret
  exact ⟨rfl, Below.refl _ _⟩
theorem l9Stamp_long (w : World) (a : Option Addr) (cap : Nat) (ns : List VerV) (hl : ¬ (ns.length : Int) ≤ 12) : Calls Tryz.prog 36 #[.slice a ns.length cap] w fun e w' => e = .returned (.bool (stampB ns)) ∧ Below w.heap.size w w' := by
  have HR := hide (show false = stampB ns from (stamp_long (by omega)).symm)
  have g : 12 < (ns.length : Int) := by omega
  generalize ns.length = n at *
  go_enter Tryz.func36, Tryz.ntmps36
  go_wp2_with fail
  go_ret
  exact ⟨ret_bool (unhide HR), Below.refl _ _⟩
theorem l9Stamp_any (w : World) (v : Value) (ns : List VerV) (hs : VerOk ns) (h : VerRd w v ns) : Calls Tryz.prog 36 #[v] w fun e w' => e = .returned (.bool (stampB ns)) ∧ Below w.heap.size w w' := by
  obtain ⟨a, c, rfl, h⟩ := h
  by_cases hl : (ns.length : Int) ≤ 12
  · rcases h with rfl | ⟨b, off, rfl, hb, hc⟩
    · exact l9Stamp_none w a c
    · exact l9Stamp_row w b off c ns hl hc hb hs
  · exact l9Stamp_long w a c ns hl
end Go.Proofs.YtiebfcefmdiajaaGreatDoor
