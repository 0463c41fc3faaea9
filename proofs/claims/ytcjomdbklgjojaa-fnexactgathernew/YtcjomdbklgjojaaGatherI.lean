/-
  The program's inputsOk: which inputs may be.
-/
import Derived.Test.YtcjomdbklgjojaaGatherMath
import Derived.Test.YtcjomdbklgjojaaShelfC
import Derived.Handy
set_option linter.unusedVariables false
namespace Go.Proofs.Ytcjomdbklgjojaa
open Go.RowKit Go.Maps Go.Deep

theorem contains_hasG (names : List ByteArray) (s : ByteArray) : Lib.containsS names s = hasG names s := by
  rw [Bool.eq_iff_iff, Lib.containsS_iff, hasG_iff]
set_option maxHeartbeats 6400000 in
theorem inputsOk_any (ins : List ByteArray) (a : Option Addr) (c : Nat) (w : World) (hs : SmallStringS ins) (hcap : ins.length ≤ c) (h : StrsIn w a ins) :
    Calls Try.prog 14 #[.slice a ins.length c] w fun e w' => e = .returned (.bool (insB ins)) ∧ Below w.heap.size w w' := by
  have hn := hs.1
  by_cases h1 : ins.length < 1
  · have HE := hide (insB_len (.inl h1))
    rw [unhide HE]
    generalize ins.length = n at *
    clear h hs HE
    have h1' : (n : Int) < 1 := by omega
    go_enter Try.func14, Try.ntmps14
    go_wp2_with fail
    go_ret
    exact ⟨rfl, Below.refl _ _⟩
  by_cases h6 : 6 < ins.length
  · have HE := hide (insB_len (.inr h6))
    rw [unhide HE]
    generalize ins.length = n at *
    clear h hs HE
    have h1' : ¬ (n : Int) < 1 := by omega
    have h6' : 6 < (n : Int) := by omega
    go_enter Try.func14, Try.ntmps14
    go_wp2_with fail
    go_ret
    exact ⟨rfl, Below.refl _ _⟩
  rcases h with rfl | ⟨b, off, rfl, hb, hc⟩
  · simp at h1
  have HC := hide hc
  have HS := hide hs.2
  have h1' : ¬ (ins.length : Int) < 1 := by omega
  have h6' : ¬ 6 < (ins.length : Int) := by omega
  clear hc hs
  go_enter Try.func14, Try.ntmps14
  go_wp2_with fail
  go_loopw [15] (fun i wr => ∃ (k : Nat), k ≤ ins.length ∧ i = .int .i64 k ∧ Hid (∀ j, j < k → inOkB ins j = true) ∧ Hid (Below w.heap.size w wr)) (fun i _ => ins.length - (intOf i).toNat)
  case atStart => exact ⟨0, Nat.zero_le _, rfl, hide (fun j hj => absurd hj (Nat.not_lt_zero _)), Below.refl _ _⟩
  case round =>
    obtain ⟨i, hk, rfl, HN, HB⟩ := hrel
    by_cases hlt : i < ins.length
    · have c0 := ((unhide HB).cell (show b < w.heap.size from hb)).trans (unhide HC i hlt)
      have HV := hide (implPlain_any ins[i] wr (by have := unhide HS _ (List.getElem_mem hlt); unfold maxLen; omega))
      have HNO := hide (fun h => insB_no hlt h)
      rw [inOk_get hlt] at HNO
      cases hp : plainB ins[i]
      · rw [hp] at HV
        have HE := hide (unhide HNO (by rw [hp]; rfl))
        clear HNO hp
        generalize ins[i] = t at *
        go_wp2_with fail
        refine (unhide HV).mono ?_
        rintro e w1 ⟨rfl, b1⟩
        have B1 := hide ((unhide HB).trans (b1.mono (unhide HB).size))
        clear b1 c0
        go_wp2_with fail
        go_ret
        exact ⟨ret_bool (unhide HE).symm, unhide B1⟩
      · rw [hp] at HV
        have HDUP := hide (fun (h : hasG (ins.take i) ins[i] = true) => unhide HNO (show (plainB ins[i] && !(hasG (ins.take i) ins[i])) = false by rw [h]; simp))
        have HYES := hide (show hasG (ins.take i) ins[i] = false → ∀ j, j < i + 1 → inOkB ins j = true from fun h j hj => by
          by_cases e : j = i
          · subst e; rw [inOk_get hlt, hp, h]; rfl
          · exact unhide HN j (by omega))
        have HCT := hide (fun (W : World) (bW : Below w.heap.size w W) => show Calls Try.prog 26 #[.slice (some ⟨b, off, none⟩) i c, .string ins[i]] W fun e w' => e = .returned (.bool (hasG (ins.take i) ins[i])) ∧ w' = W from by
          refine (Try.slices_Contains_string b off i c ins ins[i] W (by omega) (by omega) (fun j hj => by
            rw [(bW.cell (show b < w.heap.size from hb)).trans (unhide HC j hj)]
            simp [hj])).mono ?_
          rintro e w' ⟨rfl, rfl⟩
          refine ⟨?_, rfl⟩
          rw [contains_hasG])
        clear HNO hp HN
        generalize hasG (ins.take i) ins[i] = dup at *
        generalize ins[i] = t at *
        have hic : i ≤ c := by omega
        go_wp2_with fail
        refine (unhide HV).mono ?_
        rintro e w1 ⟨rfl, b1⟩
        have B1 := hide ((unhide HB).trans (b1.mono (unhide HB).size))
        clear b1 c0 HV
        go_wp2_with fail
        refine (unhide HCT _ (unhide B1)).mono ?_
        rintro e w2 ⟨rfl, hw⟩
        rw [hw]
        clear hw HCT
        cases dup
        · have HY := hide (unhide HYES rfl)
          go_wp2_with fail
          go_roundw
          case rel => exact ⟨i + 1, by omega, by go_num, HY, B1⟩
          case measure => simp [intOf]; omega
        · have HE := hide (unhide HDUP rfl)
          go_wp2_with fail
          go_ret
          exact ⟨ret_bool (unhide HE).symm, unhide B1⟩
    · have HE := hide (insB_yes (by omega) (by omega) (fun j hj => unhide HN j (by omega)))
      go_wp2_with fail
      go_ret
      exact ⟨ret_bool (unhide HE).symm, unhide HB⟩
end Go.Proofs.Ytcjomdbklgjojaa
