/-
  The specification's l16Ins: which inputs may be.
-/
import Derived.Test.YtcjomdbklgjojaaGatherMath
import Derived.Handy
import Derived.BigQuiet
import Derived.Deep.QuietTactic
set_option linter.unusedVariables false
namespace Go.Proofs.Ytcjomdbklgjojaa
open Go.RowKit Go.Maps Go.Deep

set_option maxHeartbeats 6400000 in
theorem l16Ins_any (ins : List ByteArray) (v : Value) (w : World) (hs : SmallStringS ins) (h : StringSRd w v ins) :
    Calls Try.prog 13 #[v] w fun e w' => e = .returned (.bool (insB ins)) ∧ Below w.heap.size w w' := by
  obtain ⟨a, c, rfl, h⟩ := h
  have hn := hs.1
  by_cases h1 : ins.length < 1
  · have HE := hide (insB_len (.inl h1))
    rw [unhide HE]
    generalize ins.length = n at *
    clear h hs HE
    have h1' : (n : Int) < 1 := by omega
    go_enter Try.func13, Try.ntmps13
    go_wp2_with fail
    go_ret
    exact ⟨rfl, Below.refl _ _⟩
  by_cases h6 : 6 < ins.length
  · have HE := hide (insB_len (.inr h6))
    rw [unhide HE]
    generalize ins.length = n at *
    clear h hs HE
    have h1' : ¬ (n : Int) < 1 := by omega
    have h6' : 6 < (n : Int) := by omega
    go_enter Try.func13, Try.ntmps13
    go_wp2_with fail
    go_ret
    exact ⟨rfl, Below.refl _ _⟩
  rcases h with rfl | ⟨b, off, rfl, hb, hc⟩
  · simp at h1
  have HC := hide hc
  have HS := hide hs.2
  have h1' : ¬ (ins.length : Int) < 1 := by omega
  have h6' : ¬ 6 < (ins.length : Int) := by omega
  clear hc hs
  go_enter Try.func13, Try.ntmps13
  go_wp2_with fail
  go_loopw [3] (fun i wr => ∃ (k : Nat), k ≤ ins.length ∧ i = .int .i64 k ∧ Hid (∀ j, j < k → inOkB ins j = true) ∧ Hid (Below w.heap.size w wr)) (fun i _ => ins.length - (intOf i).toNat)
  case atStart => exact ⟨0, Nat.zero_le _, rfl, hide (fun j hj => absurd hj (Nat.not_lt_zero _)), Below.refl _ _⟩
  case round =>
    obtain ⟨i, hk, rfl, HN, HB⟩ := hrel
    by_cases hlt : i < ins.length
    · have c0 := ((unhide HB).cell (show b < w.heap.size from hb)).trans (unhide HC i hlt)
      have HV := hide (specPlain13_any ins[i] wr (by have := unhide HS _ (List.getElem_mem hlt); unfold maxLen; omega))
      have HNO := hide (fun h => insB_no hlt h)
      rw [inOk_get hlt] at HNO
      cases hp : plainB ins[i]
      · rw [hp] at HV
        have HE := hide (unhide HNO (by rw [hp]; rfl))
        clear HNO hp
        generalize ins[i] = t at *
        go_wp2_with fail
        refine (unhide HV).mono ?_
        rintro e w1 ⟨rfl, hw⟩
        rw [hw]
        clear hw c0
        go_wp2_with fail
        go_ret
        exact ⟨ret_bool (unhide HE).symm, unhide HB⟩
      · rw [hp] at HV
        have HDUP := hide (fun (h : hasG (ins.take i) ins[i] = true) => unhide HNO (show (plainB ins[i] && !(hasG (ins.take i) ins[i])) = false by rw [h]; simp))
        have HYES := hide (show NewTo ins i i → ∀ j, j < i + 1 → inOkB ins j = true from fun h j hj => by
          by_cases e : j = i
          · subst e; rw [inOk_get hlt, hp, new_all hlt h]; rfl
          · exact unhide HN j (by omega))
        clear HNO hp HN
        obtain ⟨t, ht⟩ : ∃ t, ins[i] = t := ⟨_, rfl⟩
        have HTI := hide ht
        rw [ht] at c0 HV
        clear ht
        go_wp2_with fail
        refine (unhide HV).mono ?_
        rintro e w1 ⟨rfl, hw⟩
        rw [hw]
        clear hw c0 HV
        go_wp2_with fail
        go_loopw [4] (fun kk w2 => ∃ (k : Nat), k ≤ i ∧ kk = .int .i64 k ∧ Hid (NewTo ins i k) ∧ Hid (Below w.heap.size w w2)) (fun kk _ => i - (intOf kk).toNat)
        case atStart => exact ⟨0, Nat.zero_le _, rfl, hide (fun j _ _ hj => absurd hj (Nat.not_lt_zero _)), HB⟩
        case round =>
          obtain ⟨k, hki, rfl, HW, HB2⟩ := hrel
          by_cases hkl : k < i
          · have hkn : k < ins.length := by omega
            have c0 := ((unhide HB2).cell (show b < w.heap.size from hb)).trans (unhide HC i hlt)
            have c1 := ((unhide HB2).cell (show b < w.heap.size from hb)).trans (unhide HC k hkn)
            rw [unhide HTI] at c0
            by_cases he : ins[k] = t
            · have HE := hide (unhide HDUP (new_none hlt hkl (he.trans (unhide HTI).symm)))
              rw [he] at c1
              clear he
              go_wp2_with fail
              go_quiet (fail)
              have HBD := hide ((unhide HB2).trans ((belowN wr nq).mono (unhide HB2).size))
              clear c0 c1
              go_wp2_with fail
              go_ret
              exact ⟨ret_bool (unhide HE).symm, unhide HBD⟩
            · have HW2 := hide (show NewTo ins i (k + 1) from fun j hj hi hjk => by
                by_cases e : j = k
                · subst e; rw [unhide HTI]; exact he
                · exact unhide HW j hj hi (by omega))
              have q := str_neq he
              generalize ins[k] = s at *
              clear he
              go_wp2_with fail
              go_quiet (fail)
              have HBD := hide ((unhide HB2).trans ((belowN wr nq).mono (unhide HB2).size))
              clear c0 c1 q
              go_wp2_with fail
              go_roundw
              case rel => exact ⟨k + 1, by omega, by go_num, HW2, HBD⟩
              case measure => simp [intOf]; omega
          · obtain rfl : k = i := by omega
            have HY := hide (unhide HYES (unhide HW))
            go_wp2_with fail
            go_roundw
            case rel => exact ⟨k + 1, by omega, by go_num, HY, HB2⟩
            case measure => simp [intOf]; omega
    · have HE := hide (insB_yes (by omega) (by omega) (fun j hj => unhide HN j (by omega)))
      go_wp2_with fail
      go_ret
      exact ⟨ret_bool (unhide HE).symm, unhide HB⟩
end Go.Proofs.Ytcjomdbklgjojaa
