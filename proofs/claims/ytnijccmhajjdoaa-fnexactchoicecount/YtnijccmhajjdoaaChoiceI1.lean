/-
  The program's windowsOk: which windows may be chosen from.
-/
import Derived.Test.YtnijccmhajjdoaaMerged7
import Derived.Test.YtnijccmhajjdoaaMerged3
import Derived.Handy
set_option linter.unusedVariables false
namespace Go.Proofs.Ytnijccmhajjdoaa
open Go.RowKit Go.Maps Go.Deep

set_option maxHeartbeats 3200000 in
theorem windowsOk_any (ws : List (List ItemV)) (v : Value) (w : World) (hs : SmallItemSS ws) (h : ItemSSRd w v ws) :
    Calls Try.prog 23 #[v] w fun e w' => e = .returned (.bool (winsB ws)) ∧ Below w.heap.size w w' := by
  obtain ⟨a, c, rfl, h⟩ := h
  have hn := hs.1
  by_cases h1 : ws.length < 1
  · have HE := hide (winsB_no_len (.inl h1))
    rw [unhide HE]
    generalize ws.length = n at *
    clear h hs HE
    have h1' : (n : Int) < 1 := by omega
    go_enter Try.func23, Try.ntmps23
    go_wp2_with fail
    go_ret
    exact ⟨rfl, Below.refl _ _⟩
  by_cases h6 : 6 < ws.length
  · have HE := hide (winsB_no_len (.inr h6))
    rw [unhide HE]
    generalize ws.length = n at *
    clear h hs HE
    have h1' : ¬ (n : Int) < 1 := by omega
    have h6' : 6 < (n : Int) := by omega
    go_enter Try.func23, Try.ntmps23
    go_wp2_with fail
    go_ret
    exact ⟨rfl, Below.refl _ _⟩
  rcases h with rfl | ⟨b, off, rfl, hb, hc⟩
  · simp at h1
  have HC := hide hc
  have HS := hide hs.2
  have h1' : ¬ (ws.length : Int) < 1 := by omega
  have h6' : ¬ 6 < (ws.length : Int) := by omega
  clear hc hs
  go_enter Try.func23, Try.ntmps23
  go_wp2_with fail
  go_loopw [15] (fun i wr => ∃ (k : Nat), k ≤ ws.length ∧ i = .int .i64 k ∧ Hid (∀ j (hj : j < ws.length), j < k → windowB orderOut ws[j] = true) ∧ Hid (Below w.heap.size w wr)) (fun i _ => ws.length - (intOf i).toNat)
  case atStart => exact ⟨0, Nat.zero_le _, rfl, hide (fun j _ hj => absurd hj (Nat.not_lt_zero _)), Below.refl _ _⟩
  case round =>
    obtain ⟨k, hk, rfl, HN, HB⟩ := hrel
    by_cases hlt : k < ws.length
    · obtain ⟨v, c0, hv⟩ := (unhide HC).up hb (unhide HB) k hlt
      have HV := hide (implWindow_any ws[k] v wr (unhide HS _ (List.getElem_mem hlt)) hv)
      have HNO := hide (fun h => winsB_no hlt h)
      have HYES := hide (show windowB orderOut ws[k] = true → ∀ j (hj : j < ws.length), j < k + 1 → windowB orderOut ws[j] = true from fun h j hj hjk => by
        by_cases e : j = k
        · subst e; exact h
        · exact unhide HN j hj (by omega))
      obtain ⟨va, vn, vc, rfl⟩ := hv.form
      clear hv
      cases hw : windowB orderOut ws[k]
      · rw [hw] at HV
        have HE := hide (unhide HNO hw)
        clear HYES HNO hw
        go_wp2_with fail
        refine (unhide HV).mono ?_
        rintro e w1 ⟨rfl, b1⟩
        have B1 := hide ((unhide HB).trans (b1.mono (unhide HB).size))
        clear b1 c0
        go_wp2_with fail
        go_ret
        exact ⟨ret_bool (unhide HE).symm, unhide B1⟩
      · rw [hw] at HV
        have HY := hide (unhide HYES hw)
        clear HYES HNO hw
        go_wp2_with fail
        refine (unhide HV).mono ?_
        rintro e w1 ⟨rfl, b1⟩
        have B1 := hide ((unhide HB).trans (b1.mono (unhide HB).size))
        clear b1 c0
        go_wp2_with fail
        go_roundw
        case rel => exact ⟨k + 1, by omega, by go_num, HY, B1⟩
        case measure => simp [intOf]; omega
    · have HE := hide (winsB_yes (by omega) (by omega) (fun j hj => unhide HN j hj (by omega)))
      go_wp2_with fail
      go_ret
      exact ⟨ret_bool (unhide HE).symm, unhide HB⟩
end Go.Proofs.Ytnijccmhajjdoaa
