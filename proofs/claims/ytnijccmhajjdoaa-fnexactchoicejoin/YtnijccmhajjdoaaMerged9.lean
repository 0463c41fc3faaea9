/-
  The program's agreesWithAll: whether a stamp agrees with each of some others.
-/
/-
  The program's windowsOk: which windows may be chosen from.
-/
import Derived.Test.YtnijccmhajjdoaaAgreeI
import Derived.Test.YtnijccmhajjdoaaAgreeS
import Derived.Test.YtnijccmhajjdoaaMerged11
import Derived.Handy
import Derived.Test.YtnijccmhajjdoaaChoiceMath
import Derived.Test.YtnijccmhajjdoaaMerged5
set_option linter.unusedVariables false
namespace Go.Proofs.Ytnijccmhajjdoaa
open Go.RowKit Go.Maps Go.Deep

def agAll (s : List MarkV) (ss : List (List MarkV)) : Bool := ss.all (agreeOut s)
theorem agAll_no {s : List MarkV} {ss : List (List MarkV)} {k : Nat} (hk : k < ss.length) (h : agreeOut s ss[k] = false) : agAll s ss = false := by
  unfold agAll
  rw [List.all_eq_false]
  exact ⟨ss[k], List.getElem_mem hk, by simp [h]⟩
theorem agAll_yes {s : List MarkV} {ss : List (List MarkV)} (h : ∀ k (hk : k < ss.length), agreeOut s ss[k] = true) : agAll s ss = true := by
  unfold agAll
  rw [List.all_eq_true]
  intro x hx
  obtain ⟨k, hk, rfl⟩ := List.getElem_of_mem hx
  exact h k hk
/-- the stamps that a row's cells have -/
def StsAt (w : World) (g : Nat) (ss : List (List MarkV)) : Prop := ∀ i (h : i < ss.length), ∃ a n c, w.cell? ⟨g, i, none⟩ = some (.slice a n c) ∧ MarkSRd w (.slice a n c) ss[i]
theorem StsAt.up {w w' : World} {g : Nat} {ss : List (List MarkV)} (h : StsAt w g ss) (hg : g < w.heap.size) (hw : Below w.heap.size w w') : StsAt w' g ss := by
  intro i hi
  obtain ⟨a, n, c, h1, h2⟩ := h i hi
  exact ⟨a, n, c, (hw.cell (by exact hg)).trans h1, h2.up hw⟩
set_option maxHeartbeats 3200000 in
theorem agreesWithAll_row (s : List MarkV) (ss : List (List MarkV)) (v : Value) (g cap : Nat) (w : World) (hs : SmallMarkS s) (hss : ∀ x ∈ ss, SmallMarkS x) (hl : ss.length ≤ 1048576) (hv : MarkSRd w v s) (hg : g < w.heap.size) (hc : StsAt w g ss) :
    Calls Try.prog 38 #[v, .slice (some ⟨g, 0, none⟩) ss.length cap] w fun e w' => e = .returned (.bool (agAll s ss)) ∧ Below w.heap.size w w' := by
  have HC := hide hc
  have HS := hide hss
  have HV := hide (fun (W : World) (b : Below w.heap.size w W) => hv.up b)
  obtain ⟨a, n, c, rfl⟩ := hv.form
  clear hc hss hv
  go_enter Try.func38, Try.ntmps38
  go_wp2_with fail
  go_loopw [9] (fun i wr => ∃ (k : Nat), k ≤ ss.length ∧ i = .int .i64 k ∧ Hid (∀ j (hj : j < ss.length), j < k → agreeOut s ss[j] = true) ∧ Hid (Below w.heap.size w wr)) (fun i _ => ss.length - (intOf i).toNat)
  case atStart => exact ⟨0, Nat.zero_le _, rfl, hide (fun j _ hj => absurd hj (Nat.not_lt_zero _)), Below.refl _ _⟩
  case round =>
    obtain ⟨k, hk, rfl, HN, HB⟩ := hrel
    by_cases hlt : k < ss.length
    · obtain ⟨xa, xn, xc, c0, hx⟩ := (unhide HC).up hg (unhide HB) k hlt
      have HA := hide (implAgree_any s (.slice a n c) ss[k] (.slice xa xn xc) wr hs (unhide HS _ (List.getElem_mem hlt)) (unhide HV _ (unhide HB)) hx)
      have HNO := hide (fun h => agAll_no (s := s) hlt h)
      have HYES := hide (show agreeOut s ss[k] = true → ∀ j (hj : j < ss.length), j < k + 1 → agreeOut s ss[j] = true from fun h j hj hjk => by
        by_cases e : j = k
        · subst e; exact h
        · exact unhide HN j hj (by omega))
      clear hx
      cases hw : agreeOut s ss[k]
      · rw [hw] at HA
        have HE := hide (unhide HNO hw)
        clear HYES HNO hw
        go_wp2_with fail
        refine (unhide HA).mono ?_
        rintro e w1 ⟨rfl, b1⟩
        have B1 := hide ((unhide HB).trans (b1.mono (unhide HB).size))
        clear b1 c0
        go_wp2_with fail
        go_ret
        exact ⟨ret_bool (unhide HE).symm, unhide B1⟩
      · rw [hw] at HA
        have HY := hide (unhide HYES hw)
        clear HYES HNO hw
        go_wp2_with fail
        refine (unhide HA).mono ?_
        rintro e w1 ⟨rfl, b1⟩
        have B1 := hide ((unhide HB).trans (b1.mono (unhide HB).size))
        clear b1 c0
        go_wp2_with fail
        go_roundw
        case rel => exact ⟨k + 1, by omega, by go_num, HY, B1⟩
        case measure => simp [intOf]; omega
    · have HE := hide (agAll_yes (fun j hj => unhide HN j hj (by omega)))
      go_wp2_with fail
      go_ret
      exact ⟨ret_bool (unhide HE).symm, unhide HB⟩
theorem agreesWithAll_none (s : List MarkV) (v : Value) (a : Option Addr) (cap : Nat) (w : World) (hv : MarkSRd w v s) :
    Calls Try.prog 38 #[v, .slice a 0 cap] w fun e w' => e = .returned (.bool (agAll s [])) ∧ Below w.heap.size w w' := by
  obtain ⟨va, n, c, rfl⟩ := hv.form
  go_enter Try.func38, Try.ntmps38
  go_wp2
  refine wp_loop_rounds 1 ?_
  rw [rounds_succ]
  go_wp2
  go_ret
  exact ⟨rfl, Below.refl _ _⟩
end Go.Proofs.Ytnijccmhajjdoaa

set_option linter.unusedVariables false
namespace Go.Proofs.Ytnijccmhajjdoaa
open Go.RowKit Go.Maps Go.Deep

set_option maxHeartbeats 3200000 in
theorem windowsOk_any (ws : List (List ItemV)) (v : Value) (w : World) (hs : SmallItemSS ws) (h : ItemSSRd w v ws) :
    Calls Try.prog 23 #[v] w fun e w' => e = .returned (.bool (winsB ws)) ∧ Below w.heap.size w w' := by
  obtain ⟨a, c, rfl, h⟩ := h
  have hn := hs.1
  by_cases h1 : ws.length < 1
  · have HE := hide (winsB_no_len (.inl h1))
    rw [unhide HE]
    generalize ws.length = n at *
    clear h hs HE
    have h1' : (n : Int) < 1 := by omega
    go_enter Try.func23, Try.ntmps23
    go_wp2_with fail
    go_ret
    exact ⟨rfl, Below.refl _ _⟩
  by_cases h6 : 6 < ws.length
  · have HE := hide (winsB_no_len (.inr h6))
    rw [unhide HE]
    generalize ws.length = n at *
    clear h hs HE
    have h1' : ¬ (n : Int) < 1 := by omega
    have h6' : 6 < (n : Int) := by omega
    go_enter Try.func23, Try.ntmps23
    go_wp2_with fail
    go_ret
    exact ⟨rfl, Below.refl _ _⟩
  rcases h with rfl | ⟨b, off, rfl, hb, hc⟩
  · simp at h1
  have HC := hide hc
  have HS := hide hs.2
  have h1' : ¬ (ws.length : Int) < 1 := by omega
  have h6' : ¬ 6 < (ws.length : Int) := by omega
  clear hc hs
  go_enter Try.func23, Try.ntmps23
  go_wp2_with fail
  go_loopw [15] (fun i wr => ∃ (k : Nat), k ≤ ws.length ∧ i = .int .i64 k ∧ Hid (∀ j (hj : j < ws.length), j < k → windowB orderOut ws[j] = true) ∧ Hid (Below w.heap.size w wr)) (fun i _ => ws.length - (intOf i).toNat)
  case atStart => exact ⟨0, Nat.zero_le _, rfl, hide (fun j _ hj => absurd hj (Nat.not_lt_zero _)), Below.refl _ _⟩
  case round =>
    obtain ⟨k, hk, rfl, HN, HB⟩ := hrel
    by_cases hlt : k < ws.length
    · obtain ⟨v, c0, hv⟩ := (unhide HC).up hb (unhide HB) k hlt
      have HV := hide (implWindow_any ws[k] v wr (unhide HS _ (List.getElem_mem hlt)) hv)
      have HNO := hide (fun h => winsB_no hlt h)
      have HYES := hide (show windowB orderOut ws[k] = true → ∀ j (hj : j < ws.length), j < k + 1 → windowB orderOut ws[j] = true from fun h j hj hjk => by
        by_cases e : j = k
        · subst e; exact h
        · exact unhide HN j hj (by omega))
      obtain ⟨va, vn, vc, rfl⟩ := hv.form
      clear hv
      cases hw : windowB orderOut ws[k]
      · rw [hw] at HV
        have HE := hide (unhide HNO hw)
        clear HYES HNO hw
        go_wp2_with fail
        refine (unhide HV).mono ?_
        rintro e w1 ⟨rfl, b1⟩
        have B1 := hide ((unhide HB).trans (b1.mono (unhide HB).size))
        clear b1 c0
        go_wp2_with fail
        go_ret
        exact ⟨ret_bool (unhide HE).symm, unhide B1⟩
      · rw [hw] at HV
        have HY := hide (unhide HYES hw)
        clear HYES HNO hw
        go_wp2_with fail
        refine (unhide HV).mono ?_
        rintro e w1 ⟨rfl, b1⟩
        have B1 := hide ((unhide HB).trans (b1.mono (unhide HB).size))
        clear b1 c0
        go_wp2_with fail
        go_roundw
        case rel => exact ⟨k + 1, by omega, by go_num, HY, B1⟩
        case measure => simp [intOf]; omega
    · have HE := hide (winsB_yes (by omega) (by omega) (fun j hj => unhide HN j hj (by omega)))
      go_wp2_with fail
      go_ret
      exact ⟨ret_bool (unhide HE).symm, unhide HB⟩
end Go.Proofs.Ytnijccmhajjdoaa
