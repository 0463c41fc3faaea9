/-
  The program's agreesWithAll: whether a stamp agrees with each of some others.
-/
import Derived.Test.YtpnpgieeiblpfaaAgreeI
import Derived.Test.YtpnpgieeiblpfaaAgreeS
import Derived.Test.YtpnpgieeiblpfaaRowSl
import Derived.Handy
set_option linter.unusedVariables false
namespace Go.Proofs.Ytpnpgieeiblpfaa
open Go.RowKit Go.Maps Go.Deep

def agAll (s : List MarkV) (ss : List (List MarkV)) : Bool := ss.all (agreeOut s)
theorem agAll_no {s : List MarkV} {ss : List (List MarkV)} {k : Nat} (hk : k < ss.length) (h : agreeOut s ss[k] = false) : agAll s ss = false := by
  unfold agAll
  rw [List.all_eq_false]
  exact ⟨ss[k], List.getElem_mem hk, by simp [h]⟩
theorem agAll_yes {s : List MarkV} {ss : List (List MarkV)} (h : ∀ k (hk : k < ss.length), agreeOut s ss[k] = true) : agAll s ss = true := by
  unfold agAll
  rw [List.all_eq_true]
  intro x hx
  obtain ⟨k, hk, rfl⟩ := List.getElem_of_mem hx
  exact h k hk
/-- the stamps that a row's cells have -/
def StsAt (w : World) (g : Nat) (ss : List (List MarkV)) : Prop := ∀ i (h : i < ss.length), ∃ a n c, w.cell? ⟨g, i, none⟩ = some (.slice a n c) ∧ MarkSRd w (.slice a n c) ss[i]
theorem StsAt.up {w w' : World} {g : Nat} {ss : List (List MarkV)} (h : StsAt w g ss) (hg : g < w.heap.size) (hw : Below w.heap.size w w') : StsAt w' g ss := by
  intro i hi
  obtain ⟨a, n, c, h1, h2⟩ := h i hi
  exact ⟨a, n, c, (hw.cell (by exact hg)).trans h1, h2.up hw⟩
set_option maxHeartbeats 3200000 in
theorem agreesWithAll_row (s : List MarkV) (ss : List (List MarkV)) (v : Value) (g cap : Nat) (w : World) (hs : SmallMarkS s) (hss : ∀ x ∈ ss, SmallMarkS x) (hl : ss.length ≤ 1048576) (hv : MarkSRd w v s) (hg : g < w.heap.size) (hc : StsAt w g ss) :
    Calls Try.prog 30 #[v, .slice (some ⟨g, 0, none⟩) ss.length cap] w fun e w' => e = .returned (.bool (agAll s ss)) ∧ Below w.heap.size w w' := by
  have HC := hide hc
  have HS := hide hss
  have HV := hide (fun (W : World) (b : Below w.heap.size w W) => hv.up b)
  obtain ⟨a, n, c, rfl⟩ := hv.form
  clear hc hss hv
  go_enter Try.func30, Try.ntmps30
  go_wp2_with fail
  go_loopw [9] (fun i wr => ∃ (k : Nat), k ≤ ss.length ∧ i = .int .i64 k ∧ Hid (∀ j (hj : j < ss.length), j < k → agreeOut s ss[j] = true) ∧ Hid (Below w.heap.size w wr)) (fun i _ => ss.length - (intOf i).toNat)
  case atStart => exact ⟨0, Nat.zero_le _, rfl, hide (fun j _ hj => absurd hj (Nat.not_lt_zero _)), Below.refl _ _⟩
  case round =>
    obtain ⟨k, hk, rfl, HN, HB⟩ := hrel
    by_cases hlt : k < ss.length
    · obtain ⟨xa, xn, xc, c0, hx⟩ := (unhide HC).up hg (unhide HB) k hlt
      have HA := hide (implAgree_any s (.slice a n c) ss[k] (.slice xa xn xc) wr hs (unhide HS _ (List.getElem_mem hlt)) (unhide HV _ (unhide HB)) hx)
      have HNO := hide (fun h => agAll_no (s := s) hlt h)
      have HYES := hide (show agreeOut s ss[k] = true → ∀ j (hj : j < ss.length), j < k + 1 → agreeOut s ss[j] = true from fun h j hj hjk => by
        by_cases e : j = k
        · subst e; exact h
        · exact unhide HN j hj (by omega))
      clear hx
      cases hw : agreeOut s ss[k]
      · rw [hw] at HA
        have HE := hide (unhide HNO hw)
        clear HYES HNO hw
        go_wp2_with fail
        refine (unhide HA).mono ?_
        rintro e w1 ⟨rfl, b1⟩
        have B1 := hide ((unhide HB).trans (b1.mono (unhide HB).size))
        clear b1 c0
        go_wp2_with fail
        go_ret
        exact ⟨ret_bool (unhide HE).symm, unhide B1⟩
      · rw [hw] at HA
        have HY := hide (unhide HYES hw)
        clear HYES HNO hw
        go_wp2_with fail
        refine (unhide HA).mono ?_
        rintro e w1 ⟨rfl, b1⟩
        have B1 := hide ((unhide HB).trans (b1.mono (unhide HB).size))
        clear b1 c0
        go_wp2_with fail
        go_roundw
        case rel => exact ⟨k + 1, by omega, by go_num, HY, B1⟩
        case measure => simp [intOf]; omega
    · have HE := hide (agAll_yes (fun j hj => unhide HN j hj (by omega)))
      go_wp2_with fail
      go_ret
      exact ⟨ret_bool (unhide HE).symm, unhide HB⟩
theorem agreesWithAll_none (s : List MarkV) (v : Value) (a : Option Addr) (cap : Nat) (w : World) (hv : MarkSRd w v s) :
    Calls Try.prog 30 #[v, .slice a 0 cap] w fun e w' => e = .returned (.bool (agAll s [])) ∧ Below w.heap.size w w' := by
  obtain ⟨va, n, c, rfl⟩ := hv.form
  go_enter Try.func30, Try.ntmps30
  go_wp2
  refine wp_loop_rounds 1 ?_
  rw [rounds_succ]
  go_wp2
  go_ret
  exact ⟨rfl, Below.refl _ _⟩
end Go.Proofs.Ytpnpgieeiblpfaa
