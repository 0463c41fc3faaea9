/-
  Windows: have two stamps the same sources?
-/
import Derived.Test.YtlbhandkpnjgmaaMerged9
import Derived.BigQuiet
import Derived.Deep.QuietTactic
import Derived.Handy
set_option linter.unusedVariables false
namespace Go.Proofs.Ytlbhandkpnjgmaa
open Go.RowKit Go.Maps Go.Deep

def srcB (xa xb : List MarkV) : Bool := decide (xa.map (·.a0) = xb.map (·.a0))
theorem src_len {xa xb : List MarkV} (h : xa.length ≠ xb.length) : srcB xa xb = false := by
  unfold srcB
  rw [decide_eq_false_iff_not]
  intro e
  have := congrArg List.length e
  simp at this
  exact h this
theorem src_off {xa xb : List MarkV} {k : Nat} (ha : k < xa.length) (hb : k < xb.length) (h : xa[k].a0 ≠ xb[k].a0) : srcB xa xb = false := by
  unfold srcB
  rw [decide_eq_false_iff_not]
  intro e
  have := congrArg (fun l => l[k]?) e
  simp [ha, hb] at this
  exact h this
theorem src_on {xa xb : List MarkV} (hl : xa.length = xb.length) (h : ∀ i (ha : i < xa.length) (hb : i < xb.length), xa[i].a0 = xb[i].a0) : srcB xa xb = true := by
  unfold srcB
  rw [decide_eq_true_eq]
  apply List.ext_getElem
  · simpa using hl
  · intro i h1 h2
    simp at h1 h2
    simpa using h i h1 h2
set_option maxHeartbeats 3200000 in
theorem l14Sources_row (w : World) (b off c b' off' c' : Nat) (xa xb : List MarkV) (hl : xa.length = xb.length) (hs : xa.length ≤ 1048576) (hA : MarkAt w b off xa) (hB : MarkAt w b' off' xb) (hb : b < w.heap.size) (hb' : b' < w.heap.size) :
    Calls Try.prog 35 #[.slice (some ⟨b, off, none⟩) xa.length c, .slice (some ⟨b', off', none⟩) xb.length c'] w fun e w' => e = .returned (.bool (srcB xa xb)) ∧ Below w.heap.size w w' := by
  have HA := hide hA
  have HB := hide hB
  have HL := hide hl
  clear hA hB
  rw [← hl]
  clear hl
  go_enter Try.func35, Try.ntmps35
  go_wp2_with fail
  go_loopw [5] (fun i wr => ∃ k : Nat, k ≤ xa.length ∧ i = .int .i64 k ∧ Hid (∀ j (h : j < xa.length) (h' : j < xb.length), j < k → xa[j].a0 = xb[j].a0) ∧ Hid (Below w.heap.size w wr)) (fun i _ => xa.length - (intOf i).toNat)
  case atStart => exact ⟨0, Nat.zero_le _, rfl, hide (fun j _ _ hj => absurd hj (Nat.not_lt_zero _)), Below.refl _ _⟩
  case round =>
    obtain ⟨k, hk, rfl, HN, HBr⟩ := hrel
    by_cases hlt : k < xa.length
    · have hlt' : k < xb.length := by have := unhide HL; omega
      have c0 := ((unhide HA).below (unhide HBr) hb k hlt).1
      have d0 := ((unhide HB).below (unhide HBr) hb' k hlt').1
      by_cases he : xa[k].a0 = xb[k].a0
      · have HN2 := hide (show ∀ j (h : j < xa.length) (h' : j < xb.length), j < k + 1 → xa[j].a0 = xb[j].a0 from fun j h h' hj => by
          by_cases e : j = k
          · subst e; exact he
          · exact unhide HN j h h' (by omega))
        rw [← he] at d0
        clear he
        generalize xa[k].a0 = nm at *
        go_wp2_with fail
        go_quiet (fail)
        go_wp2_with fail
        go_roundw
        case rel => exact ⟨k + 1, by omega, by go_num, HN2, hide ((unhide HBr).trans ((belowN _ _).mono (unhide HBr).size))⟩
        case measure => simp [intOf]; omega
      · have HR := hide (src_off hlt hlt' he).symm
        have qe : (xa[k].a0.toList == xb[k].a0.toList) = false := by rw [str_same]; simpa using he
        clear he
        generalize xa[k].a0 = nm at *
        generalize xb[k].a0 = nb at *
        go_wp2_with fail
        go_quiet (fail)
        go_wp2_with fail
        go_ret
        exact ⟨ret_bool (unhide HR), (unhide HBr).trans ((belowN _ _).mono (unhide HBr).size)⟩
    · have HR := hide (src_on (unhide HL) (fun i h h' => unhide HN i h h' (by omega))).symm
      go_wp2_with fail
      go_ret
      exact ⟨ret_bool (unhide HR), unhide HBr⟩
theorem l14Sources_len (w : World) (a a' : Option Addr) (c c' : Nat) (xa xb : List MarkV) (hl : xa.length ≠ xb.length) (h1 : xa.length ≤ 1048576) (h2 : xb.length ≤ 1048576) :
    Calls Try.prog 35 #[.slice a xa.length c, .slice a' xb.length c'] w fun e w' => e = .returned (.bool (srcB xa xb)) ∧ Below w.heap.size w w' := by
  have HR := hide (src_len hl).symm
  have e : ((xa.length : Int) == (xb.length : Int)) = false := by rw [beq_eq_false_iff_ne]; omega
  generalize xa.length = n at *
  generalize xb.length = m at *
  go_enter Try.func35, Try.ntmps35
  go_wp2_with fail
  go_ret
  exact ⟨ret_bool (unhide HR), Below.refl _ _⟩
theorem l14Sources_none (w : World) (a a' : Option Addr) (c c' : Nat) :
    Calls Try.prog 35 #[.slice a 0 c, .slice a' 0 c'] w fun e w' => e = .returned (.bool true) ∧ Below w.heap.size w w' := by
  go_enter Try.func35, Try.ntmps35
  go_wp2_with fail
  refine wp_loop_rounds 1 ?_
  rw [rounds_succ]
  go_wp2_with fail
  go_ret
  exact ⟨rfl, Below.refl _ _⟩
theorem l14Sources_any (xa : List MarkV) (va : Value) (xb : List MarkV) (vb : Value) (w : World) (hsa : SmallMarkS xa) (hsb : SmallMarkS xb) (hA : MarkSRd w va xa) (hB : MarkSRd w vb xb) :
    Calls Try.prog 35 #[va, vb] w fun e w' => e = .returned (.bool (srcB xa xb)) ∧ Below w.heap.size w w' := by
  obtain ⟨a, c, rfl, hA⟩ := hA
  obtain ⟨a', c', rfl, hB⟩ := hB
  by_cases hl : xa.length = xb.length
  · rcases hA with rfl | ⟨b, off, rfl, hb, hA⟩
    · have : xb = [] := List.eq_nil_of_length_eq_zero hl.symm
      subst this
      exact l14Sources_none w a a' c c'
    · rcases hB with rfl | ⟨b', off', rfl, hb', hB⟩
      · have : xa = [] := List.eq_nil_of_length_eq_zero hl
        subst this
        exact l14Sources_none w _ a' c c'
      · exact l14Sources_row w b off c b' off' c' xa xb hl hsa.1.1 hA hB hb hb'
  · exact l14Sources_len w a a' c c' xa xb hl hsa.1.1 hsb.1.1
end Go.Proofs.Ytlbhandkpnjgmaa
