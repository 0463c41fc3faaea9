/-
  What the laws on stamps ask: whether two lists of marks are the same; their sources.
-/
import Derived.Test.YteonbigmggeneaaDoorAgreeI
import Derived.Test.YteonbigmggeneaaDoorMarkRowsOwn
import Derived.BigQuiet
import Derived.Deep.QuietTactic
import Derived.Handy
set_option linter.unusedVariables false
namespace Go.Proofs.YteonbigmggeneaaDoor
open Go.RowKit Go.Maps Go.Deep

instance : DecidableEq MarkV := fun a b => if h : a.a0 = b.a0 ∧ a.a1 = b.a1 then isTrue (by cases a; cases b; simp_all) else isFalse (fun e => h (by rw [e]; exact ⟨rfl, rfl⟩))
def eqMk (xs ys : List MarkV) : Bool := decide (xs = ys)
theorem eqMk_same (xs : List MarkV) : eqMk xs xs = true := by simp [eqMk]
theorem eqMk_len {xs ys : List MarkV} (h : xs.length ≠ ys.length) : eqMk xs ys = false := by
  unfold eqMk
  rw [decide_eq_false_iff_not]
  intro e
  exact h (by rw [e])
theorem eqMk_off {xs ys : List MarkV} {k : Nat} (ha : k < xs.length) (hb : k < ys.length) (h : xs[k] ≠ ys[k]) : eqMk xs ys = false := by
  unfold eqMk
  rw [decide_eq_false_iff_not]
  intro e
  subst e
  exact h rfl
theorem eqMk_on {xs ys : List MarkV} (hl : xs.length = ys.length) (h : ∀ i (ha : i < xs.length) (hb : i < ys.length), xs[i] = ys[i]) : eqMk xs ys = true := by
  unfold eqMk
  rw [decide_eq_true_eq]
  exact List.ext_getElem hl h
theorem mark_eqb (x y : MarkV) : ((x.a0.toList == y.a0.toList) && (x.a1 == y.a1)) = decide (x = y) := by
  rw [str_same]
  obtain ⟨a, b⟩ := x
  obtain ⟨c, d⟩ := y
  rw [Bool.eq_iff_iff]
  simp
set_option maxHeartbeats 3200000 in
theorem bsMarks_row (w : World) (b off c b' off' c' : Nat) (xa xb : List MarkV) (hl : xa.length = xb.length) (hs : xa.length ≤ 1048576) (hA : MarkAt w b off xa) (hB : MarkAt w b' off' xb) (hb : b < w.heap.size) (hb' : b' < w.heap.size) :
    Calls Tryd.prog 10 #[.slice (some ⟨b, off, none⟩) xa.length c, .slice (some ⟨b', off', none⟩) xb.length c'] w fun e w' => e = .returned (.bool (eqMk xa xb)) ∧ Below w.heap.size w w' := by
  have HA := hide hA
  have HB := hide hB
  have HL := hide hl
  clear hA hB
  rw [← hl]
  clear hl
  go_enter Tryd.func10, Tryd.ntmps10
  go_wp2_with fail
  go_loopw [5] (fun i wr => ∃ k : Nat, k ≤ xa.length ∧ i = .int .i64 k ∧ Hid (∀ j (h : j < xa.length) (h' : j < xb.length), j < k → xa[j] = xb[j]) ∧ Hid (Below w.heap.size w wr)) (fun i _ => xa.length - (intOf i).toNat)
  case atStart => exact ⟨0, Nat.zero_le _, rfl, hide (fun j _ _ hj => absurd hj (Nat.not_lt_zero _)), Below.refl _ _⟩
  case round =>
    obtain ⟨k, hk, rfl, HN, HBr⟩ := hrel
    by_cases hlt : k < xa.length
    · have hlt' : k < xb.length := by have := unhide HL; omega
      obtain ⟨c0, c1⟩ := (unhide HA).below (unhide HBr) hb k hlt
      obtain ⟨d0, d1⟩ := (unhide HB).below (unhide HBr) hb' k hlt'
      have hcmp := fun (X : World) => cmpMark xa[k].a0 xb[k].a0 xa[k].a1 xb[k].a1 X
      simp only [mark_eqb xa[k] xb[k]] at hcmp
      have hgd : Tryd.prog.eqGuardType Tryd.prog.depth 39 = false := by kernel_rfl
      by_cases he : xa[k] = xb[k]
      · have HN2 := hide (show ∀ j (h : j < xa.length) (h' : j < xb.length), j < k + 1 → xa[j] = xb[j] from fun j h h' hj => by
          by_cases e : j = k
          · subst e; exact he
          · exact unhide HN j h h' (by omega))
        rw [decide_eq_true he] at hcmp
        clear he
        generalize xa[k] = x at *
        generalize xb[k] = y at *
        go_wp2_with fail
        go_quiet (fail)
        go_wp2_with fail
        go_roundw
        case rel => exact ⟨k + 1, by omega, by go_num, HN2, hide ((unhide HBr).trans ((belowN _ _).mono (unhide HBr).size))⟩
        case measure => simp [intOf]; omega
      · have HR := hide (eqMk_off hlt hlt' he).symm
        rw [decide_eq_false he] at hcmp
        clear he
        generalize xa[k] = x at *
        generalize xb[k] = y at *
        go_wp2_with fail
        go_quiet (fail)
        go_wp2_with fail
        go_ret
        exact ⟨ret_bool (unhide HR), (unhide HBr).trans ((belowN _ _).mono (unhide HBr).size)⟩
    · have HR := hide (eqMk_on (unhide HL) (fun i h h' => unhide HN i h h' (by omega))).symm
      go_wp2_with fail
      go_ret
      exact ⟨ret_bool (unhide HR), unhide HBr⟩
theorem bsMarks_len (w : World) (a a' : Option Addr) (c c' : Nat) (xa xb : List MarkV) (hl : xa.length ≠ xb.length) (h1 : xa.length ≤ 1048576) (h2 : xb.length ≤ 1048576) :
    Calls Tryd.prog 10 #[.slice a xa.length c, .slice a' xb.length c'] w fun e w' => e = .returned (.bool (eqMk xa xb)) ∧ Below w.heap.size w w' := by
  have HR := hide (eqMk_len hl).symm
  have e : ((xa.length : Int) == (xb.length : Int)) = false := by rw [beq_eq_false_iff_ne]; omega
  generalize xa.length = n at *
  generalize xb.length = m at *
  go_enter Tryd.func10, Tryd.ntmps10
  go_wp2_with fail
  go_ret
  exact ⟨ret_bool (unhide HR), Below.refl _ _⟩
theorem bsMarks_none (w : World) (a a' : Option Addr) (c c' : Nat) :
    Calls Tryd.prog 10 #[.slice a 0 c, .slice a' 0 c'] w fun e w' => e = .returned (.bool true) ∧ Below w.heap.size w w' := by
  go_enter Tryd.func10, Tryd.ntmps10
  go_wp2_with fail
  refine wp_loop_rounds 1 ?_
  rw [rounds_succ]
  go_wp2_with fail
  go_ret
  exact ⟨rfl, Below.refl _ _⟩
theorem bsMarks_any (xa : List MarkV) (va : Value) (xb : List MarkV) (vb : Value) (w : World) (hsa : SmallMarkS xa) (hsb : SmallMarkS xb) (hA : MarkSRd w va xa) (hB : MarkSRd w vb xb) :
    Calls Tryd.prog 10 #[va, vb] w fun e w' => e = .returned (.bool (eqMk xa xb)) ∧ Below w.heap.size w w' := by
  obtain ⟨a, c, rfl, hA⟩ := hA
  obtain ⟨a', c', rfl, hB⟩ := hB
  by_cases hl : xa.length = xb.length
  · rcases hA with rfl | ⟨b, off, rfl, hb, hA⟩
    · have : xb = [] := List.eq_nil_of_length_eq_zero hl.symm
      subst this
      exact bsMarks_none w a a' c c'
    · rcases hB with rfl | ⟨b', off', rfl, hb', hB⟩
      · have : xa = [] := List.eq_nil_of_length_eq_zero hl
        subst this
        exact bsMarks_none w _ a' c c'
      · exact bsMarks_row w b off c b' off' c' xa xb hl hsa.1.1 hA hB hb hb'
  · exact bsMarks_len w a a' c c' xa xb hl hsa.1.1 hsb.1.1
end Go.Proofs.YteonbigmggeneaaDoor
