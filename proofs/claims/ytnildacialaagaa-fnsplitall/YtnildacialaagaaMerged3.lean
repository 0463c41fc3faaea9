/-
  What is left of a stream waits, and may be listened to.
-/
/-
  The laws' comparison of lists of rows of bytes.
-/
import Derived.Test.YtnildacialaagaaMerged4
import Derived.Test.YtnildacialaagaaEndK
import Derived.Test.YtnildacialaagaaMerged5
import Derived.Test.YtnildacialaagaaByReader
import Derived.BigQuiet
import Derived.Deep.QuietTactic
set_option linter.unusedVariables false
namespace Go.Proofs.Ytnildacialaagaa
open Go.RowKit Go.Maps Go.Deep

theorem walk_waits (bs : List UInt8) : ∀ n, bs.length ≤ n → waitB (walkF n bs).2.1 = true := by
  intro n
  induction n generalizing bs with
  | zero =>
    intro h
    have e : bs = [] := List.eq_nil_of_length_eq_zero (by omega)
    subst e
    exact wait_nil
  | succ n ih =>
    intro h
    unfold walkF
    cases hw : waitB bs
    · have hp := wait_pos hw
      simp only [Bool.false_eq_true, if_false]
      by_cases hn : nextI bs = 1
      · obtain ⟨k, e1, e2, e3, e4⟩ := next_one hn
        simp only [hn, if_true, e1, Int.toNat_natCast]
        exact ih (bs.drop k) (by simp; omega)
      · simp only [hn, if_false]
        exact ih (bs.drop 1) (by simp; omega)
    · simp [hw]
theorem wait_short {bs : List UInt8} (h : waitB bs = true) : bs.length ≤ 270 := by
  have h' : frameSz bs = 0 ∨ (bs.length : Int) < frameSz bs := by simpa [waitB] using h
  rcases h' with h' | h'
  · unfold frameSz at h'
    split at h'
    · omega
    · split at h'
      · omega
      · split at h' <;> omega
  · rcases sz_cases bs with e | e | e <;> omega
theorem feed_ends {ys : List UInt8} (h : feedB ⟨[], 0⟩ ys = true) : endB (feedS ⟨[], 0⟩ ys) = true ∧ (feedS ⟨[], 0⟩ ys).lost + (sumB (feedH ⟨[], 0⟩ ys) : Int) + ((feedS ⟨[], 0⟩ ys).buf.length : Int) = (ys.length : Int) := by
  have h1 := walk_waits ys _ (Nat.le_refl _)
  have h2 := wait_short h1
  have h3 := walk_sum ys
  have h4 := (feed_yes h).2.2.2.1
  have e : feedS ⟨[], 0⟩ ys = ⟨(walkW ys).2.1, ((walkW ys).2.2 : Int)⟩ := by
    unfold feedS
    rw [h]
    simp
  have e2 : feedH ⟨[], 0⟩ ys = (walkW ys).1 := by
    unfold feedH
    rw [h]
    simp
  rw [e, e2]
  refine ⟨?_, by simp only; omega⟩
  have h1' : waitB (walkW ys).2.1 = true := h1
  have h2' : (walkW ys).2.1.length ≤ 270 := h2
  simp only [endB, splitOkB, h1', Bool.and_eq_true, decide_eq_true_eq, and_true]
  exact ⟨⟨by omega, h2'⟩, by omega⟩
theorem end_all {ys : List UInt8} (h : feedB ⟨[], 0⟩ ys = true) : endI (feedS ⟨[], 0⟩ ys) + (sumB (feedH ⟨[], 0⟩ ys) : Int) + (sumB (endH (feedS ⟨[], 0⟩ ys)) : Int) = (ys.length : Int) := by
  obtain ⟨h1, h2⟩ := feed_ends h
  have h3 := end_sum (feedS ⟨[], 0⟩ ys).buf _ (Nat.le_refl _)
  unfold endI endH
  rw [h1]
  simp only [if_true]
  omega
theorem endI_pos (ys : List UInt8) : 0 ≤ endI (feedS ⟨[], 0⟩ ys) := by
  unfold endI
  split
  · unfold feedS
    split <;> simp <;> omega
  · omega
theorem sumB_take (fh : List (List UInt8)) (k : Nat) (h : k < fh.length) : sumB (fh.take (k + 1)) = sumB (fh.take k) + fh[k].length + 5 := by
  rw [List.take_add_one, List.getElem?_eq_getElem h, sumB_append]
  simp [sumB]
  omega
theorem sumB_le (fh : List (List UInt8)) (k : Nat) : sumB (fh.take k) ≤ sumB fh := by
  have := sumB_append (fh.take k) (fh.drop k)
  rw [List.take_append_drop] at this
  omega
end Go.Proofs.Ytnildacialaagaa

set_option linter.unusedVariables false
namespace Go.Proofs.Ytnildacialaagaa
open Go.RowKit Go.Maps Go.Deep

set_option maxHeartbeats 3200000 in
theorem leBodies_row (w : World) (b off cap b' off' cap' : Nat) (ns : List (List UInt8)) (hs : SmallByteSS ns) (hc : BssAt w b off ns) (hc' : BssAt w b' off' ns) (hb : b < w.heap.size) (hb' : b' < w.heap.size) :
    Calls Try.prog 7 #[.slice (some ⟨b, off, none⟩) ns.length cap, .slice (some ⟨b', off', none⟩) ns.length cap'] w fun e w' => e = .returned (.bool true) ∧ Below w.heap.size w w' := by
  have HS := hide hs.2
  have hl := hs.1
  have HC := hide hc
  have HC' := hide hc'
  clear hs hc hc'
  go_enter Try.func7, Try.ntmps7
  go_wp2_with fail
  go_loopw [5] (fun i wr => ∃ (k : Nat), k ≤ ns.length ∧ i = .int .i64 k ∧ Hid (Below w.heap.size w wr)) (fun i _ => ns.length - (intOf i).toNat)
  case atStart => exact ⟨0, Nat.zero_le _, rfl, Below.refl _ _⟩
  case round =>
    obtain ⟨k, hk, rfl, HB⟩ := hrel
    by_cases hlt : k < ns.length
    · obtain ⟨v, c0, hv⟩ := (unhide HC).up hb (unhide HB) k hlt
      obtain ⟨v', d0, hv'⟩ := (unhide HC').up hb' (unhide HB) k hlt
      obtain ⟨va, vn, vc, rfl⟩ := hv.form
      obtain ⟨va', vn', vc', rfl⟩ := hv'.form
      have cv := fun n => conv_back (hv.up (belowN wr n))
      have cv' := fun n => conv_back (hv'.up (belowN wr n))
      clear hv hv'
      generalize (⟨ns[k].toArray⟩ : ByteArray) = st at *
      go_wp2_with fail
      go_quiet (fail)
      go_wp2_with fail
      go_roundw
      case rel => exact ⟨k + 1, by omega, by go_num, hide ((unhide HB).trans ((belowN _ _).mono (unhide HB).size))⟩
      case measure => simp [intOf]; omega
    · go_wp2_with fail
      go_ret
      exact ⟨rfl, unhide HB⟩
theorem leBodies_same (ns : List (List UInt8)) (v v' : Value) (w : World) (hs : SmallByteSS ns) (h : ByteSSRd w v ns) (h' : ByteSSRd w v' ns) :
    Calls Try.prog 7 #[v, v'] w fun e w' => e = .returned (.bool true) ∧ Below w.heap.size w w' := by
  have none : ∀ a a' c c', Calls Try.prog 7 #[.slice a 0 c, .slice a' 0 c'] w fun e w' => e = .returned (.bool true) ∧ Below w.heap.size w w' := by
    intro a a' c c'
    go_enter Try.func7, Try.ntmps7
    go_wp2
    refine wp_loop_rounds 1 ?_
    rw [rounds_succ]
    go_wp2
    go_ret
    exact ⟨rfl, Below.refl _ _⟩
  obtain ⟨a, c, rfl, h⟩ := h
  obtain ⟨a', c', rfl, h'⟩ := h'
  rcases h with rfl | ⟨b, off, rfl, hb, h⟩
  · exact none a a' c c'
  · rcases h' with rfl | ⟨b', off', rfl, hb', h'⟩
    · exact none _ a' c c'
    · exact leBodies_row w b off c b' off' c' ns hs h h' hb hb'
end Go.Proofs.Ytnildacialaagaa
