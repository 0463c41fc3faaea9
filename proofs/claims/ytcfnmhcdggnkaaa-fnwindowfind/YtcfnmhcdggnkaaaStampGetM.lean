/-
  The version that marks have of a source: the first one tells; both sides' ways to find it.
-/
import Derived.Test.YtcfnmhcdggnkaaaMerged6
import Derived.Test.YtcfnmhcdggnkaaaBoxes
import Derived.BigQuiet
import Derived.Deep.QuietTactic
import Derived.Handy
set_option linter.unusedVariables false
namespace Go.Proofs.Ytcfnmhcdggnkaaa
open Go.RowKit Go.Maps Go.Deep

def getV : List MarkV → ByteArray → Int
  | [], _ => 0
  | x :: xs, s => if x.a0 = s then x.a1 else getV xs s
theorem getV_hit (ns : List MarkV) (s : ByteArray) (k : Nat) (hk : k < ns.length) (he : ns[k].a0 = s) (hn : ∀ j (h : j < ns.length), j < k → ns[j].a0 ≠ s) : getV ns s = ns[k].a1 := by
  induction ns generalizing k with
  | nil => simp at hk
  | cons x xs ih =>
    cases k with
    | zero => simp at he; simp [getV, he]
    | succ k =>
      have h0 := hn 0 (by simp) (by omega)
      simp at h0
      simp only [getV, if_neg h0]
      simp only [List.getElem_cons_succ]
      exact ih k (by simpa using hk) (by simpa using he) (fun j h hj => by have := hn (j + 1) (by simpa using h) (by omega); simpa using this)
theorem getV_miss (ns : List MarkV) (s : ByteArray) (hn : ∀ j (h : j < ns.length), ns[j].a0 ≠ s) : getV ns s = 0 := by
  induction ns with
  | nil => rfl
  | cons x xs ih =>
    have h0 := hn 0 (by simp)
    simp at h0
    simp only [getV, if_neg h0]
    exact ih (fun j h => by have := hn (j + 1) (by simpa using h); simpa using this)
set_option maxHeartbeats 1600000 in
theorem l13Get_row (w : World) (b off cap : Nat) (ns : List MarkV) (s : ByteArray) (hl : (ns.length : Int) ≤ 1048576) (hc : MarkAt w b off ns) :
    Calls Try.prog 35 #[.slice (some ⟨b, off, none⟩) ns.length cap, .string s] w fun e w' => e = .returned (.int .i64 (getV ns s)) ∧ w' = w := by
  have HC := hide hc
  clear hc
  go_enter Try.func35, Try.ntmps35
  go_wp2_with fail
  go_loop [5] (fun i => ∃ k : Nat, k ≤ ns.length ∧ i = .int .i64 k ∧ Hid (∀ j (h : j < ns.length), j < k → ns[j].a0 ≠ s)) (fun i => ns.length - (intOf i).toNat)
  case atStart => exact ⟨0, Nat.zero_le _, rfl, fun j h hj => absurd hj (Nat.not_lt_zero _)⟩
  case round =>
    obtain ⟨k, hk, rfl, HN⟩ := hrel
    by_cases hlt : k < ns.length
    · obtain ⟨c0, c1⟩ := unhide HC k hlt
      by_cases he : ns[k].a0 = s
      · have hf := hide (getV_hit ns s k hlt he (fun j h hj => unhide HN j h hj))
        rw [he] at c0
        clear he
        generalize ns[k].a1 = vl at *
        go_wp2_with fail
        go_ret
        exact ⟨ret_int (unhide hf).symm, rfl⟩
      · have HN2 := hide (show ∀ j (h : j < ns.length), j < k + 1 → ns[j].a0 ≠ s from fun j h hj => by
          by_cases e : j = k
          · subst e; exact he
          · exact unhide HN j h (by omega))
        have qe : (ns[k].a0.toList == s.toList) = false := by rw [str_same]; simpa using he
        clear he
        generalize ns[k].a0 = nm at *
        generalize ns[k].a1 = vl at *
        go_wp2_with fail
        go_round
        case rel => exact ⟨k + 1, by omega, by go_num, HN2⟩
        case measure => simp [intOf]; omega
    · have hf := hide (getV_miss ns s (fun j h => unhide HN j h (by omega)))
      go_wp2_with fail
      go_ret
      exact ⟨ret_int (unhide hf).symm, rfl⟩
theorem l13Get_none (w : World) (a : Option Addr) (cap : Nat) (s : ByteArray) : Calls Try.prog 35 #[.slice a 0 cap, .string s] w fun e w' => e = .returned (.int .i64 (getV [] s)) ∧ w' = w := by
  go_enter Try.func35, Try.ntmps35
  go_wp2_with fail
  refine wp_loop_rounds 1 ?_
  rw [rounds_succ]
  go_wp2_with fail
  go_ret
  exact ⟨rfl, rfl⟩
theorem l13Get_any (ns : List MarkV) (v : Value) (s : ByteArray) (w : World) (hs : SmallMarkS ns) (h : MarkSRd w v ns) : Calls Try.prog 35 #[v, .string s] w fun e w' => e = .returned (.int .i64 (getV ns s)) ∧ w' = w := by
  obtain ⟨a, c, rfl, h⟩ := h
  rcases h with rfl | ⟨b, off, rfl, hb, hc⟩
  · exact l13Get_none w a c s
  · exact l13Get_row w b off c ns s (by have := hs.1.1; omega) hc
set_option maxHeartbeats 1600000 in
theorem verIn_row (w : World) (b off cap : Nat) (ns : List MarkV) (s : ByteArray) (hl : (ns.length : Int) ≤ 1048576) (hc : MarkAt w b off ns) (hb : b < w.heap.size) :
    Calls Try.prog 34 #[.slice (some ⟨b, off, none⟩) ns.length cap, .string s] w fun e w' => e = .returned (.int .i64 (getV ns s)) ∧ Below w.heap.size w w' := by
  have HC := hide hc
  clear hc
  go_enter Try.func34, Try.ntmps34
  go_wp2_with fail
  go_loopw [9] (fun i wr => ∃ k : Nat, k ≤ ns.length ∧ i = .int .i64 k ∧ Hid (∀ j (h : j < ns.length), j < k → ns[j].a0 ≠ s) ∧ Hid (Below w.heap.size w wr)) (fun i _ => ns.length - (intOf i).toNat)
  case atStart => exact ⟨0, Nat.zero_le _, rfl, fun j h hj => absurd hj (Nat.not_lt_zero _), Below.refl _ _⟩
  case round =>
    obtain ⟨k, hk, rfl, HN, HB⟩ := hrel
    by_cases hlt : k < ns.length
    · obtain ⟨c0, c1⟩ := (unhide HC).below (unhide HB) hb k hlt
      by_cases he : ns[k].a0 = s
      · have hf := hide (getV_hit ns s k hlt he (fun j h hj => unhide HN j h hj))
        rw [he] at c0
        clear he
        generalize ns[k].a1 = vl at *
        go_wp2_with fail
        go_ret
        exact ⟨ret_int (unhide hf).symm, (unhide HB).trans (Below.mono (by go_grown) (unhide HB).size)⟩
      · have HN2 := hide (show ∀ j (h : j < ns.length), j < k + 1 → ns[j].a0 ≠ s from fun j h hj => by
          by_cases e : j = k
          · subst e; exact he
          · exact unhide HN j h (by omega))
        have qe : (ns[k].a0.toList == s.toList) = false := by rw [str_same]; simpa using he
        clear he
        generalize ns[k].a0 = nm at *
        generalize ns[k].a1 = vl at *
        have HB2 := hide ((unhide HB).trans (Below.mono (by go_grown : Below wr.heap.size wr (wr.alloc (.cells #[.string nm, .int .i64 vl] 81))) (unhide HB).size))
        go_wp2_with fail
        go_roundw
        case rel => exact ⟨k + 1, by omega, by go_num, HN2, HB2⟩
        case measure => simp [intOf]; omega
    · have hf := hide (getV_miss ns s (fun j h => unhide HN j h (by omega)))
      go_wp2_with fail
      go_ret
      exact ⟨ret_int (unhide hf).symm, unhide HB⟩
theorem verIn_none (w : World) (a : Option Addr) (cap : Nat) (s : ByteArray) : Calls Try.prog 34 #[.slice a 0 cap, .string s] w fun e w' => e = .returned (.int .i64 (getV [] s)) ∧ Below w.heap.size w w' := by
  go_enter Try.func34, Try.ntmps34
  go_wp2_with fail
  refine wp_loop_rounds 1 ?_
  rw [rounds_succ]
  go_wp2_with fail
  go_ret
  exact ⟨rfl, Below.refl _ _⟩
theorem verIn_any (ns : List MarkV) (v : Value) (s : ByteArray) (w : World) (hs : SmallMarkS ns) (h : MarkSRd w v ns) : Calls Try.prog 34 #[v, .string s] w fun e w' => e = .returned (.int .i64 (getV ns s)) ∧ Below w.heap.size w w' := by
  obtain ⟨a, c, rfl, h⟩ := h
  rcases h with rfl | ⟨b, off, rfl, hb, hc⟩
  · exact verIn_none w a c s
  · exact verIn_row w b off c ns s (by have := hs.1.1; omega) hc hb
end Go.Proofs.Ytcfnmhcdggnkaaa
