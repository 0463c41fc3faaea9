/-
  The specification's draws of bytes.
-/
import Derived.Test.YtbbaiabcapbdoaaRdy
import Derived.Test.YtbbaiabcapbdoaaByAppend
import Derived.Test.YtbbaiabcapbdoaaRecBytes
import Derived.Test.YtbbaiabcapbdoaaRecApp
import Derived.Handy
import Derived.Deep.DeepCutAuto
set_option linter.unusedVariables false
namespace Go.Proofs.Ytbbaiabcapbdoaa
open Go.RowKit Go.Maps Go.Deep

theorem ByRow.turnG {B : Nat} {g : Nat} {w w' : World} {v : Value} {bs : List UInt8} (h : ByRow B w v bs) (ht : Turn [g] w w') (hg : g < B) : ByRow B w' v bs := h.turn ht (fun k hk hm => by have := h.ge k hk; simp at hm; omega)
theorem RcRow.turnG {B : Nat} {g : Nat} {w w' : World} {v : Value} {rs : List RecV} (h : RcRow B w v rs) (ht : Turn [g] w w') (hg : g < B) : RcRow B w' v rs := h.keep (fun k hk => ht.block k (h.lt k hk) (fun hm => by have := h.ge k hk; simp at hm; omega))
def RetRaw (base g N n : Nat) (w0 w : World) (e : Ending) (w' : World) : Prop := ∃ a c bs, e = .returned (.slice a n c) ∧ Hid (ByRow w.heap.size w' (.slice a n c) bs) ∧ bs.length = n ∧ Hid (Rdy base g N w0 w') ∧ Hid (w.heap.size ≤ w'.heap.size)
set_option maxHeartbeats 3200000 in
theorem l32Raw_any (base g N n : Nat) (w0 w : World) (hn : n ≤ 100) (hN : N ≤ 100000000) (h : Rdy base g N w0 w) :
    Calls Try.prog 17 #[.pointer (some ⟨g, 0, none⟩), .int .i64 (n : Int)] w fun e w' => RetRaw base g (N + n) n w0 w e w' := by
  have HZ := hide (Nat.lt_of_lt_of_le h.lt h.turn.size)
  have HR := hide h
  clear h
  go_enter Try.func17, Try.ntmps17
  go_wp2_with fail
  go_loopw [5, 6] (fun o i wr => ∃ (k : Nat) (a : Option Addr) (c : Nat) (bs : List UInt8), k ≤ n ∧ i = .int .i64 k ∧ o = .slice a k c ∧ Hid (ByRow w.heap.size wr (.slice a k c) bs) ∧ Hid (bs.length = k) ∧ Hid (Rdy base g (N + k) w0 wr) ∧ Hid (w.heap.size ≤ wr.heap.size)) (fun _ i _ => n - (intOf i).toNat)
  case atStart => exact ⟨0, none, 0, [], Nat.zero_le _, rfl, rfl, hide (ByRow.nil _ _), hide rfl, HR, hide (Nat.le_refl _)⟩
  case round =>
    obtain ⟨k, a, c, bs, hk, rfl, rfl, HB, HL, HD, HS⟩ := hrel
    by_cases hlt : k < n
    · go_wp2_with (first
        | (go_at_call 18; refine (pick_rdy base g (N + k) 256 w0 wr (by omega) (by omega) (by omega) (unhide HD)).mono ?_; rintro e w1 ⟨v, rfl, hv, D1, T1⟩; have hv0 : (0 : Int) ≤ (v : Int) := by omega
           have HVV := hide (show (v : Int) < 256 from hv)
           have R1 := hide (((unhide HB).turnG (unhide T1) (unhide HZ)).up' (.cells #[.int .u8 (v : Int)] 5))
           have U1 := hide (byLit1 w1 (v : Int) hv0 hv)
           have DD := hide ((unhide D1).alloc (.cells #[.int .u8 (v : Int)] 5))
           have S1 := hide (Nat.le_trans (unhide HS) (Nat.le_trans (unhide T1).size (show w1.heap.size ≤ (w1.alloc (.cells #[.int .u8 (v : Int)] 5)).heap.size by simp)))
           have hl := hide (show bs.length + [beB (v : Int) 0].length ≤ 140737488355328 by have := unhide HL; simp; omega)
           clear HB D1 T1 HS)
        | (at_builtin; have _t := R1; refine wpList_byAppend rfl _ _ rfl w.heap.size _ _ bs [beB (v : Int) 0] rfl rfl (unhide R1) (unhide U1) (unhide hl) (unhide S1) ?_; intro a2 c2 w2 r2 g2 _; have HN2 := hide (show bs.length + [beB (v : Int) 0].length = k + 1 by have := unhide HL; simp; omega); generalize bs.length + [beB (v : Int) 0].length = n2 at *; have R2 := hide r2; have D2 := hide ((unhide DD).grown g2 (fun y hy => Nat.le_trans (unhide HR).size ((unhide R1).ge y hy))); have S2 := hide (Nat.le_trans (unhide S1) g2.size); clear r2 g2 R1 U1)
        | fail)
      obtain rfl : n2 = k + 1 := unhide HN2
      go_roundw
      case rel => exact ⟨k + 1, a2, c2, bs ++ [beB (v : Int) 0], by omega, by go_num, rfl, R2, hide (by have := unhide HL; simp; omega), D2, S2⟩
      case measure => simp [intOf]; omega
    · obtain rfl : k = n := by omega
      go_wp2_with fail
      go_ret
      exact ⟨a, c, bs, rfl, HB, unhide HL, HD, HS⟩
end Go.Proofs.Ytbbaiabcapbdoaa
