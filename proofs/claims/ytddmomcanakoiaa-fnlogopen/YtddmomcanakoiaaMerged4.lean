/-
  The specification's draws of bytes.
-/
/-
  The specification's l1Many: a text so many times.
-/
/-
  What the laws on records draw: small facts.
-/
import Derived.Test.YtddmomcanakoiaaMerged13
import Derived.Test.YtddmomcanakoiaaMerged28
import Derived.Test.YtddmomcanakoiaaRecBytes
import Derived.Test.YtddmomcanakoiaaMerged26
import Derived.Handy
import Derived.Deep.DeepCutAuto
import Derived.Test.YtddmomcanakoiaaMerged3
import Derived.Test.YtddmomcanakoiaaBoxes
import Derived.Test.YtddmomcanakoiaaRecs
set_option linter.unusedVariables false
namespace Go.Proofs.Ytddmomcanakoiaa
open Go.RowKit Go.Maps Go.Deep

theorem ByRow.turnG {B : Nat} {g : Nat} {w w' : World} {v : Value} {bs : List UInt8} (h : ByRow B w v bs) (ht : Turn [g] w w') (hg : g < B) : ByRow B w' v bs := h.turn ht (fun k hk hm => by have := h.ge k hk; simp at hm; omega)
theorem RcRow.turnG {B : Nat} {g : Nat} {w w' : World} {v : Value} {rs : List RecV} (h : RcRow B w v rs) (ht : Turn [g] w w') (hg : g < B) : RcRow B w' v rs := h.keep (fun k hk => ht.block k (h.lt k hk) (fun hm => by have := h.ge k hk; simp at hm; omega))
def RetRaw (base g N n : Nat) (w0 w : World) (e : Ending) (w' : World) : Prop := ∃ a c bs, e = .returned (.slice a n c) ∧ Hid (ByRow w.heap.size w' (.slice a n c) bs) ∧ bs.length = n ∧ Hid (Rdy base g N w0 w') ∧ Hid (w.heap.size ≤ w'.heap.size)
set_option maxHeartbeats 3200000 in
theorem l32Raw_any (base g N n : Nat) (w0 w : World) (hn : n ≤ 100) (hN : N ≤ 100000000) (h : Rdy base g N w0 w) :
    Calls Try.prog 67 #[.pointer (some ⟨g, 0, none⟩), .int .i64 (n : Int)] w fun e w' => RetRaw base g (N + n) n w0 w e w' := by
  have HZ := hide (Nat.lt_of_lt_of_le h.lt h.turn.size)
  have HR := hide h
  clear h
  go_enter Try.func67, Try.ntmps67
  go_wp2_with fail
  go_loopw [5, 6] (fun o i wr => ∃ (k : Nat) (a : Option Addr) (c : Nat) (bs : List UInt8), k ≤ n ∧ i = .int .i64 k ∧ o = .slice a k c ∧ Hid (ByRow w.heap.size wr (.slice a k c) bs) ∧ Hid (bs.length = k) ∧ Hid (Rdy base g (N + k) w0 wr) ∧ Hid (w.heap.size ≤ wr.heap.size)) (fun _ i _ => n - (intOf i).toNat)
  case atStart => exact ⟨0, none, 0, [], Nat.zero_le _, rfl, rfl, hide (ByRow.nil _ _), hide rfl, HR, hide (Nat.le_refl _)⟩
  case round =>
    obtain ⟨k, a, c, bs, hk, rfl, rfl, HB, HL, HD, HS⟩ := hrel
    by_cases hlt : k < n
    · go_wp2_with (first
        | (go_at_call 21; refine (pick_rdy base g (N + k) 256 w0 wr (by omega) (by omega) (by omega) (unhide HD)).mono ?_; rintro e w1 ⟨v, rfl, hv, D1, T1⟩; have hv0 : (0 : Int) ≤ (v : Int) := by omega
           have HVV := hide (show (v : Int) < 256 from hv)
           have R1 := hide (((unhide HB).turnG (unhide T1) (unhide HZ)).up' (.cells #[.int .u8 (v : Int)] 5))
           have U1 := hide (byLit1 w1 (v : Int) hv0 hv)
           have DD := hide ((unhide D1).alloc (.cells #[.int .u8 (v : Int)] 5))
           have S1 := hide (Nat.le_trans (unhide HS) (Nat.le_trans (unhide T1).size (show w1.heap.size ≤ (w1.alloc (.cells #[.int .u8 (v : Int)] 5)).heap.size by simp)))
           have hl := hide (show bs.length + [beB (v : Int) 0].length ≤ 140737488355328 by have := unhide HL; simp; omega)
           clear HB D1 T1 HS)
        | (at_builtin; have _t := R1; refine wpList_byAppend rfl _ _ rfl w.heap.size _ _ bs [beB (v : Int) 0] rfl rfl (unhide R1) (unhide U1) (unhide hl) (unhide S1) ?_; intro a2 c2 w2 r2 g2 _; have HN2 := hide (show bs.length + [beB (v : Int) 0].length = k + 1 by have := unhide HL; simp; omega); generalize bs.length + [beB (v : Int) 0].length = n2 at *; have R2 := hide r2; have D2 := hide ((unhide DD).grown g2 (fun y hy => Nat.le_trans (unhide HR).size ((unhide R1).ge y hy))); have S2 := hide (Nat.le_trans (unhide S1) g2.size); clear r2 g2 R1 U1)
        | fail)
      obtain rfl : n2 = k + 1 := unhide HN2
      go_roundw
      case rel => exact ⟨k + 1, a2, c2, bs ++ [beB (v : Int) 0], by omega, by go_num, rfl, R2, hide (by have := unhide HL; simp; omega), D2, S2⟩
      case measure => simp [intOf]; omega
    · obtain rfl : k = n := by omega
      go_wp2_with fail
      go_ret
      exact ⟨a, c, bs, rfl, HB, unhide HL, HD, HS⟩
end Go.Proofs.Ytddmomcanakoiaa

set_option linter.unusedVariables false
namespace Go.Proofs.Ytddmomcanakoiaa
open Go.RowKit Go.Maps

theorem many_step (a b n M : Nat) (h : a + b * n ≤ M) : (n % 2 = 1 → (a + b) + (b + b) * (n / 2) ≤ M) ∧ (n % 2 = 0 → a + (b + b) * (n / 2) ≤ M) ∧ (1 ≤ n → b ≤ M) := by
  have e : b * n = (b + b) * (n / 2) + b * (n % 2) := by
    have hn : n = 2 * (n / 2) + n % 2 := by omega
    calc b * n = b * (2 * (n / 2) + n % 2) := by rw [← hn]
      _ = (b + b) * (n / 2) + b * (n % 2) := by rw [Nat.mul_add, ← Nat.mul_assoc, Nat.mul_comm b 2, Nat.two_mul]
  refine ⟨fun h1 => ?_, fun h0 => ?_, fun h1 => ?_⟩
  · rw [h1, Nat.mul_one] at e; omega
  · rw [h0, Nat.mul_zero] at e; omega
  · have := Nat.mul_le_mul_left b h1
    omega
set_option maxHeartbeats 3200000 in
theorem many_any (s : ByteArray) (n M : Nat) (w : World) (hn : n ≤ 1000000) (hM : s.size * n ≤ M) (hs : s.size ≤ 100) (hM2 : 100 ≤ M) (hM3 : M ≤ 1000000) :
    Calls Try.prog 23 #[.string s, .int .i64 (n : Int)] w fun e w' => (∃ t : ByteArray, e = .returned (.string t) ∧ t.size ≤ M) ∧ w' = w := by
  go_enter Try.func23, Try.ntmps23
  go_wp2_with fail
  go_loopw [0, 1, 5] (fun x i o wr => ∃ (k : Nat) (b a : ByteArray), k ≤ n ∧ x = .string b ∧ i = .int .i64 (k : Int) ∧ o = .string a ∧ Hid (a.size + b.size * k ≤ M ∧ b.size ≤ 2 * M) ∧ wr = w) (fun _ i _ _ => (intOf i).toNat)
  case atStart => exact ⟨n, s, ⟨#[]⟩, Nat.le_refl _, rfl, rfl, rfl, hide ⟨by have e : (⟨#[]⟩ : ByteArray).size = 0 := rfl; rw [e]; omega, by omega⟩, rfl⟩
  case round =>
    obtain ⟨k, b, a, hk, rfl, rfl, rfl, HI, hwr⟩ := hrel
    by_cases h0 : 1 ≤ k
    · obtain ⟨s1, s2, s3⟩ := many_step a.size b.size k M (unhide HI).1
      have hb := s3 h0
      have ha : a.size ≤ M := by have := (unhide HI).1; omega
      have hk2 : (k : Int).tmod 2 = ((k % 2 : Nat) : Int) := by rw [Int.tmod_eq_emod_of_nonneg (by omega)]; omega
      have hd2 : (k : Int).tdiv 2 = ((k / 2 : Nat) : Int) := by rw [Int.tdiv_eq_ediv_of_nonneg (by omega)]; omega
      have l1 : ¬ 9223372036854775807 < b.size + b.size := by omega
      have l2 : ¬ 9223372036854775807 < a.size + b.size := by omega
      by_cases hodd : k % 2 = 1
      · have HI2 := hide (show (a ++ b).size + (b ++ b).size * (k / 2) ≤ M ∧ (b ++ b).size ≤ 2 * M from ⟨by simpa using s1 hodd, by simp; omega⟩)
        rw [hodd] at hk2
        clear s1 s2 s3 HI hodd
        go_wp2_with fail
        exact ⟨⟨k / 2, _, _, by omega, rfl, by rw [Int.natCast_ediv]; rfl, rfl, HI2, trivial⟩, by simp [intOf]; omega⟩
      · have HI2 := hide (show a.size + (b ++ b).size * (k / 2) ≤ M ∧ (b ++ b).size ≤ 2 * M from ⟨by simpa using s2 (by omega), by simp; omega⟩)
        have hk0 : k % 2 = 0 := by omega
        rw [hk0] at hk2
        clear s1 s2 s3 HI hodd hk0
        go_wp2_with fail
        exact ⟨⟨k / 2, _, _, by omega, rfl, by rw [Int.natCast_ediv]; rfl, rfl, HI2, trivial⟩, by simp [intOf]; omega⟩
    · have HA := hide (show a.size ≤ M by have := (unhide HI).1; omega)
      go_wp2_with fail
      go_ret
      exact ⟨⟨_, rfl, unhide HA⟩, rfl⟩
end Go.Proofs.Ytddmomcanakoiaa

set_option linter.unusedVariables false
namespace Go.Proofs.Ytddmomcanakoiaa
open Go.RowKit Go.Maps Go.Deep

theorem set_new {S : List Nat} {w W : World} {b : Nat} (h : Turn S w W) (hb : w.heap.size ≤ b) (i : Nat) (v : Value) : Turn S w (W.setCell ⟨b, i, none⟩ v) :=
  ⟨h.os, h.tape, h.output, by simpa using h.size, fun k hk hS => (Below.heap_setCell W ⟨b, i, none⟩ v k (by show k ≠ b; omega)).trans (h.block k hk hS)⟩
def nmF (j : Nat) : ByteArray := [(⟨#[120]⟩ : ByteArray), ⟨#[121]⟩, ⟨#[115, 45, 49]⟩, ⟨#[97, 98, 99, 100, 101, 102, 103, 104]⟩, ⟨#[122, 57]⟩].getD j ⟨#[]⟩
def badF (j : Nat) : ByteArray := [(⟨#[]⟩ : ByteArray), ⟨#[88]⟩, ⟨#[97, 98, 99, 100, 101, 102, 103, 104, 105]⟩, ⟨#[97, 32, 98]⟩].getD j ⟨#[]⟩
def n3F (j : Nat) : Int := [(-9223372036854775808 : Int), 9223372036854775807, -1].getD j 0
def n4F (j : Nat) : Int := [(1125899906842624 : Int), 1125899906842625, 0].getD j 0
def kdF (j : Nat) : Int := [(0 : Int), 5, -1, 257].getD j 0
theorem nmF_size (j : Nat) : (nmF j).size ≤ 1000000 := by
  match j with
  | 0 | 1 | 2 | 3 | 4 => decide
  | n + 5 => simp [nmF, ByteArray.size]
theorem badF_size (j : Nat) : (badF j).size ≤ 1000000 := by
  match j with
  | 0 | 1 | 2 | 3 => decide
  | n + 4 => simp [badF, ByteArray.size]
theorem n3F_fit (j : Nat) : -9223372036854775808 ≤ n3F j ∧ n3F j ≤ 9223372036854775807 := by
  match j with
  | 0 | 1 | 2 => decide
  | n + 3 => simp [n3F]
theorem n4F_fit (j : Nat) : -9223372036854775808 ≤ n4F j ∧ n4F j ≤ 9223372036854775807 := by
  match j with
  | 0 | 1 | 2 => decide
  | n + 3 => simp [n4F]
theorem kdF_fit (j : Nat) : -9223372036854775808 ≤ kdF j ∧ kdF j ≤ 9223372036854775807 := by
  match j with
  | 0 | 1 | 2 | 3 => decide
  | n + 4 => simp [kdF]
/-- a record is drawn -/
def RetRecD (base g p : Nat) (w : World) (e : Ending) (w' : World) : Prop := ∃ r : RecV, e = .returned (recVal r) ∧ (r.name.size ≤ 1000000 ∧ r.text.size ≤ 1000000 ∧ IntFit r.kind ∧ IntFit r.num) ∧ (∃ q, q ≤ p + 10 ∧ RdIn base w' g q) ∧ Turn [g] w w'
theorem ret_rec {w W : World} {base g p q br : Nat} {xs : List Value} {k n : Int} {nm tx : ByteArray} {tmps : Array Value} (hb : BoxF W br xs) (hl : xs.length = 4) (h2 : tmps[2]? = some (.pointer (some ⟨br, 0, none⟩)))
    (hnm : nm.size ≤ 1000000) (htx : tx.size ≤ 1000000) (hk : IntFit k) (hn : IntFit n) (hq : q ≤ p + 10) (hr : RdIn base W g q) (hne : g ≠ br) (hbn : w.heap.size ≤ br) (hbb : base ≤ br) (ht : Turn [g] w W) :
    bodyPost Try.prog Try.f37 (fun e w' => RetRecD base g p w e w') .ret { tmps := tmps, defers := [] } ((((W.setCell ⟨br, 0, none⟩ (.int .i64 k)).setCell ⟨br, 1, none⟩ (.string nm)).setCell ⟨br, 2, none⟩ (.int .i64 n)).setCell ⟨br, 3, none⟩ (.string tx)) := by
  obtain ⟨y0, y1, y2, y3, _, t⟩ := fill4 W br (.int .i64 k) (.string nm) (.int .i64 n) (.string tx) (fun i hi => ⟨_, hb.1.2 i _ (List.getElem?_eq_getElem (by omega))⟩)
  have hRD := hr.turn t (by simpa using hne) (by simpa using hbb)
  have hT := set_new (set_new (set_new (set_new ht hbn 0 (.int .i64 k)) hbn 1 (.string nm)) hbn 2 (.int .i64 n)) hbn 3 (.string tx)
  refine bodyPost_ret (v := .agg #[.int .i64 k, .string nm, .int .i64 n, .string tx]) ?_ rfl ⟨⟨k, nm, n, tx⟩, rfl, ⟨hnm, htx, hk, hn⟩, ⟨q, hq, hRD⟩, hT⟩
  simp [results, Try.results37, go_sem, h2, y0, y1, y2, y3]
end Go.Proofs.Ytddmomcanakoiaa
