/-
  FrameRead of the program.
-/
/-
  What the rounds of a range over a function keep: all blocks below a number but the listed ones.
-/
/-
  The program's bodies, told one behind the other by an iterator that goes through its listener.
-/
import Derived.Test.YtlgmmibncoedgaaMerged6
import Derived.Test.YtlgmmibncoedgaaMerged42
import Derived.ChangeKeysEq
import Derived.Test.YtlgmmibncoedgaaMerged1
import Derived.RangeFuncNested
import Derived.RangeFuncBound
import Derived.RangeFuncCalls
import Derived.RangeFuncLeaves
import Derived.Shelf.Abstract
import Derived.Shelf.RegionOpen
import Derived.OwnWalkIn
import Derived.TacticsInMore
import Derived.LoopNIn
import Derived.LoopIn
import Derived.Test.YtlgmmibncoedgaaSplitWalkS
import Derived.Test.YtlgmmibncoedgaaMerged7
import Derived.WalkKit
set_option linter.unusedVariables false
namespace Go.Proofs.Ytlgmmibncoedgaa
open Go.RowKit Go.Maps Go.Deep

def headEq (bs : List UInt8) (n : Nat) : Bool := decide (byN bs 0 = 245) && decide (byN bs 1 = (beB (n : Int) 1).toNat) && decide (byN bs 2 = (beB (n : Int) 0).toNat)
theorem head_sz {bs : List UInt8} {n : Nat} (hn : bs.length = n + 5) (h1 : 1 ≤ n) (h2 : n ≤ 260) : headEq bs n = decide (frameSz bs = bs.length) := by
  have e1 := beB_one n
  have e0 := beB_zero n
  have l1 := byN_lt bs 1
  have l2 := byN_lt bs 2
  unfold headEq
  by_cases hm : byN bs 0 = 245
  · have hs : frameSz bs = if 1 ≤ headN bs ∧ headN bs ≤ 260 then headN bs + 5 else -1 := by simp [frameSz, hm]; omega
    have e : (byN bs 1 = (beB (n : Int) 1).toNat ∧ byN bs 2 = (beB (n : Int) 0).toNat) ↔ frameSz bs = bs.length := by
      rw [hs, hn]
      unfold headN
      split
      · constructor
        · rintro ⟨a, b⟩; omega
        · intro h; constructor <;> omega
      · constructor
        · rintro ⟨a, b⟩; omega
        · intro h; omega
    rw [Bool.eq_iff_iff]
    simp only [Bool.and_eq_true, decide_eq_true_eq]
    constructor
    · rintro ⟨⟨_, a⟩, b⟩; exact e.1 ⟨a, b⟩
    · intro h; exact ⟨⟨hm, (e.2 h).1⟩, (e.2 h).2⟩
  · have hs : frameSz bs = -1 := by
      unfold frameSz
      rw [if_pos ⟨by omega, hm⟩]
    rw [hs]
    simp [hm]
theorem cmp_head (x0 x1 x2 y0 y1 y2 : Int) (w : World) : (Op.equalIn 10000 68 (.agg #[.int .u8 x0, .int .u8 x1, .int .u8 x2]) (.agg #[.int .u8 y0, .int .u8 y1, .int .u8 y2])).run Try.prog w = .ok ((x0 == y0) && (x1 == y1) && (x2 == y2)) w := by
  obtain ⟨i0, hi, hz0, hz1, hz2⟩ := info_parts1 infoByte
  have hc : Try.prog.cellsOf 5 = 1 := by kernel_rfl
  have h0 : ∀ (d : Nat) (x y : Int) (w : World), (Op.equalIn (d + 1) 5 (.int .u8 x) (.int .u8 y)).run Try.prog w = .ok (x == y) w := by
    intro d x y w
    simp [Op.equalIn, run_underlying Try.underlying5]
  have hp : ∀ (a b c : Int) (k : Nat) (v : Value), (#[Value.int .u8 a, .int .u8 b, .int .u8 c] : Array Value)[k]? = some v → (part 5 #[.int .u8 a, .int .u8 b, .int .u8 c] k).run Try.prog w = .ok v w := by
    intro a b c k v hv
    have ha : (isAgg 5).run Try.prog w = .ok false w := by kernel_rfl
    unfold part
    simp only [Sem.run_bind, ha, Result.andThen_ok, Bool.false_eq_true, if_false, hv, Sem.run_pure]
  have key : ∀ d, (Op.eqItems (d + 1) 5 1 #[.int .u8 x0, .int .u8 x1, .int .u8 x2] #[.int .u8 y0, .int .u8 y1, .int .u8 y2] [0, 1, 2]).run Try.prog w = .ok ((x0 == y0) && (x1 == y1) && (x2 == y2)) w := by
    intro d
    simp only [Op.eqItems, Sem.run_bind, Nat.mul_one]
    rw [hp x0 x1 x2 0 (.int .u8 x0) rfl, Result.andThen_ok, hp y0 y1 y2 0 (.int .u8 y0) rfl, Result.andThen_ok, h0 d x0 y0 w, Result.andThen_ok]
    cases (x0 == y0)
    · simp
    · simp only [Bool.not_true, Bool.false_eq_true, if_false, Sem.run_bind]
      rw [hp x0 x1 x2 1 (.int .u8 x1) rfl, Result.andThen_ok, hp y0 y1 y2 1 (.int .u8 y1) rfl, Result.andThen_ok, h0 d x1 y1 w, Result.andThen_ok]
      cases (x1 == y1)
      · simp
      · simp only [Bool.not_true, Bool.false_eq_true, if_false, Sem.run_bind]
        rw [hp x0 x1 x2 2 (.int .u8 x2) rfl, Result.andThen_ok, hp y0 y1 y2 2 (.int .u8 y2) rfl, Result.andThen_ok, h0 d x2 y2 w, Result.andThen_ok]
        cases (x2 == y2) <;> simp
  have h9 := run_equalIn_array w 9999 #[.int .u8 x0, .int .u8 x1, .int .u8 x2] #[.int .u8 y0, .int .u8 y1, .int .u8 y2] Try.underlying68 hi
  rw [hc] at h9
  exact h9.trans (key 9998)
theorem rdNew (w : World) (v : Value) (rest : List UInt8) (T : TypeId) (h : ByRd w v rest) (ha : AwayFrom w.heap.size v rest) : RdIs w.heap.size (w.alloc (.cells #[v, .bool false] T)) w.heap.size v rest false := by
  have hb := boxF_new w [v, .bool false] T
  refine ⟨Nat.le_refl _, by simp, hb.1.at 0 _ rfl, hb.1.at 1 _ rfl, hb.2 0 (by simp), hb.2 1 (by simp), h.up ((Below.refl _ _).alloc (Nat.le_refl _) _), ha⟩
theorem ByRd.turnA {S : List Nat} {B : Nat} {w w' : World} {v : Value} {bs : List UInt8} (h : ByRd w v bs) (ha : AwayFrom B v bs) (ht : Turn S w w') (hS : ∀ k ∈ S, B ≤ k) : ByRd w' v bs := by
  obtain ⟨a, c, rfl, hin, hc⟩ := h
  refine ⟨a, c, rfl, ?_, hc⟩
  rcases hin with h0 | ⟨b, off, rfl, hb, hx⟩
  · exact .inl h0
  · by_cases h0 : bs.length = 0
    · exact .inl (List.eq_nil_of_length_eq_zero h0)
    · have h5 : b < B := ha _ _ _ rfl (by omega)
      exact .inr ⟨b, off, rfl, Nat.lt_of_lt_of_le hb ht.size, hx.turn ht hb (fun hm => by have := hS b hm; omega)⟩
theorem cut_mid {w : World} {a : Option Addr} {c : Nat} {bs : List UInt8} (h : ByIn w a bs) (hc : bs.length ≤ c) (k n : Nat) (hk : k + n ≤ bs.length) : ByRd w (.slice (a.map (fun x => { block := x.block, off := x.off + k })) n (c - k)) ((bs.drop k).take n) := by
  refine ⟨a.map (fun x => { block := x.block, off := x.off + k }), c - k, by rw [List.length_take, List.length_drop, Nat.min_eq_left (by omega)], ?_, by rw [List.length_take, List.length_drop]; omega⟩
  rcases h with rfl | ⟨b, off, rfl, hb, hx⟩
  · exact .inl (by simp)
  · refine .inr ⟨b, off + k, rfl, hb, fun i hi => ?_⟩
    simp at hi
    rw [List.getElem_take, List.getElem_drop, Nat.add_assoc]
    exact hx (k + i) (by omega)
theorem turnD (S : List Nat) (w : World) : Turn S w w.drew := ⟨rfl, rfl, rfl, Nat.le_refl _, fun _ _ _ => rfl⟩
set_option maxHeartbeats 6400000 in
theorem implFRead_row (bs : List UInt8) (v : Value) (w : World) (hl : bs.length ≤ 1048576) (h : ByRd w v bs) :
    Calls Try.prog 72 #[v] w fun e w' => ∃ v, e = .returned (.tuple #[v, .bool (frameOk bs)]) ∧ Hid (ByRow w.heap.size w' v (frameOut bs)) ∧ Below w.heap.size w w' := by
  have HR := hide h
  obtain ⟨a, c, rfl, hin, hcap⟩ := h
  cases hfit : fitI ((bs.length : Int) - 5)
  · have HB := hide (show frameOk bs = false by
      simp [fitI] at hfit
      unfold frameOk
      rcases sz_cases bs with e | e | e <;> simp <;> omega)
    have HV := hide (show frameOut bs = [] by simp [frameOut, unhide HB])
    have HF := hide hfit
    clear hfit hin hcap HR
    generalize bs.length = n at *
    go_enter Try.func72, Try.ntmps72
    go_wp2_with fail
    refine (bodySizeOk_any _ _).mono ?_
    rintro e w1 ⟨rfl, hw⟩
    rw [hw, unhide HF]
    clear hw w1
    go_wp2_with fail
    go_ret2
    exact ⟨_, by rw [unhide HB]; rfl, by rw [unhide HV]; exact ByRow.nil _ _, by go_grown⟩
  · obtain ⟨n, hn⟩ : ∃ n, bs.length = n + 5 := ⟨bs.length - 5, by simp [fitI] at hfit; omega⟩
    have hn1 : 1 ≤ n ∧ n ≤ 260 := by simp [fitI] at hfit; omega
    have hsub : (bs.length : Int) - 5 = (n : Int) := by omega
    have HF := hide (show fitI (n : Int) = true by rw [← hsub]; exact hfit)
    have HQ := hide (head_sz hn hn1.1 hn1.2)
    have HH := hide (headOf_any a c bs w hl (by omega) hin)
    have HFR := hide (fun W => headFor_any n W (by omega))
    obtain ⟨hn1, hn2⟩ := hn1
    have HN := hide hn
    have hnl : 5 ≤ bs.length := by omega
    clear hfit hn
    unfold headVal at HH
    unfold headV at HFR
    go_enter Try.func72, Try.ntmps72
    go_wp2_with fail
    refine (bodySizeOk_any _ _).mono ?_
    rintro e w1 ⟨rfl, hw⟩
    rw [hw, unhide HF]
    clear hw w1
    go_wp2_with fail
    refine (unhide HH).mono ?_
    rintro e w1 ⟨rfl, b1⟩
    have B1 := hide b1
    clear b1 HH
    go_wp2_with fail
    refine (unhide HFR _).mono ?_
    rintro e w2 ⟨rfl, b2⟩
    have B2 := hide ((unhide B1).trans (b2.mono (unhide B1).size))
    clear b2 HFR B1
    have hcmp := fun (x0 x1 x2 y0 y1 y2 : Int) => cmp_head x0 x1 x2 y0 y1 y2 w2
    by_cases hq : headEq bs n = true
    · have hq' := hq
      simp only [headEq, Bool.and_eq_true, decide_eq_true_eq] at hq'
      obtain ⟨⟨e0, e1⟩, e2⟩ := hq'
      rw [e0, e1, e2]
      have HFS := hide (of_decide_eq_true ((unhide HQ).symm.trans hq))
      clear e0 e1 e2 hq HQ
      generalize (beB (n : Int) 1).toNat = y1
      generalize (beB (n : Int) 0).toNat = y0
      have hm3 : 3 + n ≤ bs.length := by have := unhide HN; omega
      have h3c : (3 : Int) + (n : Int) ≤ (c : Int) := by have := unhide HN; omega
      have h3l : (3 : Int) + (n : Int) ≤ (bs.length : Int) := by have := unhide HN; omega
      have HIN := hide ((unhide HR).up (unhide B2))
      have HAT := hide (show AwayFrom w2.heap.size (.slice (a.map (fun x => x.add (3 + n))) (bs.length - (3 + n)) (c - (3 + n))) (bs.drop (3 + n)) from fun ad m q e h1 => by
        simp only [Value.slice.injEq] at e
        obtain ⟨a', c', e', hin', _⟩ := unhide HIN
        simp only [Value.slice.injEq] at e'
        obtain ⟨rfl, _, _⟩ := e'
        rcases hin' with h0 | ⟨b, off, rfl, hb, _⟩
        · rw [h0] at h1; simp at h1
        · have := e.1
          simp at this
          rw [← this]
          unfold Addr.add
          split <;> exact hb)
      have HDR := hide (show ByRd w2 (.slice (a.map (fun x => x.add (3 + n))) (bs.length - (3 + n)) (c - (3 + n))) (bs.drop (3 + n)) by
        obtain ⟨a', c', e', hin', _⟩ := unhide HIN
        simp only [Value.slice.injEq] at e'
        obtain ⟨rfl, _, rfl⟩ := e'
        exact cut_drop hin' hcap (3 + n) _ rfl hm3)
      have HTK := hide (show ByRd w2 (.slice a (3 + n) c) (bs.take (3 + n)) by
        obtain ⟨a', c', e', hin', _⟩ := unhide HIN
        simp only [Value.slice.injEq] at e'
        obtain ⟨rfl, _, rfl⟩ := e'
        exact cut_take hin' hcap (3 + n) hm3)
      have HTA := hide (show AwayFrom w2.heap.size (.slice a (3 + n) c) (bs.take (3 + n)) from fun ad m q e h1 => by
        simp only [Value.slice.injEq] at e
        obtain ⟨a', c', e', hin', _⟩ := unhide HIN
        simp only [Value.slice.injEq] at e'
        obtain ⟨rfl, _, _⟩ := e'
        rcases hin' with h0 | ⟨b, off, rfl, hb, _⟩
        · rw [h0] at h1; simp at h1
        · have := e.1
          simp at this
          rw [← this]
          exact hb)
      go_wp2_with fail
      generalize (Value.slice (a.map (fun x => x.add (3 + n))) (bs.length - (3 + n)) (c - (3 + n))) = V at *
      have HRD := hide (rdNew w2 V (bs.drop (3 + n)) 113 (unhide HDR) (unhide HAT))
      have B3 := hide ((unhide B2).alloc (unhide B2).size (.cells #[V, .bool false] 113))
      have HSL := hide (fun (X : World) (t : Turn [w2.heap.size] (w2.alloc (.cells #[V, .bool false] 113)) X) => ((unhide HTK).up ((Below.refl _ _).alloc (Nat.le_refl _) (.cells #[V, .bool false] 113))).turnA (unhide HTA) t (by simp))
      have hz2 := hide (show w.heap.size ≤ w2.heap.size from (unhide B2).size)
      generalize w2.alloc (.cells #[V, .bool false] 113) = W3 at *
      clear HIN HAT HDR HTK HTA hcmp hin B2
      have HOK := hide (show decide (numL (takeL 2 (bs.drop (3 + n))) = saySum (bs.take (3 + n))) = frameOk bs by
        have hN := unhide HN
        have e1 : bs.length - 2 = 3 + n := by omega
        have e2 : takeL 2 (bs.drop (3 + n)) = bs.drop (3 + n) := by
          unfold takeL
          rw [if_pos (by simp; omega), List.take_of_length_le (by simp; omega)]
        unfold frameOk
        rw [e1, e2, show decide (6 ≤ bs.length) = true by simp; omega, show decide (frameSz bs = bs.length) = true by simpa using unhide HFS, Bool.and_self, Bool.true_and, decide_eq_decide]
        exact ⟨Eq.symm, Eq.symm⟩)
      have HOUT := hide (show frameBody bs = (bs.drop 3).take n by have hN := unhide HN; unfold frameBody; congr 1; omega)
      go_region_with (first
        | (go_at_call 91; refine (num_any w2.heap.size w2.heap.size _ V (bs.drop (3 + n)) false 2 (by omega) (by simp; omega) ((unhide HRD).turn (turnD [] _) (by simp) (by simp))).mono ?_; rintro e w4 ⟨v4, rfl, R4, T4⟩; have TT := hide ((turnD [w2.heap.size] W3).trans (unhide T4)); clear T4)
        | (go_at_call 33; refine (implSSum_any _ _ (bs.take (3 + n)) (by simp; unfold maxLen; omega) (unhide HSL _ (unhide TT))).mono ?_; rintro e w5 ⟨rfl, hw5⟩; rw [hw5]; clear hw5)
        | fail)
      all_goals
        have B4 := hide ((unhide B3).trans ((unhide TT).below (unhide B3).size (by simp; exact unhide hz2)))
        by_cases he : numL (takeL 2 (bs.drop (3 + n))) = saySum (bs.take (3 + n))
        · have hne : (numL (takeL 2 (bs.drop (3 + n))) != saySum (bs.take (3 + n))) = false := by simp [he]
          have HB := hide ((unhide HOK).symm.trans (decide_eq_true he))
          have HV := hide (show frameOut bs = (bs.drop 3).take n by simp only [frameOut, unhide HB, if_true]; exact unhide HOUT)
          have HX := hide (show ByRd w4 (.slice (a.map (fun x => { block := x.block, off := x.off + 3 })) n (c - 3)) ((bs.drop 3).take n) by
            obtain ⟨a', c', e', hin', hc'⟩ := (unhide HR).up (unhide B4)
            simp only [Value.slice.injEq] at e'
            obtain ⟨rfl, _, rfl⟩ := e'
            exact cut_mid hin' hc' 3 n hm3)
          clear he
          go_wp2_with fail
          refine (clone_any w4 _ ((bs.drop 3).take n) (unhide HX) (by simp; omega)).mono ?_
          rintro e w6 ⟨a6, n6, c6, rfl, HN6, r6, b6⟩
          have R6 := hide r6
          have B6 := hide ((unhide B4).trans (b6.mono (unhide B4).size))
          clear r6 b6
          go_wp2_with fail
          go_ret2
          exact ⟨_, by rw [unhide HB]; rfl, by rw [unhide HV]; exact (unhide R6).mono (unhide B4).size, unhide B6⟩
        · have hne : (numL (takeL 2 (bs.drop (3 + n))) != saySum (bs.take (3 + n))) = true := by simpa using he
          have HB := hide ((unhide HOK).symm.trans (decide_eq_false he))
          have HV := hide (show frameOut bs = [] by simp [frameOut, unhide HB])
          clear he
          go_wp2_with fail
          go_ret2
          exact ⟨_, by rw [unhide HB]; rfl, by rw [unhide HV]; exact ByRow.nil _ _, unhide B4⟩
    · have HB := hide (show frameOk bs = false by
        have : decide (frameSz bs = bs.length) = false := by rw [← unhide HQ]; simpa using hq
        unfold frameOk
        rw [this]
        simp)
      have HV := hide (show frameOut bs = [] by simp [frameOut, unhide HB])
      have hq' : ¬ (byN bs 0 = 245 ∧ byN bs 1 = (beB (n : Int) 1).toNat ∧ byN bs 2 = (beB (n : Int) 0).toNat) := by
        intro hh
        exact hq (by simp [headEq, hh.1, hh.2.1, hh.2.2])
      generalize byN bs 0 = x0 at *
      generalize byN bs 1 = x1 at *
      generalize byN bs 2 = x2 at *
      generalize (beB (n : Int) 1).toNat = y1 at *
      generalize (beB (n : Int) 0).toNat = y0 at *
      clear hq HQ hin
      by_cases e0 : x0 = 245
      · by_cases e1 : x1 = y1
        · have e2 : ¬ x2 = y0 := fun e2 => hq' ⟨e0, e1, e2⟩
          have q2 : ((x2 : Int) == (y0 : Int)) = false := by simp; omega
          subst e0 e1
          clear hq' e2
          go_wp2_with fail
          go_ret2
          exact ⟨_, by rw [unhide HB]; rfl, by rw [unhide HV]; exact ByRow.nil _ _, unhide B2⟩
        · have q1 : ((x1 : Int) == (y1 : Int)) = false := by simp; omega
          subst e0
          clear hq' e1
          go_wp2_with fail
          go_ret2
          exact ⟨_, by rw [unhide HB]; rfl, by rw [unhide HV]; exact ByRow.nil _ _, unhide B2⟩
      · have q0 : ((x0 : Int) == 245) = false := by simp; omega
        clear hq' e0
        go_wp2_with fail
        go_ret2
        exact ⟨_, by rw [unhide HB]; rfl, by rw [unhide HV]; exact ByRow.nil _ _, unhide B2⟩
theorem implFRead_any (bs : List UInt8) (v : Value) (w : World) (hl : bs.length ≤ 1048576) (h : ByRd w v bs) :
    Calls Try.prog 72 #[v] w fun e w' => ∃ v S, e = .returned (.tuple #[v, .bool (frameOk bs)]) ∧ Hid (ByOwn S w' v (frameOut bs)) ∧ Hid (∀ k ∈ S, w.heap.size ≤ k) ∧ Below w.heap.size w w' := by
  refine (implFRead_row bs v w hl h).mono ?_
  rintro e w' ⟨v', h1, h2, h3⟩
  obtain ⟨S, o1, o2, _⟩ := (unhide h2).own
  exact ⟨v', S, h1, hide o1, hide o2, h3⟩
end Go.Proofs.Ytlgmmibncoedgaa

set_option linter.unusedVariables false
namespace Go.Proofs.Ytlgmmibncoedgaa
open Go.RowKit Go.Maps Go.Shelf

structure Keep (n₀ : Nat) (S : List Nat) (w w' : World) : Prop where
  size : w.heap.size ≤ w'.heap.size
  block : ∀ k, k < n₀ → k ∉ S → w'.heap[k]? = w.heap[k]?
theorem Keep.refl (n₀ : Nat) (S : List Nat) (w : World) : Keep n₀ S w w := ⟨Nat.le_refl _, fun _ _ _ => rfl⟩
theorem Keep.trans {n₀ : Nat} {S : List Nat} {a b c : World} (h : Keep n₀ S a b) (k : Keep n₀ S b c) : Keep n₀ S a c := ⟨Nat.le_trans h.size k.size, fun i hi hS => (k.block i hi hS).trans (h.block i hi hS)⟩
theorem Keep.of_below {n₀ : Nat} {S : List Nat} {a b : World} (h : Below n₀ a b) : Keep n₀ S a b := ⟨h.size, fun k hk _ => h.block k hk⟩
theorem Keep.of_turn {n₀ : Nat} {S S' : List Nat} {a b : World} (h : Turn S a b) (hn : n₀ ≤ a.heap.size) (hS : ∀ k ∈ S, k ∈ S' ∨ n₀ ≤ k) : Keep n₀ S' a b :=
  ⟨h.size, fun k hk hn' => h.block k (Nat.lt_of_lt_of_le hk hn) (fun hm => (hS k hm).elim hn' (fun e => by omega))⟩
theorem Keep.cell {n₀ : Nat} {S : List Nat} {a b : World} (h : Keep n₀ S a b) {g i : Nat} (hg : g < n₀) (hS : g ∉ S) : b.cell? ⟨g, i, none⟩ = a.cell? ⟨g, i, none⟩ := World.cell?_of_block (w := a) (a := ⟨g, i, none⟩) (h.block g hg hS)
theorem Keep.alloc {n₀ : Nat} {S : List Nat} {a b : World} (h : Keep n₀ S a b) (hn : n₀ ≤ b.heap.size) (o : Obj) : Keep n₀ S a (b.alloc o) := h.trans (Keep.of_below ((Below.refl _ _).alloc hn o))
theorem Keep.setCell {n₀ : Nat} {S : List Nat} {a b : World} (h : Keep n₀ S a b) {g : Nat} (hg : g ∈ S ∨ n₀ ≤ g) (i : Nat) (v : Value) : Keep n₀ S a (b.setCell ⟨g, i, none⟩ v) :=
  h.trans ⟨by simp, fun k hk hS => Below.heap_setCell b ⟨g, i, none⟩ v k (fun e => by subst e; exact hg.elim hS (fun e => by omega))⟩
theorem keepK_t {n₀ : Nat} {S : List Nat} {A B C : World} (h : Keep n₀ S A B) (k : Keep n₀ S B C) : Keep n₀ S A C := h.trans k
theorem keepK_b {w : World} {n₀ : Nat} {S : List Nat} (hn : n₀ ≤ w.heap.size) (W : World) (l : Nat) (o o' : Obj) (hl : w.heap.size ≤ l) (h : W.heap[l]? = some o) (hc : o.isCells = false) (hw : o.isWalk = false) : Keep n₀ S W (W.putObj l o') :=
  ⟨by simp, fun k hk _ => World.putObj_heap_other (fun e => by omega)⟩
end Go.Proofs.Ytlgmmibncoedgaa

set_option linter.unusedVariables false
namespace Go.Proofs.Ytlgmmibncoedgaa
open Go.RowKit Go.Maps Go.Deep Go.Shelf

attribute [local go_sem] Oper.semAt_some

/-- all bytes, and all blocks below n₀, are as they were -/
def KeepG (n₀ : Nat) (w w' : World) : Prop := KeepU w w' ∧ ∀ k, k < n₀ → w'.heap[k]? = w.heap[k]?
theorem KeepG.refl (n₀ : Nat) (w : World) : KeepG n₀ w w := ⟨KeepU.refl w, fun _ _ => rfl⟩
theorem KeepG.trans {n₀ : Nat} {a b c : World} (h : KeepG n₀ a b) (k : KeepG n₀ b c) : KeepG n₀ a c := ⟨h.1.trans k.1, fun g hg => (k.2 g hg).trans (h.2 g hg)⟩
theorem KeepG.below {n₀ : Nat} {w w' : World} (h : Below w.heap.size w w') (hn : n₀ ≤ w.heap.size) : KeepG n₀ w w' := ⟨KeepU.below h, fun g hg => h.block g (by omega)⟩
/-- bytes in a block of bytes, or in one below n₀ -/
def ByU (n₀ : Nat) (w : World) (v : Value) (bs : List UInt8) : Prop := ∃ a c, v = .slice a bs.length c ∧ bs.length ≤ c ∧ (bs = [] ∨ ∃ b off, a = some ⟨b, off, none⟩ ∧ b < w.heap.size ∧ (b < n₀ ∨ ∃ cur, w.heap[b]? = some (Obj.cells cur 5)) ∧ ByAt w b off bs)
theorem ByU.rd {n₀ : Nat} {w : World} {v : Value} {bs : List UInt8} (h : ByU n₀ w v bs) : ByRd w v bs := by
  obtain ⟨a, c, rfl, hc, h⟩ := h
  refine ⟨a, c, rfl, ?_, hc⟩
  rcases h with h | ⟨b, off, rfl, hb, _, h⟩
  · exact .inl h
  · exact .inr ⟨b, off, rfl, hb, h⟩
theorem ByU.of_rd {w : World} {v : Value} {bs : List UInt8} (h : ByRd w v bs) : ByU w.heap.size w v bs := by
  obtain ⟨a, c, rfl, h, hc⟩ := h
  refine ⟨a, c, rfl, hc, ?_⟩
  rcases h with h | ⟨b, off, rfl, hb, h⟩
  · exact .inl h
  · exact .inr ⟨b, off, rfl, hb, .inl hb, h⟩
theorem ByU.keepG {n₀ : Nat} {w w' : World} {v : Value} {bs : List UInt8} (h : ByU n₀ w v bs) (hk : KeepG n₀ w w') : ByU n₀ w' v bs := by
  obtain ⟨a, c, rfl, hc, h⟩ := h
  refine ⟨a, c, rfl, hc, ?_⟩
  rcases h with h | ⟨b, off, rfl, hb, ht, h⟩
  · exact .inl h
  · have e : w'.heap[b]? = w.heap[b]? := by
      rcases ht with ht | ⟨cur, ht⟩
      · exact hk.2 b ht
      · exact hk.1.2 b cur ht
    refine .inr ⟨b, off, rfl, Nat.lt_of_lt_of_le hb hk.1.1, ?_, fun i hi => (World.cell?_of_block (w := w) (a := ⟨b, off + i, none⟩) e).trans (h i hi)⟩
    rcases ht with ht | ⟨cur, ht⟩
    · exact .inl ht
    · exact .inr ⟨cur, e.trans ht⟩
theorem ByU.drop {n₀ : Nat} {w : World} {a : Option Addr} {n c : Nat} {bs : List UInt8} (h : ByU n₀ w (.slice a n c) bs) (m : Nat) (hm : m ≤ bs.length) : ByU n₀ w (.slice (if c = m then a else a.map (fun x => x.add m)) (n - m) (c - m)) (bs.drop m) := by
  obtain ⟨a', c', e, hc, h⟩ := h
  simp only [Value.slice.injEq] at e
  obtain ⟨rfl, rfl, rfl⟩ := e
  refine ⟨_, _, by rw [List.length_drop], by rw [List.length_drop]; omega, ?_⟩
  by_cases e : c = m
  · exact .inl (List.drop_of_length_le (by omega))
  · rw [if_neg e]
    rcases h with h | ⟨b, off, rfl, hb, ht, h⟩
    · subst h; exact .inl (by simp)
    · refine .inr ⟨b, off + m, ?_, hb, ht, fun i hi => ?_⟩
      · by_cases h0 : m = 0
        · subst h0; simp [Addr.add]
        · simp [Addr.add, h0]
      · rw [List.getElem_drop, Nat.add_assoc]
        exact h (m + i) (by simp at hi; omega)
theorem ByU.of_row {B n₀ : Nat} {w : World} {v : Value} {bs : List UInt8} (h : ByRow B w v bs) : ByU n₀ w v bs := by
  obtain ⟨a, c, e, hin, hc⟩ := h.rd
  subst e
  refine ⟨a, c, rfl, hc, ?_⟩
  rcases hin with hin | ⟨b, off, rfl, hb, hin⟩
  · exact .inl hin
  · rcases h with ⟨_, ⟨e, _⟩ | ⟨g, cap, cur, e, hB, hg, _⟩⟩
    · simp at e
    · simp only [Value.slice.injEq, Option.some.injEq, Addr.mk.injEq, and_true] at e
      obtain ⟨⟨rfl, rfl⟩, _⟩ := e
      exact .inr ⟨b, 0, rfl, hb, .inr ⟨cur, hg⟩, hin⟩
/-- the listener's box: what is left, and how many were passed over -/
def Lis (w : World) (Bg : Nat) (a : Option Addr) (n c : Nat) (lost : Int) : Prop := w.heap[Bg]? = some (Obj.cells #[.slice a n c, .int .i64 lost] 76)
theorem Lis.cells {w : World} {Bg : Nat} {a : Option Addr} {n c : Nat} {lost : Int} (h : Lis w Bg a n c lost) : w.cell? ⟨Bg, 0, none⟩ = some (.slice a n c) ∧ w.cell? ⟨Bg, 1, none⟩ = some (.int .i64 lost) := by
  have hb : w.heap[Bg]? = some (Obj.cells #[.slice a n c, .int .i64 lost] 76) := h
  constructor
  · simp [World.cell?, hb]
  · simp [World.cell?, hb]
theorem Lis.lt {w : World} {Bg : Nat} {a : Option Addr} {n c : Nat} {lost : Int} (h : Lis w Bg a n c lost) : Bg < w.heap.size := (Array.getElem?_eq_some_iff.1 h).1
theorem Lis.frozen {w : World} {Bg : Nat} {a : Option Addr} {n c : Nat} {lost : Int} (h : Lis w Bg a n c lost) (i : Nat) : w.frozen? ⟨Bg, i, none⟩ = false := by
  have hb : w.heap[Bg]? = some (Obj.cells #[.slice a n c, .int .i64 lost] 76) := h
  simp [World.frozen?, hb]
theorem Lis.set0 {w : World} {Bg : Nat} {a : Option Addr} {n c : Nat} {lost : Int} (h : Lis w Bg a n c lost) (a' : Option Addr) (n' c' : Nat) : Lis (w.setCell ⟨Bg, 0, none⟩ (.slice a' n' c')) Bg a' n' c' lost := by
  obtain ⟨hlt, hk⟩ := Array.getElem?_eq_some_iff.1 h
  show (w.heap.modify Bg _)[Bg]? = _
  rw [Array.getElem?_eq_getElem (by rw [Array.size_modify]; exact hlt), Array.getElem_modify_self, hk]
  rfl
theorem Lis.set1 {w : World} {Bg : Nat} {a : Option Addr} {n c : Nat} {lost : Int} (h : Lis w Bg a n c lost) (l' : Int) : Lis (w.setCell ⟨Bg, 1, none⟩ (.int .i64 l')) Bg a n c l' := by
  obtain ⟨hlt, hk⟩ := Array.getElem?_eq_some_iff.1 h
  show (w.heap.modify Bg _)[Bg]? = _
  rw [Array.getElem?_eq_getElem (by rw [Array.size_modify]; exact hlt), Array.getElem_modify_self, hk]
  rfl
theorem Lis.up {w w' : World} {Bg : Nat} {a : Option Addr} {n c : Nat} {lost : Int} (h : Lis w Bg a n c lost) (hb : Below w.heap.size w w') : Lis w' Bg a n c lost := (hb.block _ h.lt).trans h
theorem Lis.keepU {w : World} {Bg : Nat} {a : Option Addr} {n c : Nat} {lost : Int} (h : Lis w Bg a n c lost) (i : Nat) (v : Value) : KeepU w (w.setCell ⟨Bg, i, none⟩ v) :=
  ⟨by simp, fun g cur hg => Below.heap_setCell w ⟨Bg, i, none⟩ v g (fun e => by
    have e' : g = Bg := e
    subst e'
    have hb : w.heap[g]? = some (Obj.cells #[.slice a n c, .int .i64 lost] 76) := h
    rw [hb] at hg
    simp at hg)⟩
theorem Lis.keepG {w : World} {Bg : Nat} {a : Option Addr} {n c : Nat} {lost : Int} (h : Lis w Bg a n c lost) {n₀ : Nat} (hn : n₀ ≤ Bg) (i : Nat) (v : Value) : KeepG n₀ w (w.setCell ⟨Bg, i, none⟩ v) :=
  ⟨h.keepU i v, fun k hk => Below.heap_setCell w ⟨Bg, i, none⟩ v k (by simp; omega)⟩
set_option maxHeartbeats 1600000 in
theorem drop_any (w : World) (Bg : Nat) (a : Option Addr) (n c : Nat) (lost : Int) (m : Nat) (hm : m ≤ n) (hn : n ≤ c) (hc : n ≤ 1000000) (h : Lis w Bg a n c lost) :
    Calls Try.prog 73 #[.pointer (some ⟨Bg, 0, none⟩), .int .i64 (m : Int)] w fun e w' => e = .returned (.tuple #[]) ∧ w' = w.setCell ⟨Bg, 0, none⟩ (.slice (if c = m then a else a.map (fun x => x.add m)) (n - m) (c - m)) := by
  obtain ⟨c0, c1⟩ := h.cells
  have f0 := h.frozen 0
  have q1 : (m : Int) ≤ (n : Int) := by omega
  have q2 : (m : Int) ≤ (c : Int) := by omega
  clear h
  go_enter Try.func73, Try.ntmps73
  go_wp2_with fail
  all_goals
    go_end0
    exact ⟨rfl, by first | rfl | simp_all⟩
set_option maxHeartbeats 1600000 in
theorem passOver_any (w : World) (Bg : Nat) (a : Option Addr) (n c : Nat) (lost : Int) (hm : 1 ≤ n) (hn : n ≤ c) (hc : n ≤ 1000000) (hl : 0 ≤ lost) (hl2 : lost < 9223372036854775807) (h : Lis w Bg a n c lost) :
    Calls Try.prog 74 #[.pointer (some ⟨Bg, 0, none⟩)] w fun e w' => e = .returned (.tuple #[]) ∧ w' = (w.setCell ⟨Bg, 0, none⟩ (.slice (if c = 1 then a else a.map (fun x => x.add 1)) (n - 1) (c - 1))).setCell ⟨Bg, 1, none⟩ (.int .i64 (lost + 1)) := by
  have HD := hide (drop_any w Bg a n c lost 1 hm hn hc h)
  have h1 := h.set0 (if c = 1 then a else a.map (fun x => x.add 1)) (n - 1) (c - 1)
  obtain ⟨d0, d1⟩ := h1.cells
  have f1 := h1.frozen 1
  clear h h1
  generalize w.setCell ⟨Bg, 0, none⟩ (.slice (if c = 1 then a else a.map (fun x => x.add 1)) (n - 1) (c - 1)) = W at *
  go_enter Try.func74, Try.ntmps74
  go_wp2_with fail
  refine (unhide HD).mono ?_
  rintro e w1 ⟨rfl, hw⟩
  rw [hw]
  clear hw w1
  go_wp2_with fail
  go_end0
  exact ⟨rfl, rfl⟩
end Go.Proofs.Ytlgmmibncoedgaa
