/-
  The specification's draw of a stream. (Made by wip/mkstream.py.)
-/
import Derived.Test.YtlgmmibncoedgaaMerged35
import Derived.Test.YtlgmmibncoedgaaFrameBytesS
set_option linter.unusedVariables false
namespace Go.Proofs.Ytlgmmibncoedgaa
open Go.RowKit Go.Maps Go.Deep

theorem by_len33 {B : Nat} {w : World} {a : Option Addr} {n c : Nat} {bs : List UInt8} (h : ByRow B w (.slice a n c) bs) : n = bs.length := by
  obtain ⟨_, _, e, _⟩ := h.rd
  simp only [Value.slice.injEq] at e
  exact e.2.1
theorem frameL_265 (body : List UInt8) : (frameL body).length ≤ 265 := by
  unfold frameL
  split
  · rename_i h
    simp only [frameFitB, Bool.and_eq_true, decide_eq_true_eq] at h
    simp only [List.length_append, beL_length, hd_len]
    omega
  · simp
set_option maxRecDepth 20000 in
set_option maxHeartbeats 25600000 in
theorem l33Stream_any (base g N : Nat) (w0 w : World) (hN : N ≤ 40000) (h : Rdy base g N w0 w) :
    Calls Try.prog 48 #[.pointer (some ⟨g, 0, none⟩)] w fun e w' => RetB33 base g (N + 6000) 1500 w0 w e w' := by
  have HS0 := hide h.size
  have HGL := hide (Nat.lt_of_lt_of_le h.lt h.size)
  have H0 := hide h
  clear h
  go_enter Try.func48, Try.ntmps48
  go_wp2_with fail
  refine (pick_rdy base g N 5 w0 w (by omega) (by omega) (by omega) (unhide H0)).mono ?_
  rintro e w1 ⟨p, rfl, hp, D1, T1⟩
  have Z1 := hide (unhide T1).size
  have DD1 := hide ((unhide D1).more (show N + 1 ≤ N + 1 + 0 * 1100 by omega))
  clear T1 H0 D1
  go_wp2_with fail
  go_loopw [3, 5] (fun o i wr => ∃ (k : Nat) (oa : Option Addr) (on oc : Nat) (xs : List UInt8), o = .slice oa on oc ∧ i = .int .i64 (k : Int) ∧ k ≤ p + 1 ∧ Hid (ByRow w.heap.size wr (.slice oa on oc) xs) ∧ Hid (xs.length ≤ k * 280) ∧ Hid (Rdy base g (N + 1 + k * 1100) w0 wr) ∧ Hid (w.heap.size ≤ wr.heap.size)) (fun _ i _ => p + 1 - (intOf i).toNat)
  case atStart => exact ⟨0, none, 0, 0, [], rfl, rfl, by omega, hide (ByRow.nil _ _), hide (by simp), DD1, Z1⟩
  case round =>
    obtain ⟨k, oa, on, oc, xs, rfl, rfl, hk, RO, LO, DR, ZR⟩ := hrel
    clear DD1
    by_cases hlt : (k : Int) < 1 + (p : Int)
    · have hkp : k < p + 1 := by omega
      have hk5 : k ≤ 4 := by omega
      have HBO := hide (l33Body_any base g (N + 1 + k * 1100) wr wr (by omega) (unhide DR).self)
      have HON := hide (show on = xs.length from (by_len33 (unhide RO)))
      clear hk
      go_wp2_with fail
      refine (unhide HBO).mono ?_
      rintro e w2 ⟨a2, n2, c2, bd, rfl, R2, L2, D2, Z2⟩
      have RO2 := hide ((unhide RO).turn (unhide D2).turn (fun y hy => by have := (unhide RO).ge y hy; have := unhide HGL; simp; omega))
      have DW2 := hide ((unhide DR).on (unhide D2))
      have DS2 := hide (unhide D2).self
      have HFR := hide (specFrame_row bd _ w2 (by have := unhide L2; omega) (unhide R2).rd)
      have Z2W := hide (Nat.le_trans (unhide ZR) (unhide Z2))
      clear R2 HBO RO D2 DR
      go_wp2_with fail
      refine (unhide HFR).mono ?_
      rintro e w3 ⟨v3, rfl, R3, b3⟩
      have DS3 := hide ((unhide DS2).up b3)
      obtain ⟨fa, fn, fc, rfl⟩ := (unhide R3).rd.form
      have L3 := hide (frameL_265 bd)
      clear b3 DS2 HFR L2
      generalize frameFitB bd = fit at *
      generalize frameL bd = fl at *
      go_wp2_with fail
      refine (pick_rdy base g _ 3 w2 w3 (by omega) (by omega) (by omega) (unhide DS3)).mono ?_
      rintro e w4 ⟨z, rfl, hz, D4, T4⟩
      have R4 := hide ((unhide R3).turn (unhide T4) (fun y hy => by have := (unhide R3).ge y hy; have := unhide Z2W; have := unhide HGL; simp; omega))
      clear T4 DS3 R3
      by_cases hz0 : z = 0
      · subst hz0
        have HTU := hide (l33Turn_any base g _ w2.heap.size 265 w2 w4 fa fn fc fl (by omega) (unhide D4) (Nat.le_refl _) (unhide D4).size (unhide L3) (by omega) (unhide R4))
        clear D4 R4
        go_wp2_with fail
        refine (unhide HTU).mono ?_
        rintro e w5 ⟨a5, n5, c5, f5, rfl, R5, L5, E5, Z55⟩
        clear HTU
        have RO5 := hide ((unhide RO2).turn (unhide E5).turn (fun y hy => by have := (unhide RO2).ge y hy; have := unhide HGL; simp; omega))
        have D5 := hide ((unhide DW2).on (unhide E5))
        have Z5 := hide (Nat.le_trans (unhide Z2W) (unhide E5).size)
        have HLS := hide (show xs.length + f5.length ≤ 140737488355328 by have := unhide LO; have := unhide L5; omega)
        have RD5 := hide (unhide R5).rd
        clear R5
        go_wp2_with (first
          | (at_builtin; refine wpList_byAppend rfl _ _ rfl w.heap.size _ _ xs f5 rfl rfl (unhide RO5) (unhide RD5) (unhide HLS) (unhide Z5) ?_; intro a6 c6 w6 r6 g6 _; obtain ⟨n6, HN6⟩ : ∃ n6, Hid (xs.length + f5.length = n6) := ⟨_, hide rfl⟩; rw [unhide HN6] at r6; rw [unhide HN6]; have R6 := hide r6; have D6 := hide ((unhide D5).grown g6 (fun y hy => by have := (unhide RO5).ge y hy; have := unhide HS0; omega)); have Z6 := hide (Nat.le_trans (unhide Z5) g6.size); clear r6 g6)
          | fail)
        refine (pick_rdy base g _ 3 w0 w6 (by omega) (by omega) (by omega) (unhide D6)).mono ?_
        rintro e w7 ⟨y, rfl, hy, D7, T7⟩
        have R7 := hide ((unhide R6).turn (unhide T7) (fun y hy => by have := (unhide R6).ge y hy; have := unhide HGL; simp; omega))
        have Z7 := hide (Nat.le_trans (unhide Z6) (unhide T7).size)
        clear T7 R6 D6 Z6 D5
        by_cases hy0 : y = 0
        · subst hy0
          go_wp2_with fail
          refine (pick_rdy base g _ 8 w0 w7 (by omega) (by omega) (by omega) (unhide D7)).mono ?_
          rintro e w8 ⟨t, rfl, ht, D8, T8⟩
          have R8 := hide ((unhide R7).turn (unhide T8) (fun y hy => by have := (unhide R7).ge y hy; have := unhide HGL; simp; omega))
          have Z8 := hide (Nat.le_trans (unhide Z7) (unhide T8).size)
          have HRW := hide (l33Raw_any base g _ t w8 w8 (by omega) (by omega) (unhide D8).self)
          clear T8 R7 D7 Z7
          go_wp2_with fail
          refine (unhide HRW).mono ?_
          rintro e w9 ⟨a9, c9, rw_, rfl, R9, hrl, D9, Z9⟩
          have RO9 := hide ((unhide R8).turn (unhide D9).turn (fun y hy => by have := (unhide R8).ge y hy; have := unhide HGL; simp; omega))
          have DD9 := hide ((unhide D8).on (unhide D9))
          have Z99 := hide (Nat.le_trans (unhide Z8) (unhide Z9))
          have HLS9 := hide (show (xs ++ f5).length + rw_.length ≤ 140737488355328 by rw [List.length_append]; have := unhide LO; have := unhide L5; omega)
          have HL9 := hide (show ((xs ++ f5) ++ rw_).length ≤ (k + 1) * 280 by rw [List.length_append, List.length_append]; have := unhide LO; have := unhide L5; omega)
          have RD9 := hide (unhide R9).rd
          clear R9 R8 D8 D9 Z8 HRW
          go_wp2_with (first
            | (at_builtin; refine wpList_byAppend rfl _ _ rfl w.heap.size _ _ (xs ++ f5) rw_ rfl rfl (unhide RO9) (unhide RD9) (unhide HLS9) (unhide Z99) ?_; intro a10 c10 w10 r10 g10 _; obtain ⟨n10, HN10⟩ : ∃ n10, Hid ((xs ++ f5).length + rw_.length = n10) := ⟨_, hide rfl⟩; rw [unhide HN10] at r10; rw [unhide HN10]; have R10 := hide r10; have D10 := hide ((unhide DD9).grown g10 (fun y hy => by have := (unhide RO9).ge y hy; have := unhide HS0; omega)); have Z10 := hide (Nat.le_trans (unhide Z99) g10.size); clear r10 g10)
            | fail)
          go_roundw
          case rel => exact ⟨k + 1, _, _, _, _, rfl, by go_num, by omega, R10, HL9, hide ((unhide D10).more (by omega)), Z10⟩
          case measure => simp [intOf]; omega
        · have HL9 := hide (show (xs ++ f5).length ≤ (k + 1) * 280 by rw [List.length_append]; have := unhide LO; have := unhide L5; omega)
          have hy0' : ((y : Int) == 0) = false := by rw [beq_eq_false_iff_ne]; omega
          go_wp2_with fail
          go_roundw
          case rel => exact ⟨k + 1, _, _, _, _, rfl, by go_num, by omega, R7, HL9, hide ((unhide D7).more (by omega)), Z7⟩
          case measure => simp [intOf]; omega
      · have hz0' : ((z : Int) == 0) = false := by rw [beq_eq_false_iff_ne]; omega
        have RO5 := hide ((unhide RO2).turn (unhide D4).turn (fun y hy => by have := (unhide RO2).ge y hy; have := unhide HGL; simp; omega))
        have D5 := hide ((unhide DW2).on (unhide D4))
        have Z5 := hide (Nat.le_trans (unhide Z2W) (unhide D4).size)
        have HLS := hide (show xs.length + fl.length ≤ 140737488355328 by have := unhide LO; have := unhide L3; omega)
        have RD5 := hide (unhide R4).rd
        clear R4
        go_wp2_with (first
          | (at_builtin; refine wpList_byAppend rfl _ _ rfl w.heap.size _ _ xs fl rfl rfl (unhide RO5) (unhide RD5) (unhide HLS) (unhide Z5) ?_; intro a6 c6 w6 r6 g6 _; obtain ⟨n6, HN6⟩ : ∃ n6, Hid (xs.length + fl.length = n6) := ⟨_, hide rfl⟩; rw [unhide HN6] at r6; rw [unhide HN6]; have R6 := hide r6; have D6 := hide ((unhide D5).grown g6 (fun y hy => by have := (unhide RO5).ge y hy; have := unhide HS0; omega)); have Z6 := hide (Nat.le_trans (unhide Z5) g6.size); clear r6 g6)
          | fail)
        refine (pick_rdy base g _ 3 w0 w6 (by omega) (by omega) (by omega) (unhide D6)).mono ?_
        rintro e w7 ⟨y, rfl, hy, D7, T7⟩
        have R7 := hide ((unhide R6).turn (unhide T7) (fun y hy => by have := (unhide R6).ge y hy; have := unhide HGL; simp; omega))
        have Z7 := hide (Nat.le_trans (unhide Z6) (unhide T7).size)
        clear T7 R6 D6 Z6 D5
        by_cases hy0 : y = 0
        · subst hy0
          go_wp2_with fail
          refine (pick_rdy base g _ 8 w0 w7 (by omega) (by omega) (by omega) (unhide D7)).mono ?_
          rintro e w8 ⟨t, rfl, ht, D8, T8⟩
          have R8 := hide ((unhide R7).turn (unhide T8) (fun y hy => by have := (unhide R7).ge y hy; have := unhide HGL; simp; omega))
          have Z8 := hide (Nat.le_trans (unhide Z7) (unhide T8).size)
          have HRW := hide (l33Raw_any base g _ t w8 w8 (by omega) (by omega) (unhide D8).self)
          clear T8 R7 D7 Z7
          go_wp2_with fail
          refine (unhide HRW).mono ?_
          rintro e w9 ⟨a9, c9, rw_, rfl, R9, hrl, D9, Z9⟩
          have RO9 := hide ((unhide R8).turn (unhide D9).turn (fun y hy => by have := (unhide R8).ge y hy; have := unhide HGL; simp; omega))
          have DD9 := hide ((unhide D8).on (unhide D9))
          have Z99 := hide (Nat.le_trans (unhide Z8) (unhide Z9))
          have HLS9 := hide (show (xs ++ fl).length + rw_.length ≤ 140737488355328 by rw [List.length_append]; have := unhide LO; have := unhide L3; omega)
          have HL9 := hide (show ((xs ++ fl) ++ rw_).length ≤ (k + 1) * 280 by rw [List.length_append, List.length_append]; have := unhide LO; have := unhide L3; omega)
          have RD9 := hide (unhide R9).rd
          clear R9 R8 D8 D9 Z8 HRW
          go_wp2_with (first
            | (at_builtin; refine wpList_byAppend rfl _ _ rfl w.heap.size _ _ (xs ++ fl) rw_ rfl rfl (unhide RO9) (unhide RD9) (unhide HLS9) (unhide Z99) ?_; intro a10 c10 w10 r10 g10 _; obtain ⟨n10, HN10⟩ : ∃ n10, Hid ((xs ++ fl).length + rw_.length = n10) := ⟨_, hide rfl⟩; rw [unhide HN10] at r10; rw [unhide HN10]; have R10 := hide r10; have D10 := hide ((unhide DD9).grown g10 (fun y hy => by have := (unhide RO9).ge y hy; have := unhide HS0; omega)); have Z10 := hide (Nat.le_trans (unhide Z99) g10.size); clear r10 g10)
            | fail)
          go_roundw
          case rel => exact ⟨k + 1, _, _, _, _, rfl, by go_num, by omega, R10, HL9, hide ((unhide D10).more (by omega)), Z10⟩
          case measure => simp [intOf]; omega
        · have HL9 := hide (show (xs ++ fl).length ≤ (k + 1) * 280 by rw [List.length_append]; have := unhide LO; have := unhide L3; omega)
          have hy0' : ((y : Int) == 0) = false := by rw [beq_eq_false_iff_ne]; omega
          go_wp2_with fail
          go_roundw
          case rel => exact ⟨k + 1, _, _, _, _, rfl, by go_num, by omega, R7, HL9, hide ((unhide D7).more (by omega)), Z7⟩
          case measure => simp [intOf]; omega
    · go_wp2_with fail
      go_ret
      exact ⟨_, _, _, xs, rfl, RO, hide (by have := unhide LO; omega), hide ((unhide DR).more (by omega)), ZR⟩
end Go.Proofs.Ytlgmmibncoedgaa
