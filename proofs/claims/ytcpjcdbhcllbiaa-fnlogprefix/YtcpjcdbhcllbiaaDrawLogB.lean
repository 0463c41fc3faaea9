/-
  The specification's draw of the records of a log.
-/
import Derived.Test.YtcpjcdbhcllbiaaDrawRecs
import Derived.Test.YtcpjcdbhcllbiaaMany
set_option linter.unusedVariables false
namespace Go.Proofs.Ytcpjcdbhcllbiaa
open Go.RowKit Go.Maps Go.Deep

theorem bytesIn_ofL {w : World} {a : Option Addr} {bs : List UInt8} (h : ByIn w a bs) : BytesIn w a bs.length := by
  rcases h with rfl | ⟨b, off, rfl, hb, hc⟩
  · exact .inl rfl
  · exact .inr ⟨b, off, rfl, hb, fun i hi => ⟨bs[i].toNat, by have := bs[i].toNat_lt; omega, hc i hi⟩⟩
theorem Rdy.belowL {base g N B : Nat} {w0 w : World} (h : Rdy base g N w0 w) (hB : B ≤ w0.heap.size) (hb : B ≤ base) : Below B w0 w := by
  obtain ⟨p, _, hr⟩ := h.rd
  exact h.turn.below hB (by have := hr.above; simp; omega)
def RetLogB (w : World) (e : Ending) (w' : World) : Prop := ∃ a n c rs, e = .returned (.slice a n c) ∧ Hid (RcRow w.heap.size w' (.slice a n c) rs) ∧ Hid (rs.length ≤ 201) ∧ Hid (∀ r ∈ rs, Small4 r) ∧ Below w.heap.size w w'
set_option maxHeartbeats 6400000 in
theorem drawLogB_any (w : World) (a : Option Addr) (cap : Nat) (bs : List UInt8) (hl : bs.length ≤ maxLen) (hc : bs.length ≤ cap) (hb : ByIn w a bs) :
    Calls Try.prog 4 #[.slice a bs.length cap] w fun e w' => RetLogB w e w' := by
  have HO := hide (l1Open_any w a bs.length cap hl hc (bytesIn_ofL hb))
  clear hb hl hc
  go_enter Try.func4, Try.ntmps4
  go_wp2_with fail
  refine (unhide HO).mono ?_
  rintro e w1 ⟨g, rfl, hr1, ht1⟩
  have B1 := hide (show Below w.heap.size w w1 from ht1.below (Nat.le_refl _) (by simp))
  have R1 := hide (Rdy.refl hr1 (Nat.le_refl 0))
  have HGB := hide (show g < w1.heap.size from hr1.lt)
  clear hr1 ht1 HO
  go_wp2_with fail
  refine (pick_rdy w.heap.size g 0 40 w1 w1 (by omega) (by omega) (by omega) (unhide R1)).mono ?_
  rintro e w2 ⟨v, rfl, hv, R2, _⟩
  have HS2 := hide (Nat.le_trans (unhide B1).size (unhide R2).size)
  have HG := hide (Nat.lt_of_lt_of_le (unhide R2).lt (unhide R2).size)
  clear R1
  by_cases h0 : v = 0
  · subst h0
    go_wp2_with fail
    refine (l32Many_any 200 w2 (by omega)).mono ?_
    rintro e w3 ⟨a3, c3, rs, rfl, RR, hlen, HA, b3⟩
    have HLN := hide (show rs.length ≤ 201 by omega)
    have BB := hide (((unhide B1).trans ((unhide R2).belowL (unhide B1).size (Nat.le_refl _))).trans (b3.mono (unhide HS2)))
    have RM := hide ((unhide RR).mono (unhide HS2))
    clear hlen b3 RR
    go_wp2_with fail
    go_ret
    exact ⟨_, _, _, rs, rfl, RM, HLN, HA, unhide BB⟩
  by_cases h1 : v = 1
  · subst h1
    go_wp2_with fail
    refine (l32Many_any 201 w2 (by omega)).mono ?_
    rintro e w3 ⟨a3, c3, rs, rfl, RR, hlen, HA, b3⟩
    have HLN := hide (show rs.length ≤ 201 by omega)
    have BB := hide (((unhide B1).trans ((unhide R2).belowL (unhide B1).size (Nat.le_refl _))).trans (b3.mono (unhide HS2)))
    have RM := hide ((unhide RR).mono (unhide HS2))
    clear hlen b3 RR
    go_wp2_with fail
    go_ret
    exact ⟨_, _, _, rs, rfl, RM, HLN, HA, unhide BB⟩
  by_cases h2 : v = 2
  · subst h2
    go_wp2_with fail
    go_loopw [4, 5] (fun o i wr => ∃ (k : Nat) (a : Option Addr) (c : Nat) (rs : List RecV), k ≤ 41 ∧ i = .int .i64 k ∧ o = .slice a k c ∧ Hid (RcRow w1.heap.size wr (.slice a k c) rs) ∧ Hid (rs.length = k) ∧ Hid (∀ r ∈ rs, Small4 r) ∧ Hid (Rdy w.heap.size g (2 + 4 * k) w1 wr) ∧ Hid (w1.heap.size ≤ wr.heap.size)) (fun _ i _ => 41 - (intOf i).toNat)
    case atStart => exact ⟨0, none, 0, [], Nat.zero_le _, rfl, rfl, hide (RcRow.nil _ _), hide rfl, hide (by simp), hide ((unhide R2).more (by omega)), hide (unhide R2).size⟩
    case round =>
      obtain ⟨k, a, c, rs, hk, rfl, rfl, HB, HL, HA, HD, HS⟩ := hrel
      go_wp2_with fail
      refine (pick_rdy w.heap.size g (2 + 4 * k) 3 w1 wr (by omega) (by omega) (by omega) (unhide HD)).mono ?_
      rintro e wa ⟨va, rfl, hva, DA, TA⟩
      have RA := hide ((unhide HB).turnG (unhide TA) (unhide HGB))
      have SA := hide (Nat.le_trans (unhide HS) (unhide TA).size)
      clear HB HD TA
      by_cases hlt : k < 39 + va
      · have hlt' : (k : Int) < 39 + (va : Int) := by omega
        go_wp2_with fail
        refine (pick_rdy w.heap.size g (2 + 4 * k + 1) 3 w1 wa (by omega) (by omega) (by omega) (unhide DA)).mono ?_
        rintro e wb ⟨vb, rfl, hvb, DB, TB⟩
        have RB := hide ((unhide RA).turnG (unhide TB) (unhide HGB))
        have SB := hide (Nat.le_trans (unhide SA) (unhide TB).size)
        clear RA SA DA TB
        go_wp2_with fail
        rw [show (194 : Int) + (vb : Int) = ((194 + vb : Nat) : Int) by omega]
        refine (many_any ⟨#[121]⟩ (194 + vb) 1000 wb (by omega) (by show 1 * (194 + vb) ≤ 1000; omega) (by decide) (by omega) (by omega)).mono ?_
        rintro e wc ⟨⟨tx, rfl, htx⟩, hwc⟩
        rw [hwc]
        clear hwc
        have HTX := hide htx
        clear htx
        have R1 := hide ((unhide RB).up ((Below.refl _ _).alloc (Nat.le_refl _) (.cells #[.int .i64 1, .string ⟨#[120]⟩, .int .i64 0, .string tx] 32)))
        have D1 := hide ((unhide DB).alloc (.cells #[.int .i64 1, .string ⟨#[120]⟩, .int .i64 0, .string tx] 32))
        have S1 := hide (Nat.le_trans (unhide SB) (show wb.heap.size ≤ (wb.alloc (.cells #[.int .i64 1, .string ⟨#[120]⟩, .int .i64 0, .string tx] 32)).heap.size by simp))
        have HC := hide (boxF_new4 wb (.int .i64 1) (.string ⟨#[120]⟩) (.int .i64 0) (.string tx) 32).four.1
        clear RB DB SB
        go_wp2_with (first
          | (at_builtin; refine wpList_recAppend rfl _ _ rfl w1.heap.size (.slice a k c) rs ⟨1, ⟨#[120]⟩, 0, tx⟩ wb.heap.size rfl rfl (unhide R1) (unhide HC).1 (unhide HC).2.1 (unhide HC).2.2.1 (unhide HC).2.2.2 (by have := unhide HL; omega) (unhide S1) ?_; intro g2 n2 c2 w2' r2 gr2 _; have R5 := hide r2; have D5 := hide ((unhide D1).grown gr2 (fun y hy => (unhide R1).ge y hy)); have S5 := hide (Nat.le_trans (unhide S1) gr2.size); clear r2 gr2 R1 D1 S1)
          | fail)
        obtain ⟨_, _, e2⟩ := (unhide R5).slice
        obtain rfl : n2 = k + 1 := by simp only [Value.slice.injEq] at e2; have := unhide HL; have := e2.2.1; simp at this; omega
        clear e2
        go_roundw
        case rel =>
          refine ⟨k + 1, some ⟨g2, 0, none⟩, c2, _, by omega, by go_num, rfl, R5, hide (by have := unhide HL; simp; omega), hide ?_, hide ((unhide D5).more (by omega)), S5⟩
          intro r hr
          rcases List.mem_append.1 hr with hr | hr
          · exact unhide HA r hr
          · simp at hr
            subst hr
            have := unhide HTX
            exact ⟨by simp only; decide, by simp only; omega, ⟨by simp only; decide, by simp only; decide⟩, ⟨by simp only; decide, by simp only; decide⟩⟩
        case measure => simp [intOf]; omega
      · have hlt' : ¬ (k : Int) < 39 + (va : Int) := by omega
        have BB := hide ((unhide B1).trans ((unhide DA).belowL (unhide B1).size (Nat.le_refl _)))
        have HLN := hide (show rs.length ≤ 201 by have := unhide HL; omega)
        go_wp2_with fail
        go_ret
        exact ⟨_, _, _, rs, rfl, hide ((unhide RA).mono (unhide B1).size), HLN, HA, unhide BB⟩
  have e0 : ((v : Int) == 0) = false := by simp; omega
  have e1 : ((v : Int) == 1) = false := by simp; omega
  have e2 : ((v : Int) == 2) = false := by simp; omega
  clear h0 h1 h2
  go_wp2_with fail
  refine (pick_rdy w.heap.size g 1 8 w1 w2 (by omega) (by omega) (by omega) (unhide R2)).mono ?_
  rintro e w3 ⟨v3, rfl, hv3, R3, _⟩
  have HS3 := hide (Nat.le_trans (unhide B1).size (unhide R3).size)
  clear e0 e1 e2
  go_wp2_with fail
  refine (l32Recs_any w.heap.size g 2 v3 w1 w3 (by omega) (by omega) (unhide R3)).mono ?_
  rintro e w4 ⟨a4, n4, c4, rs, rfl, RR, hlen, HA, R4, HS4⟩
  have HLN := hide (show rs.length ≤ 201 by omega)
  have BB := hide ((unhide B1).trans ((unhide R4).belowL (unhide B1).size (Nat.le_refl _)))
  have RM := hide ((unhide RR).mono (unhide HS3))
  clear hlen RR
  go_wp2_with fail
  go_ret
  exact ⟨_, _, _, rs, rfl, RM, HLN, HA, unhide BB⟩
end Go.Proofs.Ytcpjcdbhcllbiaa
