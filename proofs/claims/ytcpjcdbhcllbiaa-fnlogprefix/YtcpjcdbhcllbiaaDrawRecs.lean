/-
  The specification's draws of rows of records.
-/
import Derived.Test.YtcpjcdbhcllbiaaDrawRaw
import Derived.Test.YtcpjcdbhcllbiaaDrawRec
import Derived.Test.YtcpjcdbhcllbiaaRecRowsOwn
set_option linter.unusedVariables false
namespace Go.Proofs.Ytcpjcdbhcllbiaa
open Go.RowKit Go.Maps Go.Deep

def RetRecs (base g N M : Nat) (w0 w : World) (e : Ending) (w' : World) : Prop := ∃ a n c rs, e = .returned (.slice a n c) ∧ Hid (RcRow w.heap.size w' (.slice a n c) rs) ∧ rs.length ≤ M ∧ Hid (∀ r ∈ rs, r.name.size ≤ 1000000 ∧ r.text.size ≤ 1000000 ∧ IntFit r.kind ∧ IntFit r.num) ∧ Hid (Rdy base g N w0 w') ∧ Hid (w.heap.size ≤ w'.heap.size)
theorem l32Rec_rdy (base g N : Nat) (w0 w : World) (hN : N ≤ 100000000) (h : Rdy base g N w0 w) :
    Calls Try.prog 19 #[.pointer (some ⟨g, 0, none⟩)] w fun e w' => ∃ r : RecV, e = .returned (recVal r) ∧ Hid (r.name.size ≤ 1000000 ∧ r.text.size ≤ 1000000 ∧ IntFit r.kind ∧ IntFit r.num) ∧ Hid (Rdy base g (N + 10) w0 w') ∧ Hid (Turn [g] w w') := by
  obtain ⟨p, hp, hr⟩ := h.rd
  refine (l32Rec_any w base g p (by omega) hr).mono ?_
  rintro e w' ⟨r, rfl, h1, ⟨q, h2, h3⟩, h4⟩
  exact ⟨r, rfl, hide h1, hide ⟨h.lt, ⟨q, by omega, h3⟩, h.turn.trans h4⟩, hide h4⟩
theorem fit_of' {r : RecV} (h : r.name.size ≤ 1000000 ∧ r.text.size ≤ 1000000 ∧ IntFit r.kind ∧ IntFit r.num) : RecFit r := ⟨by unfold maxLen; omega, by unfold maxLen; omega, h.2.2.1, h.2.2.2⟩
def Small4 (r : RecV) : Prop := r.name.size ≤ 1000000 ∧ r.text.size ≤ 1000000 ∧ IntFit r.kind ∧ IntFit r.num
def RetMany (n : Nat) (w : World) (e : Ending) (w' : World) : Prop := ∃ a c rs, e = .returned (.slice a n c) ∧ Hid (RcRow w.heap.size w' (.slice a n c) rs) ∧ rs.length = n ∧ Hid (∀ r ∈ rs, Small4 r) ∧ Below w.heap.size w w'
set_option maxHeartbeats 3200000 in
theorem l32Many_any (n : Nat) (w : World) (hn : n ≤ 1000) :
    Calls Try.prog 13 #[.int .i64 (n : Int)] w fun e w' => RetMany n w e w' := by
  go_enter Try.func13, Try.ntmps13
  go_wp2_with fail
  go_loopw [3, 4] (fun o i wr => ∃ (k : Nat) (a : Option Addr) (c : Nat) (rs : List RecV), k ≤ n ∧ i = .int .i64 k ∧ o = .slice a k c ∧ Hid (RcRow w.heap.size wr (.slice a k c) rs) ∧ Hid (rs.length = k) ∧ Hid (∀ r ∈ rs, Small4 r) ∧ Hid (Below w.heap.size w wr)) (fun _ i _ => n - (intOf i).toNat)
  case atStart => exact ⟨0, none, 0, [], Nat.zero_le _, rfl, rfl, hide (RcRow.nil _ _), hide rfl, hide (by simp), hide (Below.refl _ _)⟩
  case round =>
    obtain ⟨k, a, c, rs, hk, rfl, rfl, HB, HL, HA, HS⟩ := hrel
    by_cases hlt : k < n
    · have R1 := hide ((unhide HB).up ((Below.refl _ _).alloc (Nat.le_refl _) (.cells #[.int .i64 3, .string ⟨#[120]⟩, .int .i64 (k : Int), .string ⟨#[]⟩] 32)))
      have B1 := hide ((unhide HS).alloc (unhide HS).size (.cells #[.int .i64 3, .string ⟨#[120]⟩, .int .i64 (k : Int), .string ⟨#[]⟩] 32))
      obtain ⟨⟨c0, c1, c2, c3⟩, _⟩ := (boxF_new4 wr (.int .i64 3) (.string ⟨#[120]⟩) (.int .i64 (k : Int)) (.string ⟨#[]⟩) 32).four
      have HC := hide (show _ ∧ _ ∧ _ ∧ _ from ⟨c0, c1, c2, c3⟩)
      clear c0 c1 c2 c3
      go_wp2_with (first
        | (at_builtin; refine wpList_recAppend rfl _ _ rfl w.heap.size (.slice a k c) rs ⟨3, ⟨#[120]⟩, (k : Int), ⟨#[]⟩⟩ wr.heap.size rfl rfl (unhide R1) (unhide HC).1 (unhide HC).2.1 (unhide HC).2.2.1 (unhide HC).2.2.2 (by have := unhide HL; omega) (unhide B1).size ?_; intro g2 n2 c2 w2 r2 gr2 _; have R2 := hide r2; have B2 := hide ((unhide B1).grown gr2 (unhide B1).size (fun y hy => (unhide R1).ge y hy)); clear r2 gr2 R1)
        | fail)
      obtain ⟨_, _, e2⟩ := (unhide R2).slice
      obtain rfl : n2 = k + 1 := by simp only [Value.slice.injEq] at e2; have := unhide HL; have := e2.2.1; simp at this; omega
      clear e2
      go_roundw
      case rel =>
        refine ⟨k + 1, some ⟨g2, 0, none⟩, c2, _, by omega, by go_num, rfl, R2, hide (by have := unhide HL; simp; omega), hide ?_, B2⟩
        intro r hr
        rcases List.mem_append.1 hr with hr | hr
        · exact unhide HA r hr
        · simp at hr
          subst hr
          exact ⟨by simp only; decide, by simp only; decide, ⟨by simp only; decide, by simp only; decide⟩, ⟨by simp only; omega, by simp only; omega⟩⟩
      case measure => simp [intOf]; omega
    · obtain rfl : k = n := by omega
      go_wp2_with fail
      go_ret
      exact ⟨a, c, rs, rfl, HB, unhide HL, HA, unhide HS⟩
set_option maxHeartbeats 6400000 in
theorem l32Recs_any (base g N n : Nat) (w0 w : World) (hn : n ≤ 20) (hN : N ≤ 10000000) (h : Rdy base g N w0 w) :
    Calls Try.prog 15 #[.pointer (some ⟨g, 0, none⟩), .int .i64 (n : Int)] w fun e w' => RetRecs base g (N + 11 * n) n w0 w e w' := by
  have HZ := hide (Nat.lt_of_lt_of_le h.lt h.turn.size)
  have HR := hide h
  clear h
  go_enter Try.func15, Try.ntmps15
  go_wp2_with fail
  go_loopw [5, 6, 7] (fun o i q wr => ∃ (k : Nat) (a : Option Addr) (m c : Nat) (rs : List RecV), k ≤ n ∧ i = .int .i64 k ∧ o = .slice a m c ∧ Hid (RcRow w.heap.size wr (.slice a m c) rs) ∧ Hid (rs.length ≤ k) ∧ Hid (∀ r ∈ rs, Small4 r) ∧ Hid (Rdy base g (N + 11 * k) w0 wr) ∧ Hid (w.heap.size ≤ wr.heap.size)) (fun _ i _ _ => n - (intOf i).toNat)
  case atStart => exact ⟨0, none, 0, 0, [], Nat.zero_le _, rfl, rfl, hide (RcRow.nil _ _), hide (by simp), hide (by simp), HR, hide (Nat.le_refl _)⟩
  case round =>
    obtain ⟨k, a, m, c, rs, hk, rfl, rfl, HB, HL, HA, HD, HS⟩ := hrel
    by_cases hlt : k < n
    · go_wp2_with fail
      refine (l32Rec_rdy base g (N + 11 * k) w0 wr (by omega) (unhide HD)).mono ?_
      rintro e w1 ⟨r, rfl, h4, D1, T1⟩
      have R1 := hide ((unhide HB).turnG (unhide T1) (unhide HZ))
      have S1 := hide (Nat.le_trans (unhide HS) (unhide T1).size)
      have HZW := hide (Nat.le_trans (unhide HS) (unhide T1).size)
      clear HB HS T1 HD
      have R2 := hide ((unhide R1).up ((Below.refl _ _).alloc (Nat.le_refl _) (.cells #[.int .i64 r.kind, .string r.name, .int .i64 r.num, .string r.text] 32)))
      have D2 := hide ((unhide D1).alloc (.cells #[.int .i64 r.kind, .string r.name, .int .i64 r.num, .string r.text] 32))
      have X2 := hide (boxF_new4 w1 (.int .i64 r.kind) (.string r.name) (.int .i64 r.num) (.string r.text) 32)
      have S2 := hide (Nat.le_trans (unhide S1) (show w1.heap.size ≤ (w1.alloc (.cells #[.int .i64 r.kind, .string r.name, .int .i64 r.num, .string r.text] 32)).heap.size by simp))
      have HRK := hide (fun W => specRecOk_any r W (fit_of' (unhide h4)))
      unfold recVal at HRK ⊢
      clear R1 D1 S1
      obtain ⟨⟨c0, c1, c2, c3⟩, _⟩ := (unhide X2).four
      go_wp2_with fail
      generalize w1.alloc (.cells #[.int .i64 r.kind, .string r.name, .int .i64 r.num, .string r.text] 32) = W2 at *
      refine (unhide HRK _).mono ?_
      rintro e w3 ⟨rfl, b3⟩
      have R3 := hide ((unhide R2).up b3)
      have D3 := hide ((unhide D2).up b3)
      have X3 := hide ((unhide X2).up b3)
      have S3 := hide (Nat.le_trans (unhide S2) b3.size)
      clear c0 c1 c2 c3 b3 R2 D2 X2 S2 HRK
      cases hok : recOkB r
      · go_wp2_with fail
        refine (pick_rdy base g (N + 11 * k + 10) 30 w0 w3 (by omega) (by omega) (by omega) (unhide D3)).mono ?_
        rintro e w4 ⟨v, rfl, hv, D4, T4⟩
        have R4 := hide ((unhide R3).turnG (unhide T4) (unhide HZ))
        have X4 := hide ((unhide X3).turn (unhide T4) (by have := unhide HZW; have := unhide HZ; simp; omega))
        have S4 := hide (Nat.le_trans (unhide S3) (unhide T4).size)
        clear R3 X3 S3 D3 T4
        by_cases hv0 : v = 0
        · subst hv0
          obtain ⟨⟨c0, c1, c2, c3⟩, _⟩ := (unhide X4).four
          have RA := hide ((unhide R4).up ((Below.refl _ _).alloc (Nat.le_refl _) (.cells #[.int .i64 r.kind, .string r.name, .int .i64 r.num, .string r.text] 32)))
          have DA := hide ((unhide D4).alloc (.cells #[.int .i64 r.kind, .string r.name, .int .i64 r.num, .string r.text] 32))
          have SA := hide (Nat.le_trans (unhide S4) (show w4.heap.size ≤ (w4.alloc (.cells #[.int .i64 r.kind, .string r.name, .int .i64 r.num, .string r.text] 32)).heap.size by simp))
          have XA := hide (boxF_new4 w4 (.int .i64 r.kind) (.string r.name) (.int .i64 r.num) (.string r.text) 32).four
          clear R4 D4 S4
          go_wp2_with (first
            | (at_builtin; refine wpList_recAppend rfl _ _ rfl w.heap.size (.slice a m c) rs r w4.heap.size rfl rfl (unhide RA) (unhide XA).1.1 (unhide XA).1.2.1 (unhide XA).1.2.2.1 (unhide XA).1.2.2.2 (by have := unhide HL; omega) (unhide SA) ?_; intro g2 n2 c2 w5 r2 gr2 _; have R5 := hide r2; have D5 := hide ((unhide DA).grown gr2 (fun y hy => Nat.le_trans (unhide HR).size ((unhide RA).ge y hy))); have S5 := hide (Nat.le_trans (unhide SA) gr2.size); clear r2 gr2 RA DA SA)
            | fail)
          go_roundw
          case rel =>
            refine ⟨k + 1, _, _, _, rs ++ [r], by omega, by go_num, rfl, R5, hide (by have := unhide HL; simp; omega), hide ?_, hide ((unhide D5).more (by omega)), S5⟩
            intro x hx
            rcases List.mem_append.1 hx with hx | hx
            · exact unhide HA x hx
            · simp at hx
              subst hx
              exact unhide h4
          case measure => simp [intOf]; omega
        · have hvb : ((v : Int) == 0) = false := by simp; omega
          go_wp2_with fail
          go_roundw
          case rel => exact ⟨k + 1, a, m, c, rs, by omega, by go_num, rfl, R4, hide (by have := unhide HL; omega), HA, hide ((unhide D4).more (by omega)), S4⟩
          case measure => simp [intOf]; omega
      · skip
        obtain ⟨⟨c0, c1, c2, c3⟩, _⟩ := (unhide X3).four
        have RA := hide ((unhide R3).up ((Below.refl _ _).alloc (Nat.le_refl _) (.cells #[.int .i64 r.kind, .string r.name, .int .i64 r.num, .string r.text] 32)))
        have DA := hide ((unhide D3).alloc (.cells #[.int .i64 r.kind, .string r.name, .int .i64 r.num, .string r.text] 32))
        have SA := hide (Nat.le_trans (unhide S3) (show w3.heap.size ≤ (w3.alloc (.cells #[.int .i64 r.kind, .string r.name, .int .i64 r.num, .string r.text] 32)).heap.size by simp))
        have XA := hide (boxF_new4 w3 (.int .i64 r.kind) (.string r.name) (.int .i64 r.num) (.string r.text) 32).four
        clear R3 D3 S3
        go_wp2_with (first
          | (at_builtin; refine wpList_recAppend rfl _ _ rfl w.heap.size (.slice a m c) rs r w3.heap.size rfl rfl (unhide RA) (unhide XA).1.1 (unhide XA).1.2.1 (unhide XA).1.2.2.1 (unhide XA).1.2.2.2 (by have := unhide HL; omega) (unhide SA) ?_; intro g2 n2 c2 w5 r2 gr2 _; have R5 := hide r2; have D5 := hide ((unhide DA).grown gr2 (fun y hy => Nat.le_trans (unhide HR).size ((unhide RA).ge y hy))); have S5 := hide (Nat.le_trans (unhide SA) gr2.size); clear r2 gr2 RA DA SA)
          | fail)
        go_roundw
        case rel =>
          refine ⟨k + 1, _, _, _, rs ++ [r], by omega, by go_num, rfl, R5, hide (by have := unhide HL; simp; omega), hide ?_, hide ((unhide D5).more (by omega)), S5⟩
          intro x hx
          rcases List.mem_append.1 hx with hx | hx
          · exact unhide HA x hx
          · simp at hx
            subst hx
            exact unhide h4
        case measure => simp [intOf]; omega
    · obtain rfl : k = n := by omega
      go_wp2_with fail
      go_ret
      exact ⟨a, m, c, rs, rfl, HB, unhide HL, hide (fun r hr => unhide HA r hr), HD, HS⟩
end Go.Proofs.Ytcpjcdbhcllbiaa
