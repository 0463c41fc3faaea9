/-
  The specification's draw of inputs and feeds.
-/
import Derived.Test.YtlbhandkpnjgmaaDrawFeeds
import Derived.Test.YtlbhandkpnjgmaaMerged49
import Derived.Test.YtlbhandkpnjgmaaMerged50
set_option linter.unusedVariables false
namespace Go.Proofs.Ytlbhandkpnjgmaa
open Go.RowKit Go.Maps Go.Deep

theorem FeedFit.mono {m m' : Nat} {ns : List FeedV} (h : FeedFit m ns) (hm : m ≤ m') : FeedFit m' ns := ⟨by have := h.1; omega, h.2⟩
def InsFit (ts : List ByteArray) : Prop := ts.length ≤ 5 ∧ ∀ t ∈ ts, t.size ≤ 10
theorem insFit_n {k : Nat} (hk : k ≤ 4) : InsFit (insN k) := ⟨by rw [insN_len]; omega, fun t ht => by
  simp [insN] at ht
  obtain ⟨a, _, rfl⟩ := ht
  show ByteArray.size ⟨#[UInt8.ofNat (97 + a)]⟩ ≤ 10
  decide +revert⟩
theorem insFit_more {k : Nat} (hk : k ≤ 4) (y : ByteArray) (hy : y.size ≤ 10) : InsFit (insN k ++ [y]) := ⟨by simp [insN_len]; omega, fun t ht => by
  rcases List.mem_append.1 ht with h | h
  · exact (insFit_n hk).2 t h
  · simp at h; rw [h]; exact hy⟩
def FeedsAt (B : Nat) (w : World) (v : Value) (ns : List FeedV) : Prop := ∃ xs, FdRow B w v xs ∧ FdsQ (OffW B v) w xs ns
theorem FeedsAt.turn {B : Nat} {S : List Nat} {w w' : World} {v : Value} {ns : List FeedV} (h : FeedsAt B w v ns) (t : Turn S w w') (hS : ∀ k ∈ S, k < B) : FeedsAt B w' v ns := by
  obtain ⟨xs, h1, h2⟩ := h
  exact ⟨xs, h1.turn t (fun k hk e => by have := h1.ge k e; have := hS k hk; omega), h2.turn t (fun k hk hp => by have := hp.1; have := hS k hk; omega)⟩
theorem FeedsAt.rd {B : Nat} {w : World} {v : Value} {ns : List FeedV} (h : FeedsAt B w v ns) : FeedSRd w v ns := by
  obtain ⟨xs, h1, h2⟩ := h
  exact h1.rdQ h2
def RetPlay34 (w : World) (e : Ending) (w' : World) : Prop := ∃ iv is a m c ns, e = .returned (.tuple #[iv, .slice a m c]) ∧ Hid (StringSRd w' iv is) ∧ Hid (InsFit is) ∧ Hid (FeedSRd w' (.slice a m c) ns) ∧ Hid (FeedFit 61 ns) ∧ Below w.heap.size w w'
set_option maxRecDepth 20000 in
set_option maxHeartbeats 6400000 in
theorem drawPlay_any (w : World) (a : Option Addr) (cap : Nat) (bs : List UInt8) (hl : bs.length ≤ maxLen) (hc : bs.length ≤ cap) (hb : ByIn w a bs) :
    Calls Try.prog 4 #[.slice a bs.length cap] w fun e w' => RetPlay34 w e w' := by
  have HO := hide (l1Open_any w a bs.length cap hl hc (bytesIn34 hb))
  clear hb hl hc
  go_enter Try.func4, Try.ntmps4
  go_wp2_with fail
  refine (unhide HO).mono ?_
  rintro e w1 ⟨g, rfl, hr1, ht1⟩
  have B1 := hide (show Below w.heap.size w w1 from ht1.below (Nat.le_refl _) (by simp))
  have HGE := hide hr1.above
  have R1 := hide (Rdy.refl hr1 (Nat.le_refl 0))
  have hg1 : g < w1.heap.size := (unhide R1).lt
  have HWH := hide (l34Which_any w.heap.size g _ w1 (by omega) (unhide R1))
  clear hr1 ht1 HO
  go_wp2_with fail
  refine (unhide HWH).mono ?_
  rintro e w2 ⟨wa, wn, wc, ts, rfl, HWN, HWO, HIV, D2⟩
  obtain ⟨hwn, hw1⟩ := unhide HWN
  have hwn4 : wn ≤ 4 := by have := (unhide HWO).1; omega
  obtain ⟨gw, rfl, -, hgw, hgwl, hcell⟩ := (unhide HIV).cells (by omega)
  have HCW := hide (fun i (hi : i < ts.length) => (hcell i hi).1)
  have HIN := hide (l34Ins_any w2 wn (by omega))
  have HWN' := hide hwn
  clear hcell HIV HWH HWN hwn
  have hg2 : g < w2.heap.size := Nat.lt_of_lt_of_le hg1 (unhide D2).size
  have B2 := hide ((unhide B1).trans ((unhide D2).turn.below (unhide B1).size (by have := unhide HGE; simp; omega)))
  go_wp2_with fail
  refine (unhide HIN).mono ?_
  rintro e w3 ⟨ia, ic, rfl, TX3, b3⟩
  have hg3 : g < w3.heap.size := Nat.lt_of_lt_of_le hg2 b3.size
  have HCW3 := hide (fun i (hi : i < ts.length) => (b3.cell (by exact hgwl)).trans (unhide HCW i hi))
  have hgw3 : gw < w3.heap.size := Nat.lt_of_lt_of_le hgwl b3.size
  have hz23 : w2.heap.size ≤ w3.heap.size := b3.size
  have D3 := hide (((unhide D2).self.up b3).self)
  have B3 := hide ((unhide B2).trans (b3.mono (unhide B2).size))
  have HTB := hide (unhide TX3).lt
  have hz02 : w.heap.size ≤ w2.heap.size := (unhide B2).size
  clear b3 HIN B2 HCW D2
  go_wp2_with fail
  refine (pick_rdy w.heap.size g _ 30 w3 w3 (by omega) (by omega) (by omega) (unhide D3)).mono ?_
  rintro e w4 ⟨z, rfl, hz, D4, T4⟩
  have HFD := hide (by
    have := l34Feeds_any w.heap.size g _ (3 + z) gw wn wc ts w4 (by omega) (by omega) (unhide HWN') (by omega) (unhide HWO) (Nat.lt_of_lt_of_le hgw3 (unhide T4).size) (by omega) (fun i hi => ((unhide T4).cell hgw3 (by simp; omega)).trans (unhide HCW3 i hi)) (unhide D4).self
    rw [show ((3 + z : Nat) : Int) = 3 + (z : Int) by omega] at this
    exact this)
  have hz34 : w3.heap.size ≤ w4.heap.size := (unhide T4).size
  go_wp2_with fail
  refine (unhide HFD).mono ?_
  rintro e w5 ⟨fa, fm, fc, ns, rfl, HF5, HFF, D5⟩
  have T35 := hide ((unhide T4).trans (unhide D5).turn)
  clear HFD
  go_wp2_with fail
  refine (pick_rdy w.heap.size g _ 30 w4 w5 (by omega) (by omega) (by omega) (unhide D5)).mono ?_
  rintro e w6 ⟨y, rfl, hy, D6, T6⟩
  have T36 := hide ((unhide T35).trans (unhide T6))
  have B6 := hide ((unhide B3).trans ((unhide T36).below (unhide B3).size (by have := unhide HGE; simp; omega)))
  have FA6 := hide (show FeedsAt w4.heap.size w6 (.slice fa fm fc) ns from (show FeedsAt w4.heap.size w5 (.slice fa fm fc) ns from unhide HF5).turn (unhide T6) (by simp; omega))
  have TX6 := hide ((unhide TX3).turn (unhide T36) hg2)
  have FF6 := hide ((unhide HFF).mono (show 3 + z ≤ 61 by omega))
  have hg6 : g < w6.heap.size := Nat.lt_of_lt_of_le hg3 (unhide T36).size
  have hz36 : w3.heap.size ≤ w6.heap.size := (unhide T36).size
  clear T35 T6 HF5 HFF TX3 D5 T4 D4 D3
  by_cases hy0 : y = 0
  · subst hy0
    have HFD := hide (l34Feeds_any w.heap.size g _ 60 gw wn wc ts w6 (by omega) (by omega) (unhide HWN') (by omega) (unhide HWO) (Nat.lt_of_lt_of_le hgw3 (unhide T36).size) (by omega) (fun i hi => ((unhide T36).cell hgw3 (by simp; omega)).trans (unhide HCW3 i hi)) (unhide D6).self)
    go_wp2_with fail
    refine (unhide HFD).mono ?_
    rintro e w7 ⟨ga, gm, gc, ns7, rfl, HF7, HFF7, D7⟩
    have TX7 := hide ((unhide TX6).turn (unhide D7).turn hg2)
    have B7 := hide ((unhide B6).trans ((unhide D7).turn.below (unhide B6).size (by have := unhide HGE; simp; omega)))
    clear HFD
    go_wp2_with fail
    go_ret2
    exact ⟨_, _, ga, gm, gc, ns7, rfl, hide (unhide TX7).rd, hide (insFit_n hwn4), hide (FeedsAt.rd (unhide HF7)), hide ((unhide HFF7).mono (by omega)), unhide B7⟩
  · by_cases hy1 : y = 1
    · subst hy1
      have HFD := hide (l34Feeds_any w.heap.size g _ 61 gw wn wc ts w6 (by omega) (by omega) (unhide HWN') (by omega) (unhide HWO) (Nat.lt_of_lt_of_le hgw3 (unhide T36).size) (by omega) (fun i hi => ((unhide T36).cell hgw3 (by simp; omega)).trans (unhide HCW3 i hi)) (unhide D6).self)
      go_wp2_with fail
      refine (unhide HFD).mono ?_
      rintro e w7 ⟨ga, gm, gc, ns7, rfl, HF7, HFF7, D7⟩
      have TX7 := hide ((unhide TX6).turn (unhide D7).turn hg2)
      have B7 := hide ((unhide B6).trans ((unhide D7).turn.below (unhide B6).size (by have := unhide HGE; simp; omega)))
      clear HFD
      go_wp2_with fail
      go_ret2
      exact ⟨_, _, ga, gm, gc, ns7, rfl, hide (unhide TX7).rd, hide (insFit_n hwn4), hide (FeedsAt.rd (unhide HF7)), hide ((unhide HFF7).mono (by omega)), unhide B7⟩
    · have q0 : ((y : Int) == 0) = false := by rw [beq_eq_false_iff_ne]; omega
      have q1 : ((y : Int) == 1) = false := by rw [beq_eq_false_iff_ne]; omega
      have HLI : (insN wn).length ≤ 1000000 := by rw [insN_len]; omega
      have APP := fun (t : ByteArray) (ht : t.size ≤ 10) => hide (show (∀ g3 n3 c3 w8, TxRow w2.heap.size w8 (.slice (some ⟨g3, 0, none⟩) n3 c3) (insN wn ++ [t]) → (w6.alloc (.cells #[.string t] 9)).grownBy w8 (Value.slice ia wn ic).ownBlock → RetPlay34 w (.returned (.tuple #[.slice (some ⟨g3, 0, none⟩) n3 c3, .slice fa fm fc])) w8) from fun g3 n3 c3 w8 r8 gr8 => by
        have t8 : Turn (Value.slice ia wn ic).ownBlock.toList (w6.alloc (.cells #[.string t] 9)) w8 := Turn.of_grown gr8 (fun k hk => .inl (by rw [hk]; simp))
        have ta := Turn.of_alloc (Value.slice ia wn ic).ownBlock.toList w6 (.cells #[.string t] 9)
        have FA8 := (unhide FA6).turn (ta.trans t8) (fun k hk => by have := unhide HTB k (by simpa using hk); omega)
        exact ⟨_, _, fa, fm, fc, ns, rfl, hide r8.rd, hide (insFit_more hwn4 t ht), hide FA8.rd, FF6, Below.grown ((unhide B6).alloc (unhide B6).size _) gr8 (by have := (unhide B6).size; rw [World.size_alloc]; omega) (fun y hy => by have := (unhide TX6).ge y hy; omega)⟩)
      by_cases hy2 : y = 2
      · subst hy2
        have A7 := hide ((unhide TX6).up ((Below.refl _ w6).alloc (Nat.le_refl _) (.cells #[.string ⟨#[97]⟩] 9)))
        have C7 := (boxF_new w6 [.string ⟨#[97]⟩] 9).1.at 0 _ rfl
        have K7 := APP ⟨#[97]⟩ (by decide)
        have HZ7 := hide (show w2.heap.size ≤ (w6.alloc (.cells #[.string ⟨#[97]⟩] 9)).heap.size by simp; omega)
        go_wp2_with (first
          | (at_builtin; refine wpList_txAppend rfl _ _ rfl w2.heap.size (.slice ia wn ic) (insN wn) ⟨#[97]⟩ w6.heap.size rfl rfl (unhide A7) C7 HLI (unhide HZ7) ?_; intro g3 n3 c3 w8 r8 gr8; have K8 := hide (unhide K7 _ _ _ _ r8 gr8); clear r8 gr8)
          | fail)
        go_ret2
        exact unhide K8
      · have q2 : ((y : Int) == 2) = false := by rw [beq_eq_false_iff_ne]; omega
        by_cases hy3 : y = 3
        · subst hy3
          have A7 := hide ((unhide TX6).up ((Below.refl _ w6).alloc (Nat.le_refl _) (.cells #[.string ⟨#[108, 111, 110, 101]⟩] 9)))
          have C7 := (boxF_new w6 [.string ⟨#[108, 111, 110, 101]⟩] 9).1.at 0 _ rfl
          have K7 := APP ⟨#[108, 111, 110, 101]⟩ (by decide)
          have HZ7 := hide (show w2.heap.size ≤ (w6.alloc (.cells #[.string ⟨#[108, 111, 110, 101]⟩] 9)).heap.size by simp; omega)
          go_wp2_with (first
            | (at_builtin; refine wpList_txAppend rfl _ _ rfl w2.heap.size (.slice ia wn ic) (insN wn) ⟨#[108, 111, 110, 101]⟩ w6.heap.size rfl rfl (unhide A7) C7 HLI (unhide HZ7) ?_; intro g3 n3 c3 w8 r8 gr8; have K8 := hide (unhide K7 _ _ _ _ r8 gr8); clear r8 gr8)
            | fail)
          go_ret2
          exact unhide K8
        · have q3 : ((y : Int) == 3) = false := by rw [beq_eq_false_iff_ne]; omega
          go_wp2_with fail
          go_ret2
          exact ⟨_, _, fa, fm, fc, ns, rfl, hide (unhide TX6).rd, hide (insFit_n hwn4), hide (unhide FA6).rd, FF6, unhide B6⟩
end Go.Proofs.Ytlbhandkpnjgmaa
