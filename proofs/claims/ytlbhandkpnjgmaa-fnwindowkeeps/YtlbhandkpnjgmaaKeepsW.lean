/-
  The law on windows, walked: whatever feeds are drawn, what is put is what the specification puts, and the window is the last four of what was taken.
-/
import Derived.Test.YtlbhandkpnjgmaaMerged45
import Derived.Test.YtlbhandkpnjgmaaMerged47
import Derived.Test.YtlbhandkpnjgmaaDrawPlay
set_option linter.unusedVariables false
namespace Go.Proofs.Ytlbhandkpnjgmaa
open Go.RowKit Go.Maps Go.Deep

theorem keeps_small {ns : List FeedV} (h : FeedFit 61 ns) (i : Nat) (hi : i < ns.length) : SmallItem ns[i].a1 := by
  obtain ⟨-, h2, h3⟩ := h.2 _ (List.getElem_mem hi)
  exact ⟨by omega, h3.small (by omega)⟩
theorem ItRow.caps {B : Nat} {w : World} {a : Option Addr} {n c : Nat} {xs : List (Int × Value)} (h : ItRow B w (.slice a n c) xs) : xs.length ≤ c := by
  rcases h.2 with ⟨e, h0⟩ | ⟨g, cap, cur, e, hB, hg, hnc, _⟩
  · omega
  · simp only [Value.slice.injEq] at e
    obtain ⟨rfl, rfl, rfl⟩ := e
    exact hnc
theorem keeps_bi {w1 w7 : World} {wv : Value} {ta : Option Addr} {tn tc k i : Nat} {nq ts : List ItemV} (h : KeepMid w1 wv (.slice ta tn tc) nq ts i w7) (ht : tn = ts.length) (hk : k = tn - 4) (hs : SmallItemS nq) : ∀ (W : World) (bW : Below w7.heap.size w7 W) (p : Option Addr) (c : Nat), (p = Option.map (fun x => x.add (k * 2)) ta ∨ tn = 0) → Calls Try.prog 7 #[wv, .slice p (tn - k) c] W fun e w' => e = .returned (.bool true) ∧ Below W.heap.size W w' := by
  intro W bW p c hp
  have e := h.kept.2
  rw [← ht, ← hk] at e
  refine bsItems_same nq wv _ W hs (h.rdN.up bW) ?_
  by_cases h0 : tn = 0
  · have hts : ts = [] := List.eq_nil_of_length_eq_zero (by omega)
    have hn : nq = [] := by rw [e, hts]; simp
    subst hn
    exact ⟨p, c, by rw [h0]; simp, .inl rfl⟩
  · have hp := hp.resolve_right h0
    subst hp
    obtain ⟨a, cc, e2, hin⟩ := h.rdT.up bW
    simp only [Value.slice.injEq] at e2
    obtain ⟨rfl, -, rfl⟩ := e2
    have hl : tn - k = nq.length := by rw [e]; simp; omega
    rw [hl]
    rcases hin with hh | ⟨b, off, rfl, hb, hat⟩
    · rw [hh] at ht; simp at ht; omega
    · refine ⟨_, c, rfl, .inr ⟨b, off + k * 2, by simp [Addr.add], hb, ?_⟩⟩
      rw [e]
      exact hat.drop
theorem keeps_last {w1 w7 : World} {wv : Value} {ta : Option Addr} {tn tc i : Nat} {nq ts : List ItemV} (h : KeepMid w1 wv (.slice ta tn tc) nq ts i w7) (ht : tn = ts.length) : ∀ j, tn = j + 1 → ∀ (W : World) (bW : Below w7.heap.size w7 W), ∃ g off u, ta = some ⟨g, off, none⟩ ∧ W.cell? ⟨g, off + j * 2, none⟩ = some (.int .i64 (lastI nq).a0) ∧ W.cell? ⟨g, off + j * 2 + 1, none⟩ = some u ∧ MarkSRd W u (lastI nq).a1 ∧ SmallMarkS (lastI nq).a1 := by
  intro j hj W bW
  have hlt : j < ts.length := by omega
  obtain ⟨-, hl⟩ := kept_last h.kept (by omega)
  have hl : lastI nq = ts[j] := by
    rw [hl]
    congr 1
    omega
  obtain ⟨a, cc, e2, hin⟩ := h.rdT.up bW
  simp only [Value.slice.injEq] at e2
  obtain ⟨rfl, -, rfl⟩ := e2
  rcases hin with hh | ⟨b, off, rfl, hb, hat⟩
  · rw [hh] at hlt; simp at hlt
  · obtain ⟨c0, v, c1, hv⟩ := hat j hlt
    refine ⟨b, off, v, rfl, ?_, c1, ?_, ?_⟩
    · rw [hl]; exact c0
    · rw [hl]; exact hv
    · rw [hl]; exact (h.smT _ (List.getElem_mem hlt)).2
set_option maxRecDepth 20000 in
set_option maxHeartbeats 12800000 in
theorem keeps_walk (a : Option Addr) (cap : Nat) (bs : List UInt8) (w : World) (hl : bs.length ≤ maxLen) (hc : bs.length ≤ cap) (hb : ByIn w a bs) :
    Calls Try.prog 3 #[.slice a bs.length cap] w fun e w' => e = .returned (.bool true) ∧ Below w.heap.size w w' := by
  by_cases hbs : (bs.length : Int) ≤ 1048576
  rotate_left
  · unfold maxLen at hl
    go_enter Try.func3, Try.ntmps3
    go_wp2_with fail
    go_ret
    exact ⟨rfl, Below.refl _ _⟩
  have HD := hide (drawPlay_any w a cap bs hl hc hb)
  clear hb hc hl
  go_enter Try.func3, Try.ntmps3
  go_wp2_with fail
  refine (unhide HD).mono ?_
  rintro e w1 ⟨iv, is, fa, fm, fc, fs, rfl, HSI, HFI, HFD, HFF, b1⟩
  have B1 := hide b1
  have M0 := hide (KeepMid.start w1)
  obtain ⟨fa', fc', efs, hin⟩ := unhide HFD
  simp only [Value.slice.injEq] at efs
  obtain ⟨rfl, rfl, rfl⟩ := efs
  have HIN := hide hin
  have hfl := (unhide HFF).1
  clear b1 HD hin HSI HFI HFD
  go_wp2_with fail
  go_loopw [5, 6, 7] (fun wv tv iv wr => ∃ (i : Nat) (wa ta : Option Addr) (wn wc tn tc : Nat) (ns ts : List ItemV), i ≤ fs.length ∧ iv = .int .i64 (i : Int) ∧ wv = .slice wa wn wc ∧ tv = .slice ta tn tc ∧ Hid (KeepMid w1 (.slice wa wn wc) (.slice ta tn tc) ns ts i wr)) (fun _ _ i _ => fs.length - (intOf i).toNat)
  case atStart => exact ⟨0, none, none, 0, 0, 0, 0, [], [], Nat.zero_le _, rfl, rfl, rfl, M0⟩
  case round =>
    obtain ⟨i, wa, ta, wn, wc, tn, tc, ns, ts, hi, rfl, rfl, rfl, HM⟩ := hrel
    by_cases hlt : i < fs.length
    rotate_left
    · have hlt' : ¬ ((i : Int) < (fs.length : Int)) := by omega
      have HB := hide ((unhide B1).trans ((unhide HM).bel.mono (unhide B1).size))
      clear HM M0
      go_wp2_with fail
      go_ret
      exact ⟨rfl, unhide HB⟩
    by_cases h40 : i < 40
    rotate_left
    · have hlt' : ((i : Int) < (fs.length : Int)) := by omega
      have h40' : ¬ ((i : Int) < 40) := by omega
      have HB := hide ((unhide B1).trans ((unhide HM).bel.mono (unhide B1).size))
      clear HM M0
      go_wp2_with fail
      go_ret
      exact ⟨rfl, unhide HB⟩
    have hlt' : ((i : Int) < (fs.length : Int)) := by omega
    have h40' : ((i : Int) < 40) := by omega
    have HW1 := hide (show fs = [] ∨ ∃ b off, fa = some ⟨b, off, none⟩ ∧ b < wr.heap.size ∧ FeedAt wr b off fs from by
      rcases unhide HIN with h | ⟨b, off, e, hb, h⟩
      · exact .inl h
      · exact .inr ⟨b, off, e, Nat.lt_of_lt_of_le hb (unhide HM).bel.size, h.up hb (unhide HM).bel⟩)
    rcases unhide HW1 with h | ⟨b, off, rfl, hbr, hat⟩
    · rw [h] at hlt; simp at hlt
    obtain ⟨c0, c1, u, c2, hu⟩ := hat i hlt
    have HU1 := hide (show MarkSRd w1 u fs[i].a1.a1 from by
      rcases unhide HIN with h | ⟨b', off', e, hb', h⟩
      · rw [h] at hlt; simp at hlt
      · simp only [Option.some.injEq, Addr.mk.injEq, and_true] at e
        obtain ⟨rfl, rfl⟩ := e
        obtain ⟨-, -, u', c2', hu'⟩ := h i hlt
        have := ((unhide HM).bel.cell (by exact hb')).trans c2'
        rw [c2] at this
        simp only [Option.some.injEq] at this
        rw [this]
        exact hu')
    have HSM := hide (keeps_small (unhide HFF) i hlt)
    have HU := hide hu
    obtain ⟨ua, un, uc, rfl⟩ := hu.form
    clear hu hat HW1
    generalize fs[i].a1 = it at *
    obtain ⟨z, ms⟩ := it
    simp only at c1 c2
    have HP1 := hide (fun W (bW : Below wr.heap.size wr W) => implPut_any ns (.slice wa wn wc) ⟨z, ms⟩ (.agg #[.int .i64 z, .slice ua un uc]) W (unhide HM).smN (unhide HSM) ((unhide HM).rdN.up bW) ⟨_, rfl, (unhide HU).up bW⟩)
    have HP2 := hide (fun W (bW : Below wr.heap.size wr W) => specPut_own ns (.slice wa wn wc) ⟨z, ms⟩ (.agg #[.int .i64 z, .slice ua un uc]) W (unhide HM).smN (unhide HSM) ((unhide HM).rdN.up bW) ⟨_, rfl, (unhide HU).up bW⟩)
    have X0 := hide (boxF_new wr [.int .i64 z, .slice ua un uc] 30)
    have HWAY := hide (kept_ways ⟨z, ms⟩ (unhide HM).kept)
    have HSP := hide (small_put (unhide HM).smN (unhide HSM))
    clear M0 c0
    go_wp2_with fail
    refine (unhide HP1 _ (by go_grown)).mono ?_
    rintro e w2 ⟨v2, S2, rfl, F2, G2, b2⟩
    have BB2 := hide (show Below wr.heap.size wr w2 from Below.trans (by go_grown) (b2.mono (by simp)))
    have X2 := hide ((unhide X0).up b2)
    have GG2 := hide (show ∀ k ∈ S2, wr.heap.size ≤ k from fun k hk => by have := unhide G2 k hk; simp at this; omega)
    obtain ⟨va2, vn2, vc2, rfl⟩ := (unhide F2).rd.form
    clear b2 X0 HP1 G2 c1 c2
    have y0 := (unhide X2).1.at 0 _ rfl
    have y1 := (unhide X2).1.at 1 _ rfl
    go_wp2_with fail
    refine (unhide HP2 _ (unhide BB2)).mono ?_
    rintro e w3 ⟨v3, xs3, rfl, F3, b3⟩
    have R3 := hide ((unhide F3).1.rd (unhide F3).2)
    have FF3 := hide ((unhide F2).up b3)
    have BB3 := hide ((unhide BB2).trans (b3.mono (unhide BB2).size))
    have X3 := hide ((unhide X2).up b3)
    have HBI := hide (bsItems_same (putV ns ⟨z, ms⟩) (.slice va2 vn2 vc2) v3 w3 (unhide HSP) (unhide FF3).rd (unhide R3))
    obtain ⟨va3, vn3, vc3, rfl⟩ := (unhide R3).form
    clear b3 F2 F3 R3 y0 y1 X2 BB2 HP2
    generalize putI ns ⟨z, ms⟩ = pc at *
    generalize putV ns ⟨z, ms⟩ = nq at *
    go_wp2_with fail
    refine (unhide HBI).mono ?_
    rintro e w4 ⟨rfl, b4⟩
    have FF4 := hide ((unhide FF3).up b4)
    have BB4 := hide ((unhide BB3).trans (b4.mono (unhide BB3).size))
    have X4 := hide ((unhide X3).up b4)
    clear b4 FF3 BB3 X3 HBI
    have y0 := (unhide X4).1.at 0 _ rfl
    have y1 := (unhide X4).1.at 1 _ rfl
    rcases unhide HWAY with ⟨hpc, -⟩ | hway
    · subst hpc
      clear HWAY
      go_wp2_with fail
      go_roundw
      case rel => exact ⟨i + 1, wa, ta, wn, wc, tn, tc, ns, ts, by omega, by go_num, rfl, rfl, hide (((unhide HM).up (unhide BB4)).more (by omega))⟩
      case measure => simp [intOf]; omega
    have hne : (pc == 1) = false := by rcases hway with h | h <;> rw [h.1] <;> rfl
    go_upto_if 63 with fail
    go_cut [6] (fun tv wx => ∃ (ta2 : Option Addr) (tn2 tc2 : Nat) (ts2 : List ItemV), tv = .slice ta2 tn2 tc2 ∧ Hid (KeepMid w1 (.slice va2 vn2 vc2) (.slice ta2 tn2 tc2) nq ts2 (i + 1) wx))
    case first =>
      clear HWAY
      rcases hway with ⟨hpc, hk⟩ | ⟨hpc, hk⟩
      · subst hpc
        obtain ⟨xs, r3, r4⟩ := (unhide HM).row
        have A5 := hide ((Below.refl _ w4).alloc (Nat.le_refl _) (.cells #[.int .i64 z, .slice ua un uc] 30))
        have B5 := hide ((unhide BB4).trans ((unhide A5).mono (unhide BB4).size))
        have ROW := hide (r3.up (unhide B5))
        have C5 := hide (pairW (boxF_new w4 [.int .i64 z, .slice ua un uc] 30)).1
        have HXL := hide (show xs.length ≤ 1000000 by have := r4.1; have := (unhide HM).len; omega)
        have HZ5 := hide (show w1.heap.size ≤ (w4.alloc (.cells #[.int .i64 z, .slice ua un uc] 30)).heap.size from Nat.le_trans (unhide HM).bel.size (unhide B5).size)
        have R3 := hide r3
        have R4 := hide r4
        have HK := hide hk
        have FF5 := hide ((unhide FF4).up (unhide A5))
        clear r3 r4 hk hne
        go_wp2_with (first
          | (at_builtin; refine wpList_itAppend rfl _ _ rfl w1.heap.size (.slice ta tn tc) xs z ua un uc w4.heap.size rfl rfl (unhide ROW) (unhide C5).1 (unhide C5).2 (unhide HXL) (unhide HZ5) ?_; intro g5 n5 c5 w5 r5 gr5 hg5; have M5 := hide ((unhide HM).took (unhide B5) (unhide FF5) (unhide GG2) (unhide HK) (unhide HSP) (unhide HSM) (unhide HU1) (unhide R4) (unhide R3) r5 gr5 hg5); clear r5 gr5 hg5)
          | fail)
        go_meet
        exact ⟨_, n5, c5, _, rfl, M5⟩
      · subst hpc
        have M5 := hide (((unhide HM).next (unhide BB4) (unhide FF4) (unhide GG2) hk (unhide HSP)).more (show i ≤ i + 1 by omega))
        clear hk hne
        go_wp2_with fail
        go_meet
        exact ⟨ta, tn, tc, ts, rfl, M5⟩
    case rest =>
    obtain ⟨ta2, tn2, tc2, ts2, rfl, M5⟩ := hcut
    generalize wc = w5 at *
    clear HM HWAY hway hne FF4 GG2 BB4 X4 y0 y1 HU1 HSM HU
    have htl : tn2 = ts2.length := by obtain ⟨_, _, e, _⟩ := (unhide M5).rdT; simp only [Value.slice.injEq] at e; exact e.2.1
    have htn : tn2 ≤ 41 := by have := (unhide M5).len; omega
    have HTL := hide htl
    clear htl
    go_upto_if 73 with fail
    go_cut [13] (fun kv wx => ∃ (k : Nat), kv = .int .i64 (k : Int) ∧ Hid (k = tn2 - 4) ∧ Hid (KeepMid w1 (.slice va2 vn2 vc2) (.slice ta2 tn2 tc2) nq ts2 (i + 1) wx))
    case first =>
      by_cases h4 : tn2 < 4
      · have h4' : (tn2 : Int) - 4 < 0 := by omega
        go_wp2_with fail
        go_meet
        exact ⟨0, rfl, hide (by omega), M5⟩
      · have h4' : ¬ ((tn2 : Int) - 4 < 0) := by omega
        go_wp2_with fail
        go_meet
        exact ⟨tn2 - 4, by rw [Int.ofNat_sub (by omega)]; rfl, hide rfl, M5⟩
    case rest =>
    obtain ⟨k, rfl, HKT, M6⟩ := hcut
    generalize wc = w6 at *
    clear M5
    have HLA := hide (implLast_any nq (.slice va2 vn2 vc2) w6 (unhide HSP) (unhide M6).rdN)
    have hkt : k ≤ tn2 := by have := unhide HKT; omega
    have hkt' : (k : Int) ≤ (tn2 : Int) := by omega
    go_wp2_with fail
    refine (unhide HLA).mono ?_
    rintro e w7 ⟨u7, rfl, MR7, b7⟩
    have M7 := hide ((unhide M6).up b7)
    obtain ⟨ua7, un7, uc7, rfl⟩ := (unhide MR7).rd.form
    have U7 := hide (unhide MR7).rd
    have HOK := hide (fun (W : World) (bW : Below w7.heap.size w7 W) => by have := implWindow_any nq (.slice va2 vn2 vc2) W (unhide HSP) ((unhide M7).rdN.up bW); rw [(unhide M7).kept.1] at this; exact this)
    have BI := hide (keeps_bi (unhide M7) (unhide HTL) (unhide HKT) (unhide HSP))
    have HLB := hide (show lastB nq = decide (0 < tn2) by rw [unhide HTL, ← kept_empty (unhide M7).kept]; exact (lastI_yes (unhide M7).kept.1).1)
    have HKL := hide (keeps_last (unhide M7) (unhide HTL))
    have hcp : tn2 ≤ tc2 := by obtain ⟨xs, q, q2⟩ := (unhide M7).row; exact (unhide HTL).symm ▸ (q2.1 ▸ ItRow.caps q)
    have A7 := hide ((Below.refl _ w7).alloc (Nat.le_refl _) (.cells #[.int .i64 (lastI nq).a0, .slice ua7 un7 uc7] 30))
    have X7 := hide (boxF_new w7 [.int .i64 (lastI nq).a0, .slice ua7 un7 uc7] 30)
    have BW := hide (show Below w.heap.size w w7 from (unhide B1).trans ((unhide M7).bel.mono (unhide B1).size))
    clear b7 MR7 M6 HLA
    rcases Nat.eq_zero_or_pos tn2 with h0 | h0
    · subst h0
      obtain rfl : k = 0 := by omega
      rw [show lastB nq = false from unhide HLB]
      clear HLB HKL U7
      generalize lastI nq = li at *
      go_wp2_with fail
      refine (unhide HOK _ (unhide A7)).mono ?_
      rintro e w8 ⟨rfl, b8⟩
      have A8 := hide ((unhide A7).trans (b8.mono (unhide A7).size))
      clear b8 A7 X7 HOK
      go_wp2_with fail
      all_goals
        refine (unhide BI _ (unhide A8) _ _ (.inr (by first | trivial | rfl))).mono ?_
        rintro e w9 ⟨rfl, b9⟩
        have A9 := hide ((unhide A8).trans (b9.mono (unhide A8).size))
        clear b9
        go_wp2_with fail
        refine wp_region_later (by kernel_rfl) (by kernel_rfl) ?_
        repeat (go_big_quiet_step (fail))
        refine wpQuiet_nil ?_
        rintro _ ⟨x, rfl⟩
        obtain ⟨w10, BB⟩ := x
        dsimp only
        have A10 := hide ((unhide A9).trans (BB.mono (unhide A9).size))
        clear BB
        go_wp2_with fail
        go_roundw
        case rel => exact ⟨i + 1, va2, ta2, vn2, vc2, _, _, nq, ts2, by omega, by go_num, rfl, rfl, hide ((unhide M7).up (unhide A10))⟩
        case measure => simp [intOf]; omega
    · obtain ⟨j, rfl⟩ : ∃ j, tn2 = j + 1 := ⟨tn2 - 1, by omega⟩
      rw [show lastB nq = true by rw [unhide HLB]; simp]
      have HKL2 := hide (unhide HKL j rfl)
      have hkc : k < tc2 := by have := unhide HKT; omega
      clear HLB HKL
      generalize lastI nq = li at *
      go_wp2_with fail
      refine (unhide HOK _ (unhide A7)).mono ?_
      rintro e w8 ⟨rfl, b8⟩
      have A8 := hide ((unhide A7).trans (b8.mono (unhide A7).size))
      have X8 := hide ((unhide X7).up b8)
      clear b8 A7 X7 HOK
      go_wp2_with fail
      refine (unhide BI _ (unhide A8) _ _ (.inl rfl)).mono ?_
      rintro e w9 ⟨rfl, b9⟩
      have A9 := hide ((unhide A8).trans (b9.mono (unhide A8).size))
      have X9 := hide ((unhide X8).up b9)
      clear b9 A8 X8 BI
      obtain ⟨d0, d1⟩ := (show w9.cell? ⟨w7.heap.size, 0, none⟩ = _ ∧ w9.cell? ⟨w7.heap.size, 1, none⟩ = _ from ⟨(unhide X9).1.at 0 _ rfl, (unhide X9).1.at 1 _ rfl⟩)
      obtain ⟨gt, ot, ut, hta, e0, e1, hms, hsm⟩ := unhide HKL2 _ (unhide A9)
      subst hta
      have HBM := hide (fun (W : World) (bW : Below w9.heap.size w9 W) => bsItem_any li (.slice ua7 un7 uc7) ut W hsm ((unhide U7).up ((unhide A9).trans (bW.mono (unhide A9).size))) (hms.up bW))
      obtain ⟨ta9, tn9, tc9, rfl⟩ := hms.form
      clear hms hsm HKL2
      have hj1 : ((j + 1 : Nat) : Int) - 1 = (j : Int) := by omega
      have hj2 : IntKind.i64.wrap (j : Int) = (j : Int) := by rw [IntKind.wrap_i64]; omega
      have hjn : (j : Int) < ((j + 1 : Nat) : Int) := by omega
      generalize li.a0 = lz at *
      go_wp2_with fail
      have r0 : ∀ x : LaterW w9, x.to.cell? ⟨w7.heap.size, 0, none⟩ = some (.int .i64 lz) := fun x => x.cell d0
      have r1 : ∀ x : LaterW w9, x.to.cell? ⟨w7.heap.size, 1, none⟩ = some (.slice ua7 un7 uc7) := fun x => x.cell d1
      have r2 : ∀ x : LaterW w9, x.to.cell? ⟨gt, ot + j * 2, none⟩ = some (.int .i64 lz) := fun x => x.cell e0
      have r3 : ∀ x : LaterW w9, x.to.cell? ⟨gt, ot + j * 2 + 1, none⟩ = some (.slice ta9 tn9 tc9) := fun x => x.cell e1
      clear d0 d1 e0 e1
      refine wp_region_later (by kernel_rfl) (by kernel_rfl) ?_
      repeat (go_big_quiet_step ((go_at_call 10; exact quiet_ret (unhide HBM _ (LaterW.bel _)))))
      refine wpQuiet_nil ?_
      rintro _ ⟨x, rfl⟩
      obtain ⟨w10, BB⟩ := x
      dsimp only
      have A10 := hide ((unhide A9).trans (BB.mono (unhide A9).size))
      clear BB r0 r1 r2 r3 HBM
      go_wp2_with fail
      go_roundw
      case rel => exact ⟨i + 1, va2, _, vn2, vc2, j + 1, tc2, nq, ts2, by omega, by go_num, rfl, rfl, hide ((unhide M7).up (unhide A10))⟩
      case measure => simp [intOf]; omega
end Go.Proofs.Ytlbhandkpnjgmaa
