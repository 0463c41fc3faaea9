/-
  The walk of the law: each byte of a stream is heard in a frame or told as passed over.
-/
import Derived.Test.YtnildacialaagaaDraw33Z
import Derived.Test.YtnildacialaagaaMerged3
import Derived.Test.YtnildacialaagaaSplitFeedI
import Derived.Test.YtnildacialaagaaEndImpl
set_option linter.unusedVariables false
namespace Go.Proofs.Ytnildacialaagaa
open Go.RowKit Go.Maps Go.Deep

theorem rdAt {w : World} {a : Option Addr} {n c : Nat} {ns : List (List UInt8)} (h : ByteSSRd w (.slice a n c) ns) (k : Nat) (hk : k < ns.length) : ∃ b off v, a = some ⟨b, off, none⟩ ∧ w.cell? ⟨b, off + k, none⟩ = some v ∧ ByRd w v ns[k] := by
  obtain ⟨a', c', e, h⟩ := h
  simp only [Value.slice.injEq] at e
  obtain ⟨rfl, rfl, rfl⟩ := e
  rcases h with rfl | ⟨b, off, rfl, _, h⟩
  · simp at hk
  · obtain ⟨v, h1, h2⟩ := h k hk
    exact ⟨b, off, v, rfl, h1, h2⟩
set_option maxHeartbeats 12800000 in
set_option maxRecDepth 20000 in
theorem splitAll_walk (a : Option Addr) (cap : Nat) (bs : List UInt8) (w : World) (hl : bs.length ≤ maxLen) (hc : bs.length ≤ cap) (hb : ByIn w a bs) :
    Calls Try.prog 3 #[.slice a bs.length cap] w fun e w' => e = .returned (.bool true) ∧ Below w.heap.size w w' := by
  have HD := hide (drawFeed_any w a cap bs hl hc hb)
  have hn : (bs.length : Int) ≤ 9223372036854775807 := by unfold maxLen at hl; omega
  clear hl hc hb
  by_cases h1 : (1048576 : Int) < (bs.length : Int)
  · clear HD
    generalize bs.length = n at *
    go_enter Try.func3, Try.ntmps3
    go_wp2_with fail
    go_ret
    exact ⟨rfl, Below.refl _ _⟩
  generalize bs.length = n at *
  go_enter Try.func3, Try.ntmps3
  go_wp2_with fail
  refine (unhide HD).mono ?_
  rintro e w1 ⟨sa, sn, sc, sl, ya, yn, yc, ys, rfl, R1, L1, b1⟩
  have B1 := hide b1
  have HYN := hide (by_len (unhide R1)).1
  have HF := hide (fun (W : World) (b : Below w1.heap.size w1 W) => implFeed_any ⟨[], 0⟩ (.agg #[.slice none 0 0, .int .i64 0]) ys (.slice ya yn yc) W (by unfold SmallSplit; simp) (by have := unhide L1; unfold SmallByteS; omega) ⟨_, rfl, ByRd.nil _ _ _⟩ ((unhide R1).up b))
  have HG := hide (fun (W : World) (b : Below w1.heap.size w1 W) => specFeed_any ⟨[], 0⟩ (.agg #[.slice none 0 0, .int .i64 0]) ys (.slice ya yn yc) W (by unfold SmallSplit; simp) (by have := unhide L1; unfold SmallByteS; omega) ⟨_, rfl, ByRd.nil _ _ _⟩ ((unhide R1).up b))
  clear b1 HD
  have A2 := hide ((Below.refl w1.heap.size w1).alloc (Nat.le_refl _) (.cells #[.slice sa sn sc, .int .i64 sl] 24))
  go_wp2_with fail
  generalize w1.alloc (.cells #[.slice sa sn sc, .int .i64 sl] 24) = W2 at *
  refine (unhide HF W2 (unhide A2)).mono ?_
  rintro e w3 ⟨v3, S3, vr3, Q3, rfl, O3, _, H3, _, _, b3⟩
  have B13 := hide ((unhide A2).trans (b3.mono (unhide A2).size))
  have RS3 := hide (unhide O3).rd
  have RH3 := hide (unhide H3).rd
  obtain ⟨v30, hv3, h30⟩ := unhide RS3
  obtain ⟨ta, tn, tc, rfl⟩ := h30.form
  subst hv3
  obtain ⟨ha, hn3, hc3, rfl⟩ := (unhide RH3).form
  clear b3 A2 O3 H3 h30 HF
  have A4 := hide ((Below.refl w3.heap.size w3).alloc (Nat.le_refl _) (.cells #[.slice ta tn tc, .int .i64 (feedS ⟨[], 0⟩ ys).lost] 24))
  have XS4 := hide (boxF_new w3 [.slice ta tn tc, .int .i64 (feedS ⟨[], 0⟩ ys).lost] 24)
  simp only [List.toArray] at XS4
  have RS4 := hide ((unhide RS3).up (unhide A4))
  have RH4 := hide ((unhide RH3).up (unhide A4))
  have B14 := hide ((unhide B13).trans ((unhide A4).mono (unhide B13).size))
  clear RS3 RH3 B13 A4
  generalize hlo : (feedS ⟨[], 0⟩ ys).lost = lo at *
  have HLO := hide hlo
  clear hlo
  generalize hfb : feedB ⟨[], 0⟩ ys = fb at *
  have HFB := hide hfb
  clear hfb
  go_wp2_with fail
  generalize w3.alloc (.cells #[.slice ta tn tc, .int .i64 lo] 24) = W4 at *
  generalize w3.heap.size = gs at *
  refine (unhide HG W4 (unhide B14)).mono ?_
  rintro e w5 ⟨v5, vr5, rfl, RS5, RH5, b5⟩
  have B15 := hide ((unhide B14).trans (b5.mono (unhide B14).size))
  have XS5 := hide ((unhide XS4).up b5)
  have RS55 := hide ((unhide RS4).up b5)
  have RH55 := hide ((unhide RH4).up b5)
  obtain ⟨v50, hv5, h50⟩ := unhide RS5
  obtain ⟨ua, un, uc, rfl⟩ := h50.form
  subst hv5
  obtain ⟨wa, wn, wc, rfl⟩ := (unhide RH5).form
  rw [unhide HLO, unhide HFB]
  have A6 := hide ((Below.refl w5.heap.size w5).alloc (Nat.le_refl _) (.cells #[.slice ua un uc, .int .i64 lo] 24))
  have XS6 := hide ((unhide XS5).up (unhide A6))
  have RS6 := hide ((unhide RS55).up (unhide A6))
  have RH6 := hide ((unhide RH55).up (unhide A6))
  have RW6 := hide ((unhide RH5).up (unhide A6))
  have B16 := hide ((unhide B15).trans ((unhide A6).mono (unhide B15).size))
  have HLB := hide (leBodies_same (feedH ⟨[], 0⟩ ys) _ _ _ (small_feedH _ _) (unhide RH6) (unhide RW6))
  clear b5 XS4 XS5 RS4 RS5 RS55 RH4 RH5 RH55 h50 A6 B14 B15 HG RW6
  go_wp2_with fail
  generalize w5.alloc (.cells #[.slice ua un uc, .int .i64 lo] 24) = W6 at *
  refine (unhide HLB).mono ?_
  rintro e w7 ⟨rfl, b7⟩
  have B17 := hide ((unhide B16).trans (b7.mono (unhide B16).size))
  have XS7 := hide ((unhide XS6).up b7)
  have RS7 := hide ((unhide RS6).up b7)
  have RH7 := hide ((unhide RH6).up b7)
  clear b7 B16 XS6 RS6 RH6 HLB
  obtain ⟨⟨s0, s1⟩, -⟩ := two33 (unhide XS7)
  cases fb
  · go_wp2_with fail
    go_ret
    exact ⟨rfl, (unhide B1).trans ((unhide B17).mono (unhide B1).size)⟩
  · have HEN := hide (implEnd_any (feedS ⟨[], 0⟩ ys) _ w7 (small_feedS _ _) (unhide RS7))
    have HALL := hide (end_all (unhide HFB))
    clear RS7
    go_wp2_with fail
    refine (unhide HEN).mono ?_
    rintro e w8 ⟨vr8, Q8, rfl, OW8, _, b8⟩
    have RM8 := hide (unhide OW8).rd
    have RH8 := hide ((unhide RH7).up b8)
    have B18 := hide ((unhide B1).trans (((unhide B17).trans (b8.mono (unhide B17).size)).mono (unhide B1).size))
    obtain ⟨ma, mn, mc, rfl⟩ := (unhide RM8).form
    have HHN := hide (show hn3 = (feedH ⟨[], 0⟩ ys).length by obtain ⟨_, _, e, _⟩ := unhide RH8; simp only [Value.slice.injEq] at e; exact e.2.1)
    have HMN := hide (show mn = (endH (feedS ⟨[], 0⟩ ys)).length by obtain ⟨_, _, e, _⟩ := unhide RM8; simp only [Value.slice.injEq] at e; exact e.2.1)
    have HSH := hide (small_feedH ⟨[], 0⟩ ys)
    have HSM := hide (small_endH (feedS ⟨[], 0⟩ ys))
    clear b8 OW8 RH7 B17 XS7 s0 s1 HEN
    have hei := endI_pos ys
    generalize endI (feedS ⟨[], 0⟩ ys) = ei at *
    generalize feedH ⟨[], 0⟩ ys = fh at *
    generalize endH (feedS ⟨[], 0⟩ ys) = eh at *
    have hall := unhide HALL
    have hyl := unhide L1
    have hnn : hn3 = fh.length := unhide HHN
    have hmm : mn = eh.length := unhide HMN
    subst hnn
    subst hmm
    have hfl : fh.length ≤ 10000 := (unhide HSH).1
    have hel : eh.length ≤ 10000 := (unhide HSM).1
    go_wp2_with fail
    go_loop [13, 14] (fun nv i => ∃ (k : Nat), k ≤ fh.length ∧ i = .int .i64 (k : Int) ∧ nv = .int .i64 (ei + (sumB (fh.take k) : Int))) (fun _ i => fh.length - (intOf i).toNat)
    case atStart => exact ⟨0, Nat.zero_le _, rfl, by simp [sumB]⟩
    case round =>
      obtain ⟨k, hk, rfl, rfl⟩ := hrel
      have hsk := sumB_le fh k
      by_cases hlt : k < fh.length
      · skip
        have hat := rdAt (unhide RH8) k hlt
        obtain ⟨b, off, v, hval, hcell, hv⟩ := hat
        obtain ⟨va, vc, rfl⟩ := hv.len
        have hts := sumB_take fh k hlt
        have HK1 := hide (show k + 1 ≤ fh.length from hlt)
        have hle := sumB_le fh (k + 1)
        subst hval
        generalize fh[k].length = mlen at *
        generalize sumB (fh.take k) = sk at *
        have HTS := hide hts
        have q0 : (0 : Int) ≤ ei + (sk : Int) + (mlen : Int) := by omega
        have q1 : ei + (sk : Int) + (mlen : Int) ≤ 6000 := by omega
        have HQ := hide (And.intro q0 q1)
        clear hts
        go_wp2_with fail
        go_round
        case rel => exact ⟨k + 1, unhide HK1, by go_num, by have := unhide HTS; have := unhide HQ; first | go_num | (congr 1; rw [IntKind.wrap_i64, IntKind.wrap_i64] <;> omega) | (congr 1; omega)⟩
        case measure => have := unhide HK1; simp [intOf]; omega
      · have ek : fh.take k = fh := List.take_of_length_le (by omega)
        rw [ek]
        have hkk : k = fh.length := by omega
        have hb0 : (0 : Int) ≤ ei + (sumB fh : Int) := by omega
        have HB0 := hide hb0
        have HEQ := hide (show ei + (sumB fh : Int) + (sumB eh : Int) = (yn : Int) by have := unhide HYN; omega)
        have HYB := hide (show (yn : Int) ≤ 5000 by have := unhide HYN; omega)
        clear hsk ek hall hyl HALL hei hb0
        generalize ei + (sumB fh : Int) = base at *
        go_wp2_with fail
        go_loop [13, 15] (fun nv i => ∃ (k : Nat), k ≤ eh.length ∧ i = .int .i64 (k : Int) ∧ nv = .int .i64 (base + (sumB (eh.take k) : Int))) (fun _ i => eh.length - (intOf i).toNat)
        case atStart => exact ⟨0, Nat.zero_le _, rfl, by simp [sumB]⟩
        case round =>
          obtain ⟨j, hj, rfl, rfl⟩ := hrel
          have hsk := sumB_le eh j
          by_cases hlt2 : j < eh.length
          · have hat := rdAt (unhide RM8) j hlt2
            obtain ⟨b, off, v, hval, hcell, hv⟩ := hat
            obtain ⟨va, vc, rfl⟩ := hv.len
            have hts := sumB_take eh j hlt2
            have HK1 := hide (show j + 1 ≤ eh.length from hlt2)
            have hle := sumB_le eh (j + 1)
            subst hval
            generalize eh[j].length = mlen at *
            generalize sumB (eh.take j) = sk at *
            have HTS := hide hts
            have he := unhide HEQ
            have hy5 := unhide HYB
            have hb0 := unhide HB0
            have q0 : (0 : Int) ≤ base + (sk : Int) + (mlen : Int) := by omega
            have q1 : base + (sk : Int) + (mlen : Int) ≤ 6000 := by omega
            have HQ := hide (And.intro q0 q1)
            clear hts he hy5 hb0
            go_wp2_with fail
            go_round
            case rel => exact ⟨j + 1, unhide HK1, by go_num, by have := unhide HTS; have := unhide HQ; first | go_num | (congr 1; rw [IntKind.wrap_i64, IntKind.wrap_i64] <;> omega) | (congr 1; omega)⟩
            case measure => have := unhide HK1; simp [intOf]; omega
          · have ek : eh.take j = eh := List.take_of_length_le (by omega)
            rw [ek, unhide HEQ]
            clear hsk ek
            go_wp2_with fail
            go_ret
            exact ⟨by simp, unhide B18⟩
end Go.Proofs.Ytnildacialaagaa
