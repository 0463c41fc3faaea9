/-
  The walk of the law on words that are written as bytes and read back. (Made by wip/mksayback.py.)
-/
import Derived.Test.YtfbijhddcecpkaaDraw33B
import Derived.Test.YtfbijhddcecpkaaSayBackM
import Derived.Test.YtfbijhddcecpkaaSayReadK
import Derived.Test.YtfbijhddcecpkaaSayBytesJ
import Derived.Test.YtfbijhddcecpkaaLeSay
set_option linter.unusedVariables false
namespace Go.Proofs.Ytfbijhddcecpkaa
open Go.RowKit Go.Maps Go.Deep

set_option maxHeartbeats 25600000 in
set_option maxRecDepth 20000 in
theorem sayBack_walk (a a2 : Option Addr) (cap cap2 : Nat) (bs more : List UInt8) (w : World) (hl : bs.length ≤ maxLen) (hc : bs.length ≤ cap) (hb : ByIn w a bs) (hl2 : more.length ≤ maxLen) (hc2 : more.length ≤ cap2) (hb2 : ByIn w a2 more) :
    Calls Try.prog 3 #[.slice a bs.length cap, .slice a2 more.length cap2] w fun e w' => e = .returned (.bool true) ∧ Below w.heap.size w w' := by
  have HD := hide (drawSay_any w a cap bs hl hc hb)
  have HD2 := hide (fun (W : World) (q : Below w.heap.size w W) => drawSayRd_any W a2 cap2 more hl2 hc2 (hb2.up q))
  have hn : (bs.length : Int) ≤ 9223372036854775807 := by unfold maxLen at hl; omega
  have hm : (more.length : Int) ≤ 9223372036854775807 := by unfold maxLen at hl2; omega
  clear hl hc hb hl2 hc2 hb2
  by_cases h1 : (1048576 : Int) < (bs.length : Int)
  · clear HD HD2
    generalize bs.length = n at *
    generalize more.length = m at *
    go_enter Try.func3, Try.ntmps3
    go_wp2_with fail
    go_ret
    exact ⟨rfl, Below.refl _ _⟩
  by_cases h2 : (1048576 : Int) < (more.length : Int)
  · clear HD HD2
    generalize bs.length = n at *
    generalize more.length = m at *
    go_enter Try.func3, Try.ntmps3
    go_wp2_with fail
    go_ret
    exact ⟨rfl, Below.refl _ _⟩
  generalize bs.length = n at *
  generalize more.length = m at *
  go_enter Try.func3, Try.ntmps3
  go_wp2_with fail
  refine (unhide HD).mono ?_
  rintro e w1 ⟨sk, sf, st, sn, sl, sa, sm, sc, s, rfl, R1, F1, b1⟩
  have SM := hide (unhide F1).small
  have HV := hide (unhide F1).2.2.2.2.1
  have bb := allocB w1 (.cells #[.int .i64 sk, .int .i64 sf, .int .i64 st, .string sn, .int .i64 sl, .slice sa sm sc] 25)
  have BX := hide (boxF_new w1 [.int .i64 sk, .int .i64 sf, .int .i64 st, .string sn, .int .i64 sl, .slice sa sm sc] 25)
  simp only [List.toArray] at BX
  have R2 := hide ((unhide R1).up bb)
  have B2 := hide (b1.trans (bb.mono b1.size))
  clear bb b1 R1 HD F1
  go_wp2_with fail
  generalize w1.alloc (.cells #[.int .i64 sk, .int .i64 sf, .int .i64 st, .string sn, .int .i64 sl, .slice sa sm sc] 25) = W2 at *
  generalize w1.heap.size = gs at *
  refine (implSayBytes_any s _ W2 (unhide SM) (unhide R2)).mono ?_
  rintro e w3 ⟨x1, n1, c1, rfl, hr1, b3⟩
  have B3 := hide ((unhide B2).trans (b3.mono (unhide B2).size))
  have R3 := hide ((unhide R2).up b3)
  have BX3 := hide ((unhide BX).up b3)
  have RD3 := hide hr1.rd
  have HN1 := hide (rowB_len hr1)
  clear b3 B2 R2 BX hr1
  obtain ⟨⟨y0, y1, y2, y3, y4, y5⟩, -⟩ := six33 (unhide BX3)
  have HS4 := hide (fun (W : World) (q : Below w3.heap.size w3 W) => specSayOk_any s _ W (unhide SM) ((unhide R3).up q))
  have HI4 := hide (fun (W : World) (q : Below w3.heap.size w3 W) => implSayOk_any s _ W (unhide SM) ((unhide R3).up q))
  have HLL := hide (sayBytesL_len s)
  cases hok : sayOkB s
  · rw [hok] at HS4 HI4
    go_wp2_with fail
    refine (unhide HS4 w3 (Below.refl _ _)).mono ?_
    rintro e w4 ⟨rfl, b4⟩
    have BX4 := hide ((unhide BX3).up b4)
    have B4 := hide b4
    clear b4 y0 y1 y2 y3 y4 y5
    obtain ⟨⟨y0, y1, y2, y3, y4, y5⟩, -⟩ := six33 (unhide BX4)
    go_wp2_with fail
    refine (unhide HI4 w4 (unhide B4)).mono ?_
    rintro e w5 ⟨rfl, b5⟩
    have BQ0 := hide ((unhide B4).trans (b5.mono (unhide B4).size))
    have BQ := hide ((unhide B3).trans ((unhide BQ0).mono (unhide B3).size))
    clear y0 y1 y2 y3 y4 y5 HS4 HI4 B4
    clear b5 BX4 BX3 R3 RD3 HN1 HLL hok B3 BQ0
    go_wp2_with fail
    refine (unhide HD2 w5 (unhide BQ)).mono ?_
    rintro e v1 ⟨ra, rn, rc, raw, rfl, RR1, RL1, d1⟩
    have BQ1 := hide ((unhide BQ).trans (d1.mono (unhide BQ).size))
    have RW1 := hide (unhide RR1).rd
    have HRS := hide (show SmallByteS raw from (by have := unhide RL1; show raw.length ≤ 1048576; omega))
    clear d1 RR1 RL1 HD2
    go_wp2_with fail
    refine (implSayRead_kit raw _ v1 (unhide HRS) (unhide RW1)).mono ?_
    rintro e v2 ⟨xv, XS, rfl, XO, _, d2⟩
    have XR := hide (unhide XO).rd
    obtain ⟨xk, xf, xt, xn, xl, xa, xm, xc, rfl⟩ := (unhide XR).form
    have dz := allocB v2 (.cells #[.int .i64 xk, .int .i64 xf, .int .i64 xt, .string xn, .int .i64 xl, .slice xa xm xc] 25)
    have BQ3 := hide (((unhide BQ1).trans (d2.mono (unhide BQ1).size)).trans (dz.mono ((unhide BQ1).trans (d2.mono (unhide BQ1).size)).size))
    have RW3 := hide (((unhide RW1).up d2).up dz)
    have XR3 := hide ((unhide XR).up dz)
    have XB := hide (boxF_new v2 [.int .i64 xk, .int .i64 xf, .int .i64 xt, .string xn, .int .i64 xl, .slice xa xm xc] 25)
    simp only [List.toArray] at XB
    clear d2 dz XO XR BQ1 RW1
    go_wp2_with fail
    generalize v2.alloc (.cells #[.int .i64 xk, .int .i64 xf, .int .i64 xt, .string xn, .int .i64 xl, .slice xa xm xc] 25) = V3 at *
    generalize v2.heap.size = gx at *
    refine (specSayRead_kit raw _ V3 (unhide HRS) (unhide RW3)).mono ?_
    rintro e v4 ⟨yv, rfl, YR, d4⟩
    obtain ⟨yk, yf, yt, yn, yl, ya, ym, yc, rfl⟩ := (unhide YR).form
    have dy := allocB v4 (.cells #[.int .i64 yk, .int .i64 yf, .int .i64 yt, .string yn, .int .i64 yl, .slice ya ym yc] 25)
    have BQ5 := hide (((unhide BQ3).trans (d4.mono (unhide BQ3).size)).trans (dy.mono ((unhide BQ3).trans (d4.mono (unhide BQ3).size)).size))
    have RW5 := hide (((unhide RW3).up d4).up dy)
    have XR5 := hide (((unhide XR3).up d4).up dy)
    have XB5 := hide (((unhide XB).up d4).up dy)
    have YR5 := hide ((unhide YR).up dy)
    have YB5 := hide (boxF_new v4 [.int .i64 yk, .int .i64 yf, .int .i64 yt, .string yn, .int .i64 yl, .slice ya ym yc] 25)
    simp only [List.toArray] at YB5
    clear d4 dy YR XB XR3 RW3 BQ3
    have HLE := hide (leSay_same (sayV raw) _ _ _ (show (sayV raw).stamp.length ≤ 1048576 from (small_sayV raw).1.2.1) (unhide XR5) (unhide YR5))
    obtain ⟨⟨x0, x1, x2, x3, x4, x5⟩, -⟩ := six33 (unhide XB5)
    obtain ⟨⟨y0, y1, y2, y3, y4, y5⟩, -⟩ := six33 (unhide YB5)
    cases hrd : sayIs raw
    · clear hrd
      go_wp2_with fail
      generalize v4.alloc (.cells #[.int .i64 yk, .int .i64 yf, .int .i64 yt, .string yn, .int .i64 yl, .slice ya ym yc] 25) = V5 at *
      refine (unhide HLE).mono ?_
      rintro e v6 ⟨rfl, d6⟩
      have BQ6 := hide ((unhide BQ5).trans (d6.mono (unhide BQ5).size))
      clear d6 x0 x1 x2 x3 x4 x5 y0 y1 y2 y3 y4 y5
      go_wp2_with fail
      go_ret
      exact ⟨by simp, unhide BQ6⟩
    · have HAG := hide (show sayOkB (sayV raw) = true ∧ sayBytesL (sayV raw) = raw from by
        unfold sayIs at hrd
        obtain ⟨s', hs'⟩ := Option.isSome_iff_exists.1 hrd
        obtain ⟨q1, q2, _⟩ := say_again hs'
        have : sayV raw = s' := by unfold sayV; rw [hs']; rfl
        rw [this]
        exact ⟨q1, (sayAll_some q1).trans q2⟩)
      clear hrd
      go_wp2_with fail
      generalize v4.alloc (.cells #[.int .i64 yk, .int .i64 yf, .int .i64 yt, .string yn, .int .i64 yl, .slice ya ym yc] 25) = V5 at *
      refine (unhide HLE).mono ?_
      rintro e v6 ⟨rfl, d6⟩
      have BQ6 := hide ((unhide BQ5).trans (d6.mono (unhide BQ5).size))
      have RW6 := hide ((unhide RW5).up d6)
      have XR6 := hide ((unhide XR5).up d6)
      have XB6 := hide ((unhide XB5).up d6)
      clear d6 x0 x1 x2 x3 x4 x5 y0 y1 y2 y3 y4 y5
      obtain ⟨⟨x0, x1, x2, x3, x4, x5⟩, -⟩ := six33 (unhide XB6)
      go_wp2_with fail
      refine (implSayBytes_any (sayV raw) _ v6 (small_sayV raw) (unhide XR6)).mono ?_
      rintro e v7 ⟨ga, gn, gc, rfl, gr, d7⟩
      rw [(unhide HAG).2] at gr
      rw [(unhide HAG).1]
      have BQ7 := hide ((unhide BQ6).trans (d7.mono (unhide BQ6).size))
      have cv7 := conv_back gr.rd
      have cv8 := conv_back ((unhide RW6).up d7)
      clear gr d7 x0 x1 x2 x3 x4 x5 RW6 XR6 XB6
      generalize (⟨raw.toArray⟩ : ByteArray) = rst at *
      go_wp2_with fail
      go_ret
      exact ⟨by simp, unhide BQ7⟩
  · rw [hok] at HS4 HI4
    go_wp2_with fail
    refine (unhide HS4 w3 (Below.refl _ _)).mono ?_
    rintro e w4 ⟨rfl, b4⟩
    have BX4 := hide ((unhide BX3).up b4)
    have B4 := hide b4
    clear b4 y0 y1 y2 y3 y4 y5
    obtain ⟨⟨y0, y1, y2, y3, y4, y5⟩, -⟩ := six33 (unhide BX4)
    go_wp2_with fail
    refine (unhide HI4 w4 (unhide B4)).mono ?_
    rintro e w5 ⟨rfl, b5⟩
    have BQ0 := hide ((unhide B4).trans (b5.mono (unhide B4).size))
    have BQ := hide ((unhide B3).trans ((unhide BQ0).mono (unhide B3).size))
    clear y0 y1 y2 y3 y4 y5 HS4 HI4 B4
    have HEQ := hide (sayAll_some hok)
    have HBK := hide (say_back hok (unhide HV))
    have BX5 := hide ((unhide BX4).up b5)
    have R5 := hide ((unhide R3).up (unhide BQ0))
    have RD5 := hide ((unhide RD3).up (unhide BQ0))
    have HSB := hide (show SmallByteS (sayBytesL s) from (by have := unhide HLL; show (sayBytesL s).length ≤ 1048576; omega))
    have hn1 : n1 ≤ 212 := by rw [unhide HN1]; exact unhide HLL
    have HIS := hide (show sayIs (sayBytesL s) = true from by unfold sayIs; rw [unhide HEQ, unhide HBK]; rfl)
    have HVS := hide (show sayV (sayBytesL s) = s from by unfold sayV; rw [unhide HEQ, unhide HBK]; rfl)
    clear b5 BX4 BX3 R3 RD3 hok B3 BQ0 HEQ HBK
    go_wp2_with fail
    refine (implSayRead_kit (sayBytesL s) _ w5 (unhide HSB) (unhide RD5)).mono ?_
    rintro e w6 ⟨tv, TS, rfl, TO, _, b6⟩
    rw [unhide HVS] at TO
    rw [unhide HIS]
    have TR := hide (unhide TO).rd
    obtain ⟨tk, tf, tt, tn, tl, ta, tm, tc, rfl⟩ := (unhide TR).form
    have bz := allocB w6 (.cells #[.int .i64 tk, .int .i64 tf, .int .i64 tt, .string tn, .int .i64 tl, .slice ta tm tc] 25)
    have BQ7 := hide (((unhide BQ).trans (b6.mono (unhide BQ).size)).trans (bz.mono ((unhide BQ).trans (b6.mono (unhide BQ).size)).size))
    have TR7 := hide ((unhide TR).up bz)
    have R7 := hide (((unhide R5).up b6).up bz)
    have BX7 := hide (((unhide BX5).up b6).up bz)
    have TB7 := hide (boxF_new w6 [.int .i64 tk, .int .i64 tf, .int .i64 tt, .string tn, .int .i64 tl, .slice ta tm tc] 25)
    simp only [List.toArray] at TB7
    clear b6 bz TO TR BQ BX5 R5 RD5 HVS HIS HSB HLL HN1
    have HLT := hide (leSay_same s _ _ _ (show s.stamp.length ≤ 1048576 from (unhide SM).1.2.1) (unhide TR7) (unhide R7))
    obtain ⟨⟨y0, y1, y2, y3, y4, y5⟩, -⟩ := six33 (unhide BX7)
    obtain ⟨⟨z0, z1, z2, z3, z4, z5⟩, -⟩ := six33 (unhide TB7)
    go_wp2_with fail
    generalize w6.alloc (.cells #[.int .i64 tk, .int .i64 tf, .int .i64 tt, .string tn, .int .i64 tl, .slice ta tm tc] 25) = W7 at *
    refine (unhide HLT).mono ?_
    rintro e w8 ⟨rfl, b8⟩
    have BQ8 := hide ((unhide BQ7).trans (b8.mono (unhide BQ7).size))
    clear b8 y0 y1 y2 y3 y4 y5 z0 z1 z2 z3 z4 z5 BX7 TB7 TR7 R7 BQ7 HLT
    go_wp2_with fail
    refine (unhide HD2 w8 (unhide BQ8)).mono ?_
    rintro e v1 ⟨ra, rn, rc, raw, rfl, RR1, RL1, d1⟩
    have BQ1 := hide ((unhide BQ8).trans (d1.mono (unhide BQ8).size))
    have RW1 := hide (unhide RR1).rd
    have HRS := hide (show SmallByteS raw from (by have := unhide RL1; show raw.length ≤ 1048576; omega))
    clear d1 RR1 RL1 HD2
    go_wp2_with fail
    refine (implSayRead_kit raw _ v1 (unhide HRS) (unhide RW1)).mono ?_
    rintro e v2 ⟨xv, XS, rfl, XO, _, d2⟩
    have XR := hide (unhide XO).rd
    obtain ⟨xk, xf, xt, xn, xl, xa, xm, xc, rfl⟩ := (unhide XR).form
    have dz := allocB v2 (.cells #[.int .i64 xk, .int .i64 xf, .int .i64 xt, .string xn, .int .i64 xl, .slice xa xm xc] 25)
    have BQ3 := hide (((unhide BQ1).trans (d2.mono (unhide BQ1).size)).trans (dz.mono ((unhide BQ1).trans (d2.mono (unhide BQ1).size)).size))
    have RW3 := hide (((unhide RW1).up d2).up dz)
    have XR3 := hide ((unhide XR).up dz)
    have XB := hide (boxF_new v2 [.int .i64 xk, .int .i64 xf, .int .i64 xt, .string xn, .int .i64 xl, .slice xa xm xc] 25)
    simp only [List.toArray] at XB
    clear d2 dz XO XR BQ1 RW1
    go_wp2_with fail
    generalize v2.alloc (.cells #[.int .i64 xk, .int .i64 xf, .int .i64 xt, .string xn, .int .i64 xl, .slice xa xm xc] 25) = V3 at *
    generalize v2.heap.size = gx at *
    refine (specSayRead_kit raw _ V3 (unhide HRS) (unhide RW3)).mono ?_
    rintro e v4 ⟨yv, rfl, YR, d4⟩
    obtain ⟨yk, yf, yt, yn, yl, ya, ym, yc, rfl⟩ := (unhide YR).form
    have dy := allocB v4 (.cells #[.int .i64 yk, .int .i64 yf, .int .i64 yt, .string yn, .int .i64 yl, .slice ya ym yc] 25)
    have BQ5 := hide (((unhide BQ3).trans (d4.mono (unhide BQ3).size)).trans (dy.mono ((unhide BQ3).trans (d4.mono (unhide BQ3).size)).size))
    have RW5 := hide (((unhide RW3).up d4).up dy)
    have XR5 := hide (((unhide XR3).up d4).up dy)
    have XB5 := hide (((unhide XB).up d4).up dy)
    have YR5 := hide ((unhide YR).up dy)
    have YB5 := hide (boxF_new v4 [.int .i64 yk, .int .i64 yf, .int .i64 yt, .string yn, .int .i64 yl, .slice ya ym yc] 25)
    simp only [List.toArray] at YB5
    clear d4 dy YR XB XR3 RW3 BQ3
    have HLE := hide (leSay_same (sayV raw) _ _ _ (show (sayV raw).stamp.length ≤ 1048576 from (small_sayV raw).1.2.1) (unhide XR5) (unhide YR5))
    obtain ⟨⟨x0, x1, x2, x3, x4, x5⟩, -⟩ := six33 (unhide XB5)
    obtain ⟨⟨y0, y1, y2, y3, y4, y5⟩, -⟩ := six33 (unhide YB5)
    cases hrd : sayIs raw
    · clear hrd
      go_wp2_with fail
      generalize v4.alloc (.cells #[.int .i64 yk, .int .i64 yf, .int .i64 yt, .string yn, .int .i64 yl, .slice ya ym yc] 25) = V5 at *
      refine (unhide HLE).mono ?_
      rintro e v6 ⟨rfl, d6⟩
      have BQ6 := hide ((unhide BQ5).trans (d6.mono (unhide BQ5).size))
      clear d6 x0 x1 x2 x3 x4 x5 y0 y1 y2 y3 y4 y5
      go_wp2_with fail
      go_ret
      exact ⟨by simp, unhide BQ6⟩
    · have HAG := hide (show sayOkB (sayV raw) = true ∧ sayBytesL (sayV raw) = raw from by
        unfold sayIs at hrd
        obtain ⟨s', hs'⟩ := Option.isSome_iff_exists.1 hrd
        obtain ⟨q1, q2, _⟩ := say_again hs'
        have : sayV raw = s' := by unfold sayV; rw [hs']; rfl
        rw [this]
        exact ⟨q1, (sayAll_some q1).trans q2⟩)
      clear hrd
      go_wp2_with fail
      generalize v4.alloc (.cells #[.int .i64 yk, .int .i64 yf, .int .i64 yt, .string yn, .int .i64 yl, .slice ya ym yc] 25) = V5 at *
      refine (unhide HLE).mono ?_
      rintro e v6 ⟨rfl, d6⟩
      have BQ6 := hide ((unhide BQ5).trans (d6.mono (unhide BQ5).size))
      have RW6 := hide ((unhide RW5).up d6)
      have XR6 := hide ((unhide XR5).up d6)
      have XB6 := hide ((unhide XB5).up d6)
      clear d6 x0 x1 x2 x3 x4 x5 y0 y1 y2 y3 y4 y5
      obtain ⟨⟨x0, x1, x2, x3, x4, x5⟩, -⟩ := six33 (unhide XB6)
      go_wp2_with fail
      refine (implSayBytes_any (sayV raw) _ v6 (small_sayV raw) (unhide XR6)).mono ?_
      rintro e v7 ⟨ga, gn, gc, rfl, gr, d7⟩
      rw [(unhide HAG).2] at gr
      rw [(unhide HAG).1]
      have BQ7 := hide ((unhide BQ6).trans (d7.mono (unhide BQ6).size))
      have cv7 := conv_back gr.rd
      have cv8 := conv_back ((unhide RW6).up d7)
      clear gr d7 x0 x1 x2 x3 x4 x5 RW6 XR6 XB6
      generalize (⟨raw.toArray⟩ : ByteArray) = rst at *
      go_wp2_with fail
      go_ret
      exact ⟨by simp, unhide BQ7⟩
end Go.Proofs.Ytfbijhddcecpkaa
