/-
  The walk of the law on words that are written as lines and read back. (Made by wip/mklineback.py.)
-/
import Derived.Test.YtiebfcefmdiajaaGreatDoorMerged54
import Derived.Test.YtiebfcefmdiajaaGreatDoorMerged34
import Derived.Test.YtiebfcefmdiajaaGreatDoorMerged45
import Derived.Test.YtiebfcefmdiajaaGreatDoorMerged51
set_option linter.unusedVariables false
namespace Go.Proofs.YtiebfcefmdiajaaGreatDoor
open Go.RowKit Go.Maps Go.Deep

theorem small_lnOut (t : ByteArray) : SmallSay (lnOut t) := by
  unfold lnOut
  split
  · rename_i h
    refine loose_small ?_
    unfold lnB at h
    simp only [Bool.and_eq_true, decide_eq_true_eq] at h
    omega
  · exact ⟨⟨by decide, by simp [sayNone, VerSmall]⟩, ⟨by decide, by simp [sayNone], fun x hx => by simp [sayNone] at hx⟩, by simp [sayNone], by simp [sayNone], by simp [sayNone], by simp [sayNone]⟩
theorem ln_own {t : ByteArray} (h : lnB t = true) : lineOut (lnOut t) = t := by
  have h' := h
  unfold lnB at h'
  simp only [Bool.and_eq_true, decide_eq_true_eq] at h'
  unfold lnOut
  rw [if_pos h]
  unfold lineOut
  rw [if_pos h'.2.1]
  exact h'.2.2
/-- a word's line, read again -/
theorem line_read {s : SayV} (hv : F64 s.val) : lnB (lineOut s) = sayOkB s ∧ (sayOkB s = true → lnOut (lineOut s) = s) := by
  cases h : sayOkB s
  · rw [lineOut_none h]
    exact ⟨ln_empty.1, by simp⟩
  · obtain ⟨-, h1, h2, h3⟩ := own_line h hv
    rw [h1]
    exact ⟨h2, fun _ => h3⟩
set_option maxHeartbeats 25600000 in
set_option maxRecDepth 20000 in
theorem lineBack_walk (a : Option Addr) (cap : Nat) (bs : List UInt8) (a2 : Option Addr) (cap2 : Nat) (more : List UInt8) (w : World) (hl : bs.length ≤ maxLen) (hc : bs.length ≤ cap) (hb : ByIn w a bs) (hl2 : more.length ≤ maxLen) (hc2 : more.length ≤ cap2) (hb2 : ByIn w a2 more) (hE : ErrIn w) (hP : PowIn w) :
    Calls Tryz.prog 4 #[.slice a bs.length cap, .slice a2 more.length cap2] w fun e w' => e = .returned (.bool true) ∧ Below w.heap.size w w' := by
  have HD := hide (drawSln_any w a cap bs hl hc hb)
  have HD2 := hide (fun (W : World) (q : Below w.heap.size w W) => drawLine_any W a2 cap2 more hl2 hc2 (hb2.up q))
  have hn : (bs.length : Int) ≤ 9223372036854775807 := by unfold maxLen at hl; omega
  have hm : (more.length : Int) ≤ 9223372036854775807 := by unfold maxLen at hl2; omega
  have HE := hide hE
  have HP := hide hP
  clear hl hc hb hl2 hc2 hb2 hE hP
  by_cases h1 : (1048576 : Int) < (bs.length : Int)
  · clear HD HD2 HE HP
    generalize bs.length = n at *
    generalize more.length = m at *
    go_enter Tryz.func4, Tryz.ntmps4
    go_wp2_with fail
    go_ret
    exact ⟨rfl, Below.refl _ _⟩
  by_cases h2 : (1048576 : Int) < (more.length : Int)
  · clear HD HD2 HE HP
    generalize bs.length = n at *
    generalize more.length = m at *
    go_enter Tryz.func4, Tryz.ntmps4
    go_wp2_with fail
    go_ret
    exact ⟨rfl, Below.refl _ _⟩
  generalize bs.length = n at *
  generalize more.length = m at *
  go_enter Tryz.func4, Tryz.ntmps4
  go_wp2_with fail
  refine (unhide HD).mono ?_
  rintro e w1 ⟨sk, sf, st, sn, sl, sa, sm, sc, s, rfl, R1, F1, b1⟩
  have SM := hide (unhide F1).small
  have HV := hide (show F64 s.val from (unhide F1).2.2.2.2.1)
  have bb := allocB w1 (.cells #[.int .i64 sk, .int .i64 sf, .int .i64 st, .string sn, .int .i64 sl, .slice sa sm sc] 24)
  have BX := hide (boxF_new w1 [.int .i64 sk, .int .i64 sf, .int .i64 st, .string sn, .int .i64 sl, .slice sa sm sc] 24)
  simp only [List.toArray] at BX
  have R2 := hide ((unhide R1).up bb)
  have B2 := hide (b1.trans (bb.mono b1.size))
  clear bb b1 R1 HD F1
  go_wp2_with fail
  generalize w1.alloc (.cells #[.int .i64 sk, .int .i64 sf, .int .i64 st, .string sn, .int .i64 sl, .slice sa sm sc] 24) = W2 at *
  generalize w1.heap.size = gs at *
  refine (implSayLine_any s _ W2 (unhide SM) (unhide R2) ((unhide HP).below (unhide B2) (Nat.le_refl _))).mono ?_
  rintro e w3 ⟨rfl, b3⟩
  have B3 := hide ((unhide B2).trans (b3.mono (unhide B2).size))
  have R3 := hide ((unhide R2).up b3)
  have BX3 := hide ((unhide BX).up b3)
  clear b3 B2 R2 BX
  have HSL := hide (specLine_any s _ w3 (unhide SM) (unhide R3))
  have HRT := hide (line_read (unhide HV))
  have hlz := lineOut_size (unhide HV)
  have HLT2 := hide (fun (W : World) (v : Value) (q : Below w3.heap.size w3 W) => specSayOk_any s v W (unhide SM))
  generalize hlo : lineOut s = lt at *
  clear hlo
  obtain ⟨⟨y0, y1, y2, y3, y4, y5⟩, -⟩ := six33 (unhide BX3)
  go_wp2_with fail
  refine (unhide HSL).mono ?_
  rintro e w4 ⟨rfl, b4⟩
  have B4 := hide ((unhide B3).trans (b4.mono (unhide B3).size))
  have R4 := hide ((unhide R3).up b4)
  have BX4 := hide ((unhide BX3).up b4)
  have HIF := hide (implFrom_any lt w4 (by omega) ((unhide HE).below (unhide B4) (Nat.le_refl _)) ((unhide HP).below (unhide B4) (Nat.le_refl _)))
  unfold RetSf at HIF
  rw [(unhide HRT).1] at HIF
  clear b4 B3 R3 BX3 y0 y1 y2 y3 y4 y5 HSL
  go_wp2_with fail
  refine (unhide HIF).mono ?_
  rintro e w5 ⟨tv, TS, rfl, TO, _, b5⟩
  have TR := hide (unhide TO).rd
  obtain ⟨tk, tf, tt, tn, tl, ta, tm, tc, rfl⟩ := (unhide TR).form
  have bz := allocB w5 (.cells #[.int .i64 tk, .int .i64 tf, .int .i64 tt, .string tn, .int .i64 tl, .slice ta tm tc] 24)
  have B6 := hide (((unhide B4).trans (b5.mono (unhide B4).size)).trans (bz.mono ((unhide B4).trans (b5.mono (unhide B4).size)).size))
  have R6 := hide (((unhide R4).up b5).up bz)
  have BX6 := hide (((unhide BX4).up b5).up bz)
  have TR6 := hide ((unhide TR).up bz)
  have TB6 := hide (boxF_new w5 [.int .i64 tk, .int .i64 tf, .int .i64 tt, .string tn, .int .i64 tl, .slice ta tm tc] 24)
  simp only [List.toArray] at TB6
  clear b5 bz B4 R4 BX4 TO TR HIF
  obtain ⟨⟨y0, y1, y2, y3, y4, y5⟩, -⟩ := six33 (unhide BX6)
  obtain ⟨⟨z0, z1, z2, z3, z4, z5⟩, -⟩ := six33 (unhide TB6)
  go_wp2_with fail
  generalize w5.alloc (.cells #[.int .i64 tk, .int .i64 tf, .int .i64 tt, .string tn, .int .i64 tl, .slice ta tm tc] 24) = W6 at *
  generalize w5.heap.size = gt at *
  refine (specSayOk_any s _ W6 (unhide SM) (unhide R6)).mono ?_
  rintro e w7 ⟨rfl, b7⟩
  have B7 := hide ((unhide B6).trans (b7.mono (unhide B6).size))
  have R7 := hide ((unhide R6).up b7)
  have BX7 := hide ((unhide BX6).up b7)
  have TR7 := hide ((unhide TR6).up b7)
  have TB7 := hide ((unhide TB6).up b7)
  clear b7 B6 R6 BX6 TR6 TB6 y0 y1 y2 y3 y4 y5 z0 z1 z2 z3 z4 z5
  cases hok : sayOkB s
  · clear hok HRT
    go_wp2_with fail
    refine (unhide HD2 w7 (unhide B7)).mono ?_
    rintro e v1 ⟨ln, rfl, hln, d1⟩
    have BQ1 := hide ((unhide B7).trans (d1.mono (unhide B7).size))
    have HIF := hide (implFrom_any ln v1 (by omega) ((unhide HE).below (unhide BQ1) (Nat.le_refl _)) ((unhide HP).below (unhide BQ1) (Nat.le_refl _)))
    have HSF := hide (fun (W : World) => specFrom_any ln W (by omega))
    have HYS := hide (fun (h : lnB ln = true) => ln_own h)
    have SMO := hide (small_lnOut ln)
    clear d1 HD2
    unfold RetSf at HIF HSF
    generalize lnOut ln = so at *
    generalize lnB ln = sb at *
    go_wp2_with fail
    refine (unhide HIF).mono ?_
    rintro e v2 ⟨xv, XS, rfl, XO, _, d2⟩
    have XR := hide (unhide XO).rd
    obtain ⟨xk, xf, xt, xn, xl, xa, xm, xc, rfl⟩ := (unhide XR).form
    have dz := allocB v2 (.cells #[.int .i64 xk, .int .i64 xf, .int .i64 xt, .string xn, .int .i64 xl, .slice xa xm xc] 24)
    have BQ3 := hide (((unhide BQ1).trans (d2.mono (unhide BQ1).size)).trans (dz.mono ((unhide BQ1).trans (d2.mono (unhide BQ1).size)).size))
    have XR3 := hide ((unhide XR).up dz)
    have XB := hide (boxF_new v2 [.int .i64 xk, .int .i64 xf, .int .i64 xt, .string xn, .int .i64 xl, .slice xa xm xc] 24)
    simp only [List.toArray] at XB
    clear d2 dz XO XR BQ1 HIF
    go_wp2_with fail
    generalize v2.alloc (.cells #[.int .i64 xk, .int .i64 xf, .int .i64 xt, .string xn, .int .i64 xl, .slice xa xm xc] 24) = V3 at *
    generalize v2.heap.size = gx at *
    refine (unhide HSF V3).mono ?_
    rintro e v4 ⟨yv, YS, rfl, YO, _, d4⟩
    have YR := hide (unhide YO).rd
    obtain ⟨yk, yf, yt, yn, yl, ya, ym, yc, rfl⟩ := (unhide YR).form
    have dy := allocB v4 (.cells #[.int .i64 yk, .int .i64 yf, .int .i64 yt, .string yn, .int .i64 yl, .slice ya ym yc] 24)
    have BQ5 := hide (((unhide BQ3).trans (d4.mono (unhide BQ3).size)).trans (dy.mono ((unhide BQ3).trans (d4.mono (unhide BQ3).size)).size))
    have XR5 := hide (((unhide XR3).up d4).up dy)
    have XB5 := hide (((unhide XB).up d4).up dy)
    have YR5 := hide ((unhide YR).up dy)
    have YB5 := hide (boxF_new v4 [.int .i64 yk, .int .i64 yf, .int .i64 yt, .string yn, .int .i64 yl, .slice ya ym yc] 24)
    simp only [List.toArray] at YB5
    clear d4 dy YO YR XB XR3 BQ3 HSF
    have HLE := hide (leSay_same so _ _ _ (unhide SMO).1.2.1 (unhide XR5) (unhide YR5))
    obtain ⟨⟨x0, x1, x2, x3, x4, x5⟩, -⟩ := six33 (unhide XB5)
    obtain ⟨⟨y0, y1, y2, y3, y4, y5⟩, -⟩ := six33 (unhide YB5)
    go_wp2_with fail
    generalize v4.alloc (.cells #[.int .i64 yk, .int .i64 yf, .int .i64 yt, .string yn, .int .i64 yl, .slice ya ym yc] 24) = V5 at *
    refine (unhide HLE).mono ?_
    rintro e v6 ⟨rfl, d6⟩
    have BQ6 := hide ((unhide BQ5).trans (d6.mono (unhide BQ5).size))
    have XR6 := hide ((unhide XR5).up d6)
    have XB6 := hide ((unhide XB5).up d6)
    clear d6 x0 x1 x2 x3 x4 x5 y0 y1 y2 y3 y4 y5 HLE XR5 XB5 YR5 YB5
    cases sb
    · go_wp2_with fail
      go_ret
      exact ⟨by simp, unhide BQ6⟩
    obtain ⟨⟨x0, x1, x2, x3, x4, x5⟩, -⟩ := six33 (unhide XB6)
    have HY := hide (unhide HYS rfl)
    go_wp2_with fail
    refine (implSayLine_any so _ v6 (unhide SMO) (unhide XR6) ((unhide HP).below (unhide BQ6) (Nat.le_refl _))).mono ?_
    rintro e v7 ⟨rfl, d7⟩
    rw [unhide HY]
    have BQ7 := hide ((unhide BQ6).trans (d7.mono (unhide BQ6).size))
    clear d7 x0 x1 x2 x3 x4 x5
    go_wp2_with fail
    go_ret
    exact ⟨by simp, unhide BQ7⟩
  · have HTT := hide (show Hid (SayRd w7 (.agg #[.int .i64 tk, .int .i64 tf, .int .i64 tt, .string tn, .int .i64 tl, .slice ta tm tc]) s) from hide (by have := unhide TR7; rw [(unhide HRT).2 hok] at this; exact this))
    have HLT := hide (leSay_same s _ _ _ (show s.stamp.length ≤ 1048576 from (unhide SM).1.2.1) (unhide (unhide HTT)) (unhide R7))
    clear hok HRT HTT
    obtain ⟨⟨y0, y1, y2, y3, y4, y5⟩, -⟩ := six33 (unhide BX7)
    obtain ⟨⟨z0, z1, z2, z3, z4, z5⟩, -⟩ := six33 (unhide TB7)
    go_wp2_with fail
    refine (unhide HLT).mono ?_
    rintro e w8 ⟨rfl, b8⟩
    have B8 := hide ((unhide B7).trans (b8.mono (unhide B7).size))
    clear b8 y0 y1 y2 y3 y4 y5 z0 z1 z2 z3 z4 z5 BX7 TB7 TR7 R7 B7 HLT
    go_wp2_with fail
    refine (unhide HD2 w8 (unhide B8)).mono ?_
    rintro e v1 ⟨ln, rfl, hln, d1⟩
    have BQ1 := hide ((unhide B8).trans (d1.mono (unhide B8).size))
    have HIF := hide (implFrom_any ln v1 (by omega) ((unhide HE).below (unhide BQ1) (Nat.le_refl _)) ((unhide HP).below (unhide BQ1) (Nat.le_refl _)))
    have HSF := hide (fun (W : World) => specFrom_any ln W (by omega))
    have HYS := hide (fun (h : lnB ln = true) => ln_own h)
    have SMO := hide (small_lnOut ln)
    clear d1 HD2
    unfold RetSf at HIF HSF
    generalize lnOut ln = so at *
    generalize lnB ln = sb at *
    go_wp2_with fail
    refine (unhide HIF).mono ?_
    rintro e v2 ⟨xv, XS, rfl, XO, _, d2⟩
    have XR := hide (unhide XO).rd
    obtain ⟨xk, xf, xt, xn, xl, xa, xm, xc, rfl⟩ := (unhide XR).form
    have dz := allocB v2 (.cells #[.int .i64 xk, .int .i64 xf, .int .i64 xt, .string xn, .int .i64 xl, .slice xa xm xc] 24)
    have BQ3 := hide (((unhide BQ1).trans (d2.mono (unhide BQ1).size)).trans (dz.mono ((unhide BQ1).trans (d2.mono (unhide BQ1).size)).size))
    have XR3 := hide ((unhide XR).up dz)
    have XB := hide (boxF_new v2 [.int .i64 xk, .int .i64 xf, .int .i64 xt, .string xn, .int .i64 xl, .slice xa xm xc] 24)
    simp only [List.toArray] at XB
    clear d2 dz XO XR BQ1 HIF
    go_wp2_with fail
    generalize v2.alloc (.cells #[.int .i64 xk, .int .i64 xf, .int .i64 xt, .string xn, .int .i64 xl, .slice xa xm xc] 24) = V3 at *
    generalize v2.heap.size = gx at *
    refine (unhide HSF V3).mono ?_
    rintro e v4 ⟨yv, YS, rfl, YO, _, d4⟩
    have YR := hide (unhide YO).rd
    obtain ⟨yk, yf, yt, yn, yl, ya, ym, yc, rfl⟩ := (unhide YR).form
    have dy := allocB v4 (.cells #[.int .i64 yk, .int .i64 yf, .int .i64 yt, .string yn, .int .i64 yl, .slice ya ym yc] 24)
    have BQ5 := hide (((unhide BQ3).trans (d4.mono (unhide BQ3).size)).trans (dy.mono ((unhide BQ3).trans (d4.mono (unhide BQ3).size)).size))
    have XR5 := hide (((unhide XR3).up d4).up dy)
    have XB5 := hide (((unhide XB).up d4).up dy)
    have YR5 := hide ((unhide YR).up dy)
    have YB5 := hide (boxF_new v4 [.int .i64 yk, .int .i64 yf, .int .i64 yt, .string yn, .int .i64 yl, .slice ya ym yc] 24)
    simp only [List.toArray] at YB5
    clear d4 dy YO YR XB XR3 BQ3 HSF
    have HLE := hide (leSay_same so _ _ _ (unhide SMO).1.2.1 (unhide XR5) (unhide YR5))
    obtain ⟨⟨x0, x1, x2, x3, x4, x5⟩, -⟩ := six33 (unhide XB5)
    obtain ⟨⟨y0, y1, y2, y3, y4, y5⟩, -⟩ := six33 (unhide YB5)
    go_wp2_with fail
    generalize v4.alloc (.cells #[.int .i64 yk, .int .i64 yf, .int .i64 yt, .string yn, .int .i64 yl, .slice ya ym yc] 24) = V5 at *
    refine (unhide HLE).mono ?_
    rintro e v6 ⟨rfl, d6⟩
    have BQ6 := hide ((unhide BQ5).trans (d6.mono (unhide BQ5).size))
    have XR6 := hide ((unhide XR5).up d6)
    have XB6 := hide ((unhide XB5).up d6)
    clear d6 x0 x1 x2 x3 x4 x5 y0 y1 y2 y3 y4 y5 HLE XR5 XB5 YR5 YB5
    cases sb
    · go_wp2_with fail
      go_ret
      exact ⟨by simp, unhide BQ6⟩
    obtain ⟨⟨x0, x1, x2, x3, x4, x5⟩, -⟩ := six33 (unhide XB6)
    have HY := hide (unhide HYS rfl)
    go_wp2_with fail
    refine (implSayLine_any so _ v6 (unhide SMO) (unhide XR6) ((unhide HP).below (unhide BQ6) (Nat.le_refl _))).mono ?_
    rintro e v7 ⟨rfl, d7⟩
    rw [unhide HY]
    have BQ7 := hide ((unhide BQ6).trans (d7.mono (unhide BQ6).size))
    clear d7 x0 x1 x2 x3 x4 x5
    go_wp2_with fail
    go_ret
    exact ⟨by simp, unhide BQ7⟩
end Go.Proofs.YtiebfcefmdiajaaGreatDoor
