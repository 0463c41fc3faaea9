/-
  The walk of the law on a word's bytes and its line. (Made by wip/mksayboth.py.)
-/
import Derived.Test.YtiebfcefmdiajaaGreatDoorMerged18
import Derived.Test.YtiebfcefmdiajaaGreatDoorSayBackM
import Derived.Test.YtiebfcefmdiajaaGreatDoorMerged31
import Derived.Test.YtiebfcefmdiajaaGreatDoorSayBytesJ
import Derived.Test.YtiebfcefmdiajaaGreatDoorMerged34
import Derived.Test.YtiebfcefmdiajaaGreatDoorMerged45
import Derived.Test.YtiebfcefmdiajaaGreatDoorMerged51
set_option linter.unusedVariables false
namespace Go.Proofs.YtiebfcefmdiajaaGreatDoor
open Go.RowKit Go.Maps Go.Deep

set_option maxHeartbeats 25600000 in
set_option maxRecDepth 20000 in
theorem sayBoth_walk (a : Option Addr) (cap : Nat) (bs : List UInt8) (w : World) (hl : bs.length ≤ maxLen) (hc : bs.length ≤ cap) (hb : ByIn w a bs) (hE : ErrIn w) (hP : PowIn w) :
    Calls Tryz.prog 5 #[.slice a bs.length cap] w fun e w' => e = .returned (.bool true) ∧ Below w.heap.size w w' := by
  have HD := hide (drawSayRd_any w a cap bs hl hc hb)
  have hn : (bs.length : Int) ≤ 9223372036854775807 := by unfold maxLen at hl; omega
  have HE := hide hE
  have HP := hide hP
  clear hl hc hb hE hP
  by_cases h1 : (1048576 : Int) < (bs.length : Int)
  · clear HD HE HP
    generalize bs.length = n at *
    go_enter Tryz.func5, Tryz.ntmps5
    go_wp2_with fail
    go_ret
    exact ⟨rfl, Below.refl _ _⟩
  generalize bs.length = n at *
  go_enter Tryz.func5, Tryz.ntmps5
  go_wp2_with fail
  refine (unhide HD).mono ?_
  rintro e v1 ⟨ra, rn, rc, raw, rfl, RR1, RL1, d1⟩
  have BQ1 := hide d1
  have RW1 := hide (unhide RR1).rd
  have HRS := hide (show SmallByteS raw from (by have := unhide RL1; show raw.length ≤ 1048576; omega))
  clear d1 RR1 RL1 HD
  go_wp2_with fail
  refine (implSayRead_kit raw _ v1 (unhide HRS) (unhide RW1)).mono ?_
  rintro e v2 ⟨xv, XS, rfl, XO, _, d2⟩
  have XR := hide (unhide XO).rd
  obtain ⟨xk, xf, xt, xn, xl, xa, xm, xc, rfl⟩ := (unhide XR).form
  have dz := allocB v2 (.cells #[.int .i64 xk, .int .i64 xf, .int .i64 xt, .string xn, .int .i64 xl, .slice xa xm xc] 24)
  have BQ3 := hide (((unhide BQ1).trans (d2.mono (unhide BQ1).size)).trans (dz.mono ((unhide BQ1).trans (d2.mono (unhide BQ1).size)).size))
  have RW3 := hide (((unhide RW1).up d2).up dz)
  have XR3 := hide ((unhide XR).up dz)
  have XB := hide (boxF_new v2 [.int .i64 xk, .int .i64 xf, .int .i64 xt, .string xn, .int .i64 xl, .slice xa xm xc] 24)
  simp only [List.toArray] at XB
  clear d2 dz XO XR BQ1 RW1
  go_wp2_with fail
  generalize v2.alloc (.cells #[.int .i64 xk, .int .i64 xf, .int .i64 xt, .string xn, .int .i64 xl, .slice xa xm xc] 24) = V3 at *
  generalize v2.heap.size = gx at *
  refine (specSayRead_kit raw _ V3 (unhide HRS) (unhide RW3)).mono ?_
  rintro e v4 ⟨yv, rfl, YR, d4⟩
  obtain ⟨yk, yf, yt, yn, yl, ya, ym, yc, rfl⟩ := (unhide YR).form
  have dy := allocB v4 (.cells #[.int .i64 yk, .int .i64 yf, .int .i64 yt, .string yn, .int .i64 yl, .slice ya ym yc] 24)
  have BQ5 := hide (((unhide BQ3).trans (d4.mono (unhide BQ3).size)).trans (dy.mono ((unhide BQ3).trans (d4.mono (unhide BQ3).size)).size))
  have RW5 := hide (((unhide RW3).up d4).up dy)
  have XR5 := hide (((unhide XR3).up d4).up dy)
  have XB5 := hide (((unhide XB).up d4).up dy)
  have YR5 := hide ((unhide YR).up dy)
  have YB5 := hide (boxF_new v4 [.int .i64 yk, .int .i64 yf, .int .i64 yt, .string yn, .int .i64 yl, .slice ya ym yc] 24)
  simp only [List.toArray] at YB5
  clear d4 dy YR XB XR3 RW3 BQ3
  have HLE := hide (leSay_same (sayV raw) _ _ _ (show (sayV raw).stamp.length ≤ 1048576 from (small_sayV raw).1.2.1) (unhide XR5) (unhide YR5))
  obtain ⟨⟨x0, x1, x2, x3, x4, x5⟩, -⟩ := six33 (unhide XB5)
  obtain ⟨⟨y0, y1, y2, y3, y4, y5⟩, -⟩ := six33 (unhide YB5)
  cases hrd : sayIs raw
  · clear hrd
    go_wp2_with fail
    generalize v4.alloc (.cells #[.int .i64 yk, .int .i64 yf, .int .i64 yt, .string yn, .int .i64 yl, .slice ya ym yc] 24) = V5 at *
    refine (unhide HLE).mono ?_
    rintro e v6 ⟨rfl, d6⟩
    have BQ6 := hide ((unhide BQ5).trans (d6.mono (unhide BQ5).size))
    clear d6 x0 x1 x2 x3 x4 x5 y0 y1 y2 y3 y4 y5
    go_wp2_with fail
    go_ret
    exact ⟨by simp, unhide BQ6⟩
  have HAG := hide (show sayOkB (sayV raw) = true ∧ sayBytesL (sayV raw) = raw from by
    unfold sayIs at hrd
    obtain ⟨s', hs'⟩ := Option.isSome_iff_exists.1 hrd
    obtain ⟨q1, q2, _⟩ := say_again hs'
    have : sayV raw = s' := by unfold sayV; rw [hs']; rfl
    rw [this]
    exact ⟨q1, (sayAll_some q1).trans q2⟩)
  have HLT := hide (own_line (unhide HAG).1 (small_sayV raw).2.2.2.2.2)
  clear hrd
  go_wp2_with fail
  generalize v4.alloc (.cells #[.int .i64 yk, .int .i64 yf, .int .i64 yt, .string yn, .int .i64 yl, .slice ya ym yc] 24) = V5 at *
  refine (unhide HLE).mono ?_
  rintro e v6 ⟨rfl, d6⟩
  have BQ6 := hide ((unhide BQ5).trans (d6.mono (unhide BQ5).size))
  have RW6 := hide ((unhide RW5).up d6)
  have XR6 := hide ((unhide XR5).up d6)
  have XB6 := hide ((unhide XB5).up d6)
  clear d6 x0 x1 x2 x3 x4 x5 y0 y1 y2 y3 y4 y5 BQ5 RW5 XR5 XB5 YR5 YB5 HLE
  obtain ⟨⟨x0, x1, x2, x3, x4, x5⟩, -⟩ := six33 (unhide XB6)
  go_wp2_with fail
  refine (implSayLine_any (sayV raw) _ v6 (small_sayV raw) (unhide XR6) ((unhide HP).below (unhide BQ6) (Nat.le_refl _))).mono ?_
  rintro e v7 ⟨rfl, d7⟩
  rw [(unhide HLT).2.1]
  have BQ7 := hide ((unhide BQ6).trans (d7.mono (unhide BQ6).size))
  have RW7 := hide ((unhide RW6).up d7)
  have HFR := hide (implFrom_any (lineT (sayV raw)) v7 (by have := (unhide HLT).1; omega) ((unhide HE).below (unhide BQ7) (Nat.le_refl _)) ((unhide HP).below (unhide BQ7) (Nat.le_refl _)))
  unfold RetSf at HFR
  rw [(unhide HLT).2.2.1, (unhide HLT).2.2.2] at HFR
  clear d7 x0 x1 x2 x3 x4 x5 BQ6 RW6 XR6 XB6 HE HP HLT
  generalize lineT (sayV raw) = lt at *
  go_wp2_with fail
  refine (unhide HFR).mono ?_
  rintro e v8 ⟨uv, US, rfl, UO, _, d8⟩
  have UR := hide (unhide UO).rd
  obtain ⟨uk, uf, ut, un, ul, ua, um, uc, rfl⟩ := (unhide UR).form
  have dz := allocB v8 (.cells #[.int .i64 uk, .int .i64 uf, .int .i64 ut, .string un, .int .i64 ul, .slice ua um uc] 24)
  have BQ9 := hide (((unhide BQ7).trans (d8.mono (unhide BQ7).size)).trans (dz.mono ((unhide BQ7).trans (d8.mono (unhide BQ7).size)).size))
  have RW9 := hide (((unhide RW7).up d8).up dz)
  have UR9 := hide ((unhide UR).up dz)
  have UB9 := hide (boxF_new v8 [.int .i64 uk, .int .i64 uf, .int .i64 ut, .string un, .int .i64 ul, .slice ua um uc] 24)
  simp only [List.toArray] at UB9
  clear d8 dz UO UR BQ7 RW7 HFR
  obtain ⟨⟨x0, x1, x2, x3, x4, x5⟩, -⟩ := six33 (unhide UB9)
  go_wp2_with fail
  generalize v8.alloc (.cells #[.int .i64 uk, .int .i64 uf, .int .i64 ut, .string un, .int .i64 ul, .slice ua um uc] 24) = V9 at *
  refine (implSayBytes_any (sayV raw) _ V9 (small_sayV raw) (unhide UR9)).mono ?_
  rintro e va ⟨ga, gn, gc, rfl, gr, da⟩
  rw [(unhide HAG).2] at gr
  rw [(unhide HAG).1]
  have BQa := hide ((unhide BQ9).trans (da.mono (unhide BQ9).size))
  have cv7 := conv_back gr.rd
  have cv8 := conv_back ((unhide RW9).up da)
  clear gr da x0 x1 x2 x3 x4 x5 RW9 UR9 UB9
  generalize (⟨raw.toArray⟩ : ByteArray) = rst at *
  go_wp2_with fail
  go_ret
  exact ⟨by simp, unhide BQa⟩
end Go.Proofs.YtiebfcefmdiajaaGreatDoor
