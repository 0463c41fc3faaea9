/-
  The walk of the law on how two stamps stand.
-/
import Derived.Test.YtmgmmgjlagkdoaaDrawOrder
import Derived.Test.YtmgmmgjlagkdoaaBsMarks
import Derived.Test.YtmgmmgjlagkdoaaOrderMath
import Derived.Test.YtmgmmgjlagkdoaaJoinFace
import Derived.Test.YtmgmmgjlagkdoaaOrderS
set_option linter.unusedVariables false
namespace Go.Proofs.Ytmgmmgjlagkdoaa
open Go.RowKit Go.Maps Go.Deep

set_option maxRecDepth 20000 in
set_option maxHeartbeats 12800000 in
theorem order_walk (a a2 : Option Addr) (cap cap2 : Nat) (bs more : List UInt8) (w : World) (hl : bs.length ≤ maxLen) (hc : bs.length ≤ cap) (hb : ByIn w a bs) (hl2 : more.length ≤ maxLen) (hc2 : more.length ≤ cap2) (hb2 : ByIn w a2 more) :
    Calls Try.prog 5 #[.slice a bs.length cap, .slice a2 more.length cap2] w fun e w' => e = .returned (.bool true) ∧ Below w.heap.size w w' := by
  have HD := hide (drawOrder_any w a cap bs hl hc hb)
  have HD2 := hide (fun W (b : Below w.heap.size w W) => drawOrder_any W a2 cap2 more hl2 hc2 (hb2.up b))
  have hn : (bs.length : Int) ≤ 9223372036854775807 := by unfold maxLen at hl; omega
  have hm : (more.length : Int) ≤ 9223372036854775807 := by unfold maxLen at hl2; omega
  clear hl hc hb hl2 hc2 hb2
  generalize bs.length = n at *
  generalize more.length = mm at *
  by_cases h1 : (1048576 : Int) < (n : Int)
  · clear HD HD2
    go_enter Try.func5, Try.ntmps5
    go_wp2_with fail
    go_ret
    exact ⟨rfl, Below.refl _ _⟩
  by_cases h2 : (1048576 : Int) < (mm : Int)
  · clear HD HD2
    go_enter Try.func5, Try.ntmps5
    go_wp2_with fail
    go_ret
    exact ⟨rfl, Below.refl _ _⟩
  go_enter Try.func5, Try.ntmps5
  go_wp2_with fail
  refine (unhide HD).mono ?_
  rintro e w1 ⟨v, xs, u, ys, rfl, HV1, SX, HU1, SY, b1⟩
  have B1 := hide b1
  obtain ⟨va, vn, vc, rfl⟩ := (unhide HV1).form
  obtain ⟨ua, un, uc, rfl⟩ := (unhide HU1).form
  clear b1 HD
  go_wp2_with fail
  refine (unhide HD2 w1 (unhide B1)).mono ?_
  rintro e w2 ⟨v2, zs, u2, us, rfl, HZ, SZ, HW, SW, b2⟩
  have B2 := hide ((unhide B1).trans (b2.mono (unhide B1).size))
  have HV := hide ((unhide HV1).up b2)
  have HU := hide ((unhide HU1).up b2)
  clear b2 HD2 B1 HV1 HU1
  have HI1 := hide (implOrder_any xs _ ys _ w2 (unhide SX) (unhide SY) (unhide HV) (unhide HU))
  have HI2 := hide (fun W (b : Below w2.heap.size w2 W) => implOrder_any ys _ xs _ W (unhide SY) (unhide SX) ((unhide HU).up b) ((unhide HV).up b))
  have HI3 := hide (fun W (b : Below w2.heap.size w2 W) => specOrder_any xs _ ys _ W (unhide SX) (unhide SY) ((unhide HV).up b) ((unhide HU).up b))
  have HI4 := hide (fun W (b : Below w2.heap.size w2 W) => specStampOk_any xs _ W (unhide SX) ((unhide HV).up b))
  have HI5 := hide (fun W (b : Below w2.heap.size w2 W) => bsMarks_any xs _ ys _ W (unhide SX) (unhide SY) ((unhide HV).up b) ((unhide HU).up b))
  have HI6 := hide (fun W (b : Below w2.heap.size w2 W) => specJoin_any ys _ zs _ W (unhide SY) (unhide SZ) ((unhide HU).up b) ((unhide HZ).up b))
  have SJ := hide (small_join (unhide SY) (unhide SZ))
  have HI7 := hide (fun W (b : Below w2.heap.size w2 W) j (hj : MarkSRd W j (joinV ys zs)) => implOrder_any xs _ (joinV ys zs) j W (unhide SX) (unhide SJ) ((unhide HV).up b) hj)
  have HI8 := hide (fun W (b : Below w2.heap.size w2 W) => implOrder_any zs _ us _ W (unhide SZ) (unhide SW) ((unhide HZ).up b) ((unhide HW).up b))
  have HI9 := hide (fun W (b : Below w2.heap.size w2 W) => specOrder_any zs _ us _ W (unhide SZ) (unhide SW) ((unhide HZ).up b) ((unhide HW).up b))
  obtain ⟨za, zn, zc, rfl⟩ := (unhide HZ).form
  obtain ⟨wa, wn, wc, rfl⟩ := (unhide HW).form
  rw [order_swap xs ys] at HI2
  have HSM := hide (order_same xs ys)
  have HJ1 := hide (show joinOkB ys zs = true → orderOut xs ys = 1 → orderOut xs (joinV ys zs) = 1 from fun h1 h2 => by
    rw [show joinV ys zs = joinL ys zs by simp [joinV, h1]]
    exact order_join h2 h1)
  obtain ⟨r0, r1⟩ := order_range xs ys
  generalize orderOut zs us = oz at *
  generalize orderOut xs (joinV ys zs) = oj at *
  generalize orderOut xs ys = o at *
  generalize eqMk xs ys = eb at *
  generalize mstampB xs = sb at *
  clear HV HU HZ HW SX SY SZ SW SJ
  go_wp2_with fail
  refine (unhide HI1).mono ?_
  rintro e w3 ⟨rfl, b3⟩
  have B3 := hide ((unhide B2).trans (b3.mono (unhide B2).size))
  have C3 := hide b3
  clear b3 HI1 B2
  go_wp2_with fail
  refine (unhide HI2 w3 (unhide C3)).mono ?_
  rintro e w4 ⟨rfl, b4⟩
  have B4 := hide ((unhide B3).trans (b4.mono (unhide B3).size))
  have C4 := hide ((unhide C3).trans (b4.mono (unhide C3).size))
  clear b4 HI2 B3 C3
  have HI3' := hide (unhide HI3 w4 (unhide C4))
  clear HI3
  have HREST := hide (show ∀ W, Below w4.heap.size w4 W → Below w.heap.size w W ∧ Below w2.heap.size w2 W from fun W hb => ⟨(unhide B4).trans (hb.mono (unhide B4).size), (unhide C4).trans (hb.mono (unhide C4).size)⟩)
  clear B4 C4
  obtain rfl | rfl | rfl | rfl | rfl : o = 0 ∨ o = 1 ∨ o = 2 ∨ o = 3 ∨ o = 4 := by omega
  · have hs := unhide HSM
    rw [show swapO 0 = 0 from rfl]
    clear HSM r0 r1
    go_wp2_with fail
    refine (unhide HI3').mono ?_
    rintro e w5 ⟨rfl, b5⟩
    have D5 := hide b5
    clear b5 HI3'
    have hse : sb = true ∧ eb = true := by cases sb <;> cases eb <;> simp at hs ⊢
    obtain ⟨rfl, rfl⟩ := hse
    clear hs
    go_wp2_with fail
    refine (unhide HI4 w5 (unhide HREST _ (unhide D5)).2).mono ?_
    rintro e w6 ⟨rfl, b6⟩
    have D6 := hide ((unhide D5).trans (b6.mono (unhide D5).size))
    clear b6
    go_wp2_with fail
    refine (unhide HI5 w6 (unhide HREST _ (unhide D6)).2).mono ?_
    rintro e w7 ⟨rfl, b7⟩
    have D7 := hide ((unhide D6).trans (b7.mono (unhide D6).size))
    clear b7
    go_wp2_with fail
    refine (unhide HI6 w7 (unhide HREST _ (unhide D7)).2).mono ?_
    rintro e w8 ⟨j, rfl, RJ, b8⟩
    have D8 := hide ((unhide D7).trans (b8.mono (unhide D7).size))
    have RD := hide (unhide RJ).rd
    obtain ⟨ja, jl, jc, rfl⟩ := (unhide RD).form
    clear b8 RJ
    generalize joinOkB ys zs = jb at *
    clear HJ1
    cases jb
    · go_wp2_with fail
      go_ret
      exact ⟨by simp, (unhide HREST _ (unhide D8)).1⟩
    · go_wp2_with fail
      go_ret
      exact ⟨by simp, (unhide HREST _ (unhide D8)).1⟩
  · have hs := unhide HSM
    rw [show swapO 1 = 2 from rfl]
    clear HSM r0 r1
    go_wp2_with fail
    refine (unhide HI3').mono ?_
    rintro e w5 ⟨rfl, b5⟩
    have D5 := hide b5
    clear b5 HI3'
    cases sb
    · clear hs
      go_wp2_with fail
      refine (unhide HI4 w5 (unhide HREST _ (unhide D5)).2).mono ?_
      rintro e w6 ⟨rfl, b6⟩
      have D6 := hide ((unhide D5).trans (b6.mono (unhide D5).size))
      clear b6
      go_wp2_with fail
      refine (unhide HI6 w6 (unhide HREST _ (unhide D6)).2).mono ?_
      rintro e w8 ⟨j, rfl, RJ, b8⟩
      have D8 := hide ((unhide D6).trans (b8.mono (unhide D6).size))
      have RD := hide (unhide RJ).rd
      obtain ⟨ja, jl, jc, rfl⟩ := (unhide RD).form
      clear b8 RJ
      cases hj : joinOkB ys zs
      · clear hj HJ1
        go_wp2_with fail
        go_ret
        exact ⟨by simp, (unhide HREST _ (unhide D8)).1⟩
      obtain rfl := unhide HJ1 hj trivial
      clear hj HJ1
      go_wp2_with fail
      refine (unhide HI7 w8 (unhide HREST _ (unhide D8)).2 _ (unhide RD)).mono ?_
      rintro e w9 ⟨rfl, b9⟩
      have D9 := hide ((unhide D8).trans (b9.mono (unhide D8).size))
      clear b9
      go_wp2_with fail
      refine (unhide HI8 w9 (unhide HREST _ (unhide D9)).2).mono ?_
      rintro e w10 ⟨rfl, b10⟩
      have D10 := hide ((unhide D9).trans (b10.mono (unhide D9).size))
      clear b10
      go_wp2_with fail
      refine (unhide HI9 w10 (unhide HREST _ (unhide D10)).2).mono ?_
      rintro e w11 ⟨rfl, b11⟩
      have D11 := hide ((unhide D10).trans (b11.mono (unhide D10).size))
      clear b11
      go_wp2_with fail
      go_ret
      exact ⟨by simp, (unhide HREST _ (unhide D11)).1⟩
    · obtain rfl : eb = false := by cases eb <;> simp at hs ⊢
      clear hs
      go_wp2_with fail
      refine (unhide HI4 w5 (unhide HREST _ (unhide D5)).2).mono ?_
      rintro e w6 ⟨rfl, b6⟩
      have D6 := hide ((unhide D5).trans (b6.mono (unhide D5).size))
      clear b6
      go_wp2_with fail
      refine (unhide HI5 w6 (unhide HREST _ (unhide D6)).2).mono ?_
      rintro e w7 ⟨rfl, b7⟩
      have D7 := hide ((unhide D6).trans (b7.mono (unhide D6).size))
      clear b7
      go_wp2_with fail
      refine (unhide HI6 w7 (unhide HREST _ (unhide D7)).2).mono ?_
      rintro e w8 ⟨j, rfl, RJ, b8⟩
      have D8 := hide ((unhide D7).trans (b8.mono (unhide D7).size))
      have RD := hide (unhide RJ).rd
      obtain ⟨ja, jl, jc, rfl⟩ := (unhide RD).form
      clear b8 RJ
      cases hj : joinOkB ys zs
      · clear hj HJ1
        go_wp2_with fail
        go_ret
        exact ⟨by simp, (unhide HREST _ (unhide D8)).1⟩
      obtain rfl := unhide HJ1 hj trivial
      clear hj HJ1
      go_wp2_with fail
      refine (unhide HI7 w8 (unhide HREST _ (unhide D8)).2 _ (unhide RD)).mono ?_
      rintro e w9 ⟨rfl, b9⟩
      have D9 := hide ((unhide D8).trans (b9.mono (unhide D8).size))
      clear b9
      go_wp2_with fail
      refine (unhide HI8 w9 (unhide HREST _ (unhide D9)).2).mono ?_
      rintro e w10 ⟨rfl, b10⟩
      have D10 := hide ((unhide D9).trans (b10.mono (unhide D9).size))
      clear b10
      go_wp2_with fail
      refine (unhide HI9 w10 (unhide HREST _ (unhide D10)).2).mono ?_
      rintro e w11 ⟨rfl, b11⟩
      have D11 := hide ((unhide D10).trans (b11.mono (unhide D10).size))
      clear b11
      go_wp2_with fail
      go_ret
      exact ⟨by simp, (unhide HREST _ (unhide D11)).1⟩
  · have hs := unhide HSM
    rw [show swapO 2 = 1 from rfl]
    clear HSM r0 r1
    go_wp2_with fail
    refine (unhide HI3').mono ?_
    rintro e w5 ⟨rfl, b5⟩
    have D5 := hide b5
    clear b5 HI3'
    cases sb
    · clear hs
      go_wp2_with fail
      refine (unhide HI4 w5 (unhide HREST _ (unhide D5)).2).mono ?_
      rintro e w6 ⟨rfl, b6⟩
      have D6 := hide ((unhide D5).trans (b6.mono (unhide D5).size))
      clear b6
      go_wp2_with fail
      refine (unhide HI6 w6 (unhide HREST _ (unhide D6)).2).mono ?_
      rintro e w8 ⟨j, rfl, RJ, b8⟩
      have D8 := hide ((unhide D6).trans (b8.mono (unhide D6).size))
      have RD := hide (unhide RJ).rd
      obtain ⟨ja, jl, jc, rfl⟩ := (unhide RD).form
      clear b8 RJ
      generalize joinOkB ys zs = jb at *
      clear HJ1
      cases jb
      · go_wp2_with fail
        go_ret
        exact ⟨by simp, (unhide HREST _ (unhide D8)).1⟩
      · go_wp2_with fail
        go_ret
        exact ⟨by simp, (unhide HREST _ (unhide D8)).1⟩
    · obtain rfl : eb = false := by cases eb <;> simp at hs ⊢
      clear hs
      go_wp2_with fail
      refine (unhide HI4 w5 (unhide HREST _ (unhide D5)).2).mono ?_
      rintro e w6 ⟨rfl, b6⟩
      have D6 := hide ((unhide D5).trans (b6.mono (unhide D5).size))
      clear b6
      go_wp2_with fail
      refine (unhide HI5 w6 (unhide HREST _ (unhide D6)).2).mono ?_
      rintro e w7 ⟨rfl, b7⟩
      have D7 := hide ((unhide D6).trans (b7.mono (unhide D6).size))
      clear b7
      go_wp2_with fail
      refine (unhide HI6 w7 (unhide HREST _ (unhide D7)).2).mono ?_
      rintro e w8 ⟨j, rfl, RJ, b8⟩
      have D8 := hide ((unhide D7).trans (b8.mono (unhide D7).size))
      have RD := hide (unhide RJ).rd
      obtain ⟨ja, jl, jc, rfl⟩ := (unhide RD).form
      clear b8 RJ
      generalize joinOkB ys zs = jb at *
      clear HJ1
      cases jb
      · go_wp2_with fail
        go_ret
        exact ⟨by simp, (unhide HREST _ (unhide D8)).1⟩
      · go_wp2_with fail
        go_ret
        exact ⟨by simp, (unhide HREST _ (unhide D8)).1⟩
  · have hs := unhide HSM
    rw [show swapO 3 = 3 from rfl]
    clear HSM r0 r1
    go_wp2_with fail
    refine (unhide HI3').mono ?_
    rintro e w5 ⟨rfl, b5⟩
    have D5 := hide b5
    clear b5 HI3'
    cases sb
    · clear hs
      go_wp2_with fail
      refine (unhide HI4 w5 (unhide HREST _ (unhide D5)).2).mono ?_
      rintro e w6 ⟨rfl, b6⟩
      have D6 := hide ((unhide D5).trans (b6.mono (unhide D5).size))
      clear b6
      go_wp2_with fail
      refine (unhide HI6 w6 (unhide HREST _ (unhide D6)).2).mono ?_
      rintro e w8 ⟨j, rfl, RJ, b8⟩
      have D8 := hide ((unhide D6).trans (b8.mono (unhide D6).size))
      have RD := hide (unhide RJ).rd
      obtain ⟨ja, jl, jc, rfl⟩ := (unhide RD).form
      clear b8 RJ
      generalize joinOkB ys zs = jb at *
      clear HJ1
      cases jb
      · go_wp2_with fail
        go_ret
        exact ⟨by simp, (unhide HREST _ (unhide D8)).1⟩
      · go_wp2_with fail
        go_ret
        exact ⟨by simp, (unhide HREST _ (unhide D8)).1⟩
    · obtain rfl : eb = false := by cases eb <;> simp at hs ⊢
      clear hs
      go_wp2_with fail
      refine (unhide HI4 w5 (unhide HREST _ (unhide D5)).2).mono ?_
      rintro e w6 ⟨rfl, b6⟩
      have D6 := hide ((unhide D5).trans (b6.mono (unhide D5).size))
      clear b6
      go_wp2_with fail
      refine (unhide HI5 w6 (unhide HREST _ (unhide D6)).2).mono ?_
      rintro e w7 ⟨rfl, b7⟩
      have D7 := hide ((unhide D6).trans (b7.mono (unhide D6).size))
      clear b7
      go_wp2_with fail
      refine (unhide HI6 w7 (unhide HREST _ (unhide D7)).2).mono ?_
      rintro e w8 ⟨j, rfl, RJ, b8⟩
      have D8 := hide ((unhide D7).trans (b8.mono (unhide D7).size))
      have RD := hide (unhide RJ).rd
      obtain ⟨ja, jl, jc, rfl⟩ := (unhide RD).form
      clear b8 RJ
      generalize joinOkB ys zs = jb at *
      clear HJ1
      cases jb
      · go_wp2_with fail
        go_ret
        exact ⟨by simp, (unhide HREST _ (unhide D8)).1⟩
      · go_wp2_with fail
        go_ret
        exact ⟨by simp, (unhide HREST _ (unhide D8)).1⟩
  · have hs := unhide HSM
    rw [show swapO 4 = 4 from rfl]
    clear HSM r0 r1
    go_wp2_with fail
    refine (unhide HI3').mono ?_
    rintro e w5 ⟨rfl, b5⟩
    have D5 := hide b5
    clear b5 HI3'
    cases sb
    · clear hs
      go_wp2_with fail
      refine (unhide HI4 w5 (unhide HREST _ (unhide D5)).2).mono ?_
      rintro e w6 ⟨rfl, b6⟩
      have D6 := hide ((unhide D5).trans (b6.mono (unhide D5).size))
      clear b6
      go_wp2_with fail
      refine (unhide HI6 w6 (unhide HREST _ (unhide D6)).2).mono ?_
      rintro e w8 ⟨j, rfl, RJ, b8⟩
      have D8 := hide ((unhide D6).trans (b8.mono (unhide D6).size))
      have RD := hide (unhide RJ).rd
      obtain ⟨ja, jl, jc, rfl⟩ := (unhide RD).form
      clear b8 RJ
      generalize joinOkB ys zs = jb at *
      clear HJ1
      cases jb
      · go_wp2_with fail
        go_ret
        exact ⟨by simp, (unhide HREST _ (unhide D8)).1⟩
      · go_wp2_with fail
        go_ret
        exact ⟨by simp, (unhide HREST _ (unhide D8)).1⟩
    · obtain rfl : eb = false := by cases eb <;> simp at hs ⊢
      clear hs
      go_wp2_with fail
      refine (unhide HI4 w5 (unhide HREST _ (unhide D5)).2).mono ?_
      rintro e w6 ⟨rfl, b6⟩
      have D6 := hide ((unhide D5).trans (b6.mono (unhide D5).size))
      clear b6
      go_wp2_with fail
      refine (unhide HI5 w6 (unhide HREST _ (unhide D6)).2).mono ?_
      rintro e w7 ⟨rfl, b7⟩
      have D7 := hide ((unhide D6).trans (b7.mono (unhide D6).size))
      clear b7
      go_wp2_with fail
      refine (unhide HI6 w7 (unhide HREST _ (unhide D7)).2).mono ?_
      rintro e w8 ⟨j, rfl, RJ, b8⟩
      have D8 := hide ((unhide D7).trans (b8.mono (unhide D7).size))
      have RD := hide (unhide RJ).rd
      obtain ⟨ja, jl, jc, rfl⟩ := (unhide RD).form
      clear b8 RJ
      generalize joinOkB ys zs = jb at *
      clear HJ1
      cases jb
      · go_wp2_with fail
        go_ret
        exact ⟨by simp, (unhide HREST _ (unhide D8)).1⟩
      · go_wp2_with fail
        go_ret
        exact ⟨by simp, (unhide HREST _ (unhide D8)).1⟩
end Go.Proofs.Ytmgmmgjlagkdoaa
