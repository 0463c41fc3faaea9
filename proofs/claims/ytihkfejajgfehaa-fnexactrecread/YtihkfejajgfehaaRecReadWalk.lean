/-
  The walk of the law on RecRead, over the specification's contract.
-/
import Derived.Test.YtihkfejajgfehaaRecMathS
import Derived.Test.YtihkfejajgfehaaRecLaw
import Derived.Test.YtihkfejajgfehaaByArg
import Derived.Handy
namespace Go.Proofs.Ytihkfejajgfehaa.fnExactRecRead
open Go.ChangeShapes Go.WideShapes Go.ChangeAt Go.RowKit Go.Deep Go.Maps
set_option linter.unusedVariables false

theorem readVal_form (o : Option (RecV × Nat)) : ∃ k nm nu tx, ∃ n : Int, ∃ b, readVal o = .tuple #[.agg #[.int .i64 k, .string nm, .int .i64 nu, .string tx], .int .i64 n, .bool b] := by
  cases o with
  | none => exact ⟨_, _, _, _, _, _, rfl⟩
  | some p => obtain ⟨r, n⟩ := p; exact ⟨_, _, _, _, _, _, rfl⟩
set_option maxHeartbeats 800000 in
theorem eqRec_any (k nu : Int) (nm tx : ByteArray) (w : World) : Calls Try.prog 15 #[.agg #[.int .i64 k, .string nm, .int .i64 nu, .string tx], .agg #[.int .i64 k, .string nm, .int .i64 nu, .string tx]] w fun e w' => e = .returned (.bool true) ∧ Below w.heap.size w w' := by
  go_enter Try.func15, Try.ntmps15
  go_wp2
  go_returns
  exact ⟨rfl, by go_grown⟩

set_option maxHeartbeats 3200000 in
theorem walk (a : Option Addr) (cap : Nat) (bs : List UInt8) (w : World) (hl : bs.length ≤ maxLen) (hlc : bs.length ≤ cap) (hn : ByIn w a bs) (hs : ∀ v W, bs.length ≤ 1048576 → ByRd W v bs → Calls Try.prog 12 #[v] W fun e w' => RetRead bs W e w') :
    Calls Try.prog 4 #[.slice a bs.length cap] w fun e w' => e = .returned (.bool true) ∧ Below w.heap.size w w' := by
  have HN := hide hn
  have HL := hide hl
  unfold maxLen at hl
  have HS := hide hs
  clear hn hs
  by_cases h0 : (bs.length : Int) ≤ 1048576
  · have h1 : bs.length ≤ 1048576 := by omega
    go_enter Try.func4, Try.ntmps4
    go_wp2_with fail
    refine (toByteS_own w a cap bs h1 (unhide HN)).mono ?_
    rintro e w1 ⟨rfl, m1, z1, b1⟩
    have M1 := hide m1
    have B1 := hide b1
    clear m1 b1
    go_wp2_with fail
    refine (unhide HS _ w1 h1 (unhide M1).rd).mono ?_
    rintro e w2 ⟨o, rfl, IO, b2⟩
    have B2 := hide ((unhide B1).trans (b2.mono (unhide B1).size))
    clear b2 M1 B1
    obtain ⟨k, nm, nu, tx, n, bb, hV⟩ := readVal_form o
    have HV := hide hV
    rw [hV]
    clear hV
    go_wp2_with fail
    obtain ⟨bx3, b3, z3⟩ := boxNew4 w2 (.int .i64 k) (.string nm) (.int .i64 nu) (.string tx) 28
    have hg3 : w2.heap.size = w2.heap.size := rfl
    generalize w2.alloc (.cells #[.int .i64 k, .string nm, .int .i64 nu, .string tx] 28) = w3 at *
    generalize w2.heap.size = g3 at bx3 z3 ⊢
    have X3 := hide bx3
    have B3 := hide ((unhide B2).trans (b3.mono (unhide B2).size))
    clear bx3 b3 B2 z3 hg3
    refine (toByteS_own w3 a cap bs h1 ((unhide HN).up (unhide B3))).mono ?_
    rintro e w4 ⟨rfl, m4, z4, b4⟩
    have M4 := hide m4
    have X4 := hide ((unhide X3).up b4)
    have B4 := hide ((unhide B3).trans (b4.mono (unhide B3).size))
    clear m4 b4 X3 B3
    go_wp2_with fail
    refine (implRead_any _ bs w4 h1 (unhide M4).rd).mono ?_
    rintro e w5 ⟨o', rfl, IO', b5⟩
    have M5 := hide ((unhide M4).up b5)
    have X5 := hide ((unhide X4).up b5)
    have B5 := hide ((unhide B4).trans (b5.mono (unhide B4).size))
    clear b5 M4 B4 X4
    obtain rfl := isRead_same (unhide IO) (unhide IO')
    rw [unhide HV]
    clear IO IO' HV
    obtain ⟨bx6, b6, z6⟩ := boxNew4 w5 (.int .i64 k) (.string nm) (.int .i64 nu) (.string tx) 28
    have X6 := hide ((unhide X5).up b6)
    have Y6 := hide bx6
    have M6 := hide ((unhide M5).up b6)
    have B6 := hide ((unhide B5).trans (b6.mono (unhide B5).size))
    clear X5 M5 B5
    obtain ⟨x0, x1, x2, x3⟩ := (unhide X6).four
    obtain ⟨y0, y1, y2, y3⟩ := bx6.four
    go_wp2_with fail
    refine (eqRec_any k nu nm tx _).mono ?_
    rintro e w7 ⟨rfl, b7⟩
    have M7 := hide ((unhide M6).up b7)
    have B7 := hide ((unhide B6).trans (b7.mono (unhide B6).size))
    clear b7 M6 B6 X6 Y6 x0 x1 x2 x3 y0 y1 y2 y3 bx6 b6 z6
    go_wp2_with fail
    refine (toByteS_own w7 a cap bs h1 ((unhide HN).up (unhide B7))).mono ?_
    rintro e w8 ⟨rfl, m8, z8, b8⟩
    have M8 := hide m8
    have M78 := hide ((unhide M7).up b8)
    have B8 := hide ((unhide B7).trans (b8.mono (unhide B7).size))
    clear m8 b8 M7 B7
    go_wp2_with fail
    refine (eqByteS_same _ _ _ bs (unhide HL) (unhide M78).rd (unhide M8).rd).mono ?_
    rintro e w9 ⟨rfl, b9⟩
    have B9 := hide ((unhide B8).trans (b9.mono (unhide B8).size))
    clear b9
    go_wp2_with fail
    go_ret
    exact ⟨rfl, unhide B9⟩
  · go_enter Try.func4, Try.ntmps4
    go_wp2_with fail
    go_ret
    exact ⟨rfl, Below.refl _ _⟩
end Go.Proofs.Ytihkfejajgfehaa.fnExactRecRead
