/-
  The walk of the law that a record is read back.
-/
import Derived.Test.YtmlcglkdipigpaaRecBack
set_option linter.unusedVariables false
namespace Go.Proofs.Ytmlcglkdipigpaa
open Go.RowKit Go.Maps Go.Deep

set_option maxHeartbeats 6400000 in
set_option maxRecDepth 20000 in
theorem recBack_walk (a a2 : Option Addr) (cap cap2 : Nat) (bs more : List UInt8) (w : World) (hl : bs.length ≤ maxLen) (hc : bs.length ≤ cap) (hb : ByIn w a bs) (hl2 : more.length ≤ maxLen) (hc2 : more.length ≤ cap2) (hb2 : ByIn w a2 more) :
    Calls Try.prog 3 #[.slice a bs.length cap, .slice a2 more.length cap2] w fun e w' => e = .returned (.bool true) ∧ Below w.heap.size w w' := by
  have HD := hide (drawRec_any w a cap bs hl hc hb)
  have HM := hide (show ByRd w (.slice a2 more.length cap2) more from ⟨a2, cap2, rfl, hb2, hc2⟩)
  have hn : (bs.length : Int) ≤ 9223372036854775807 := by unfold maxLen at hl; omega
  have hm : (more.length : Int) ≤ 9223372036854775807 := by unfold maxLen at hl2; omega
  clear hl hc hb hl2 hc2 hb2
  by_cases h1 : (1048576 : Int) < (bs.length : Int)
  · clear HD HM
    generalize bs.length = n at *
    generalize more.length = m at *
    go_enter Try.func3, Try.ntmps3
    go_wp2_with fail
    go_ret
    exact ⟨rfl, Below.refl _ _⟩
  by_cases h2 : (1048576 : Int) < (more.length : Int)
  · clear HD HM
    generalize bs.length = n at *
    generalize more.length = m at *
    go_enter Try.func3, Try.ntmps3
    go_wp2_with fail
    go_ret
    exact ⟨rfl, Below.refl _ _⟩
  have hml : Hid (more.length ≤ 1048576) := hide (by omega)
  obtain ⟨m, HMN⟩ : ∃ m, Hid (more.length = m) := ⟨_, rfl⟩
  rw [unhide HMN] at HM h2 hm ⊢
  generalize bs.length = n at *
  go_enter Try.func3, Try.ntmps3
  go_wp2_with fail
  refine (unhide HD).mono ?_
  rintro e w1 ⟨r, rfl, HF, b1⟩
  have B1 := hide b1
  have BX := boxF_new4 w1 (.int .i64 r.kind) (.string r.name) (.int .i64 r.num) (.string r.text) 24
  have bb := (Below.refl w1.heap.size w1).alloc (Nat.le_refl _) (.cells #[.int .i64 r.kind, .string r.name, .int .i64 r.num, .string r.text] 24)
  have BX1 := hide BX
  have B2 := hide ((unhide B1).trans (bb.mono (unhide B1).size))
  have HIM := hide (fun W => implRecBytes_any r W (unhide HF))
  have HSP := hide (fun W => specRecBytes_any r W (unhide HF))
  have HOK := hide (fun W => implRecOk_any r W (unhide HF))
  have HCM := fun W => cmpRec_same r W
  have hgd : Try.prog.eqGuardType Try.prog.depth 24 = false := by kernel_rfl
  have HBK := hide (fun (hok : recOkB r = true) (o : Option (RecV × Nat)) (h : IsRead (recAll r ++ more) o) => read_back (unhide HF) hok more h)
  have HL0 := hide (show recOkB r = false → recBytesL r = [] from fun h => by simp [recBytesL, h])
  have HL1 := hide (show recOkB r = true → recBytesL r = recAll r ∧ (recAll r).length ≤ 222 from fun h => ⟨by simp [recBytesL, h], rec_len h⟩)
  unfold recVal at HIM HSP HOK HCM ⊢
  clear BX bb b1 HD B1
  go_wp2_with fail
  generalize w1.alloc (.cells #[.int .i64 r.kind, .string r.name, .int .i64 r.num, .string r.text] 24) = W at *
  generalize w1.heap.size = g at *
  refine (unhide HIM W).mono ?_
  rintro e w2 ⟨x1, n1, c1, rfl, hr1, b2⟩
  have R1 := hide (hr1.mono (unhide B2).size)
  have B3 := hide ((unhide B2).trans (b2.mono (unhide B2).size))
  have BX2 := hide ((unhide BX1).up b2)
  obtain ⟨⟨y0, y1, y2, y3⟩, -⟩ := (unhide BX2).four
  clear hr1 b2 B2 BX1 HIM
  go_wp2_with fail
  refine (unhide HSP w2).mono ?_
  rintro e w3 ⟨x2, n2, c2, rfl, hr2, b3⟩
  have R2 := hide ((unhide R1).up b3)
  have B4 := hide ((unhide B3).trans (b3.mono (unhide B3).size))
  have BX3 := hide ((unhide BX2).up b3)
  have cv1 := conv_back (unhide R2).rd
  have cv2 := conv_back hr2.rd
  have hn1 : Hid (n1 = (recBytesL r).length) := by
    obtain ⟨_, _, e⟩ := (unhide R2).slice
    simp only [Value.slice.injEq] at e
    exact hide e.2.1
  clear y0 y1 y2 y3 hr2 b3 B3 BX2 R1 HSP
  obtain ⟨⟨y0, y1, y2, y3⟩, -⟩ := (unhide BX3).four
  have HOK3 := hide (unhide HOK w3)
  cases hok : recOkB r
  · rw [hok] at HOK3
    have hz := hide (show n1 = 0 by rw [unhide hn1, unhide HL0 hok]; rfl)
    generalize (⟨(recBytesL r).toArray⟩ : ByteArray) = st at *
    have q0 : ((n1 : Int) == 0) = true := by rw [unhide hz]; rfl
    clear hok HL0 HL1 HBK HCM
    go_wp2_with fail
    refine (unhide HOK3).mono ?_
    rintro e w4 ⟨rfl, b4⟩
    have B5 := hide ((unhide B4).trans (b4.mono (unhide B4).size))
    clear b4 y0 y1 y2 y3 cv1 cv2
    go_wp2_with fail
    go_ret
    exact ⟨by simp, unhide B5⟩
  · rw [hok] at HOK3
    obtain ⟨hra, hr222⟩ := unhide HL1 hok
    have HBK2 := hide (unhide HBK hok)
    rw [hra] at cv1 cv2 R2 hn1
    have HN1 := hide (unhide hn1)
    have hn1b : n1 ≤ 222 := by rw [unhide hn1]; exact hr222
    generalize (⟨(recAll r).toArray⟩ : ByteArray) = st at *
    clear hok HL0 HL1 HBK hra hn1
    go_wp2_with fail
    refine (unhide HOK3).mono ?_
    rintro e w4 ⟨rfl, b4⟩
    have B5 := hide ((unhide B4).trans (b4.mono (unhide B4).size))
    have BX4 := hide ((unhide BX3).up b4)
    have R4 := hide ((unhide R2).up b4)
    have M4 := hide ((unhide HM).up (unhide B5))
    have RD4 := hide ((unhide R4).rd)
    clear b4 y0 y1 y2 y3 cv1 cv2 BX3 B4 R2 HOK3 HOK
    have R0 := hide (byLit w4 w4.heap.size (Nat.le_refl _))
    have bz := (Below.refl w4.heap.size w4).alloc (Nat.le_refl _) (.cells #[] 5)
    have U := hide ((unhide RD4).up bz)
    have hsum : (recAll r).length + more.length ≤ 140737488355328 := by have := unhide hml; omega
    have HSM := hide hsum
    have HR2 := hide hr222
    clear hr222 hsum bz
    go_wp2_with (first
      | (at_builtin; have _t := R1; refine wpList_byAppend rfl _ _ rfl w4.heap.size _ _ (recAll r) more rfl rfl (unhide R1) (unhide V1) (unhide HSM) (unhide B6).size ?_; intro a5 c5 w6 r5 g5 _; have R5 := hide r5; have B7 := hide ((unhide B6).grown g5 (unhide B6).size (fun y hy => (unhide R1).ge y hy)); clear r5 g5 R1 B6 V1)
      | (at_builtin; refine wpList_byAppend rfl _ _ rfl w4.heap.size _ _ [] (recAll r) rfl rfl (unhide R0) (unhide U) (by have := unhide HR2; simp; omega) (by simp) ?_; simp only [List.length_nil, Nat.zero_add, List.nil_append]; intro a4 c4 w5 r4 g4 _; have R1 := hide r4; have B6 := hide ((Below.alloc (Below.refl w4.heap.size w4) (Nat.le_refl _) (.cells #[] 5)).grown g4 (by simp) (fun y hy => (unhide R0).ge y hy)); have V1 := hide ((unhide M4).up (unhide B6)); clear r4 g4)
      | fail)
    rename_i _ _ _ _
    have RD := hide (implRead_any (.slice a5 ((recAll r).length + more.length) c5) (recAll r ++ more) w6 (by have := unhide HR2; have := unhide hml; simp; omega) (unhide R5).rd)
    have BX6 := hide ((unhide BX4).up (unhide B7))
    have B8 := hide ((unhide B5).trans ((unhide B7).mono (unhide B5).size))
    clear BX4 B7 R5 R4 M4 RD4 R0 U HSM HM
    refine (unhide RD).mono ?_
    rintro e w7 ⟨o, rfl, HO, b7⟩
    obtain rfl := unhide HBK2 o (unhide HO)
    have B9 := hide ((unhide B8).trans (b7.mono (unhide B8).size))
    have BX7 := hide ((unhide BX6).up b7)
    have hnew := boxF_new4 w7 (.int .i64 r.kind) (.string r.name) (.int .i64 r.num) (.string r.text) 24
    have bz := (Below.refl w7.heap.size w7).alloc (Nat.le_refl _) (.cells #[.int .i64 r.kind, .string r.name, .int .i64 r.num, .string r.text] 24)
    obtain ⟨⟨y0, y1, y2, y3⟩, -⟩ := ((unhide BX7).up bz).four
    obtain ⟨⟨z0, z1, z2, z3⟩, -⟩ := hnew.four
    have BZ := hide ((unhide B9).trans (bz.mono (unhide B9).size))
    have q1 : (((recAll r).length : Int) == (n1 : Int)) = true := by rw [unhide HN1]; simp
    unfold readVal
    dsimp only
    clear hnew bz b7 HO RD BX6 B8 HBK2 BX7
    generalize (recAll r).length = ll at *
    go_wp2_with fail
    go_ret
    exact ⟨by simp, unhide BZ⟩
end Go.Proofs.Ytmlcglkdipigpaa
