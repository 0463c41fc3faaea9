/-
  The walk of the law on frames: what is put into one comes out of it, and a turned byte is seen.
-/
import Derived.Test.YtmblbnookfhgdaaDraw33B
import Derived.Test.YtmblbnookfhgdaaFrameBackM
import Derived.Test.YtmblbnookfhgdaaFrameBytesI
import Derived.Test.YtmblbnookfhgdaaFrameReadI
import Derived.Test.YtmblbnookfhgdaaFrameSzI
set_option linter.unusedVariables false
namespace Go.Proofs.Ytmblbnookfhgdaa
open Go.RowKit Go.Maps Go.Deep

theorem by_cut7 {w : World} {b off n c : Nat} {bs : List UInt8} (h : ByRd w (.slice (some ⟨b, off, none⟩) n c) bs) {k : Nat} (hk : k ≤ bs.length) : ByRd w (.slice (some ⟨b, off, none⟩) k c) (bs.take k) := by
  obtain ⟨a, cap, e, hin, hc⟩ := h
  simp only [Value.slice.injEq] at e
  obtain ⟨rfl, rfl, rfl⟩ := e
  have hl : (bs.take k).length = k := by simp; omega
  refine ⟨some ⟨b, off, none⟩, c, by rw [hl], ?_, by omega⟩
  rcases hin with rfl | ⟨b', off', e, hb, hx⟩
  · exact .inl (by simp)
  · simp only [Option.some.injEq, Addr.mk.injEq, and_true] at e
    obtain ⟨rfl, rfl⟩ := e
    refine .inr ⟨b, off, rfl, hb, fun i hi => ?_⟩
    rw [List.getElem_take]
    exact hx i (by omega)
theorem by_set7 {w : World} {b off c : Nat} {bs : List UInt8} (h : ByAt w b off bs) (hb : b < w.heap.size) (hc : bs.length ≤ c) {k : Nat} (hk : k < bs.length) (x : UInt8) : ByRd (w.setCell ⟨b, off + k, none⟩ (.int .u8 (x.toNat : Int))) (.slice (some ⟨b, off, none⟩) bs.length c) (bs.set k x) := by
  refine ⟨some ⟨b, off, none⟩, c, by simp, .inr ⟨b, off, rfl, by simpa using hb, fun i hi => ?_⟩, by simpa using hc⟩
  have hi' : i < bs.length := by simpa using hi
  by_cases e : i = k
  · subst e
    rw [List.getElem_set_self]
    exact World.cell?_setCell_same _ _ _ (h i hi')
  · rw [List.getElem_set_ne (fun q => e q.symm), World.cell?_setCell_other _ _ _ _ (by intro q; have := congrArg Addr.off q; simp only at this; omega)]
    exact h i hi'
theorem row_at7 {B : Nat} {w : World} {a : Option Addr} {n c : Nat} {bs : List UInt8} (h : ByRow B w (.slice a n c) bs) (hl : 1 ≤ bs.length) : ∃ b off, a = some ⟨b, off, none⟩ ∧ n = bs.length ∧ B ≤ b ∧ b < w.heap.size ∧ bs.length ≤ c ∧ ByAt w b off bs ∧ ∀ i, i < bs.length → w.frozen? ⟨b, off + i, none⟩ = false := by
  obtain ⟨_, c', e, hin, hc⟩ := h.rd
  simp only [Value.slice.injEq] at e
  obtain ⟨rfl, rfl, rfl⟩ := e
  obtain ⟨S, ho, hS, hS2⟩ := h.own
  rcases ho with ⟨_, e, _⟩ | ⟨b, off, cap, hSb, e, hb, hx, hf, hcp⟩
  · subst e; simp at hl
  · simp only [Value.slice.injEq] at e
    obtain ⟨rfl, _, rfl⟩ := e
    exact ⟨b, off, rfl, rfl, hS b (by rw [hSb]; simp), hb, hcp, hx, hf⟩
theorem rd_some {w : World} {v : Value} {bs : List UInt8} (h : ByRd w v bs) (hl : 1 ≤ bs.length) : ∃ b off c, v = .slice (some ⟨b, off, none⟩) bs.length c ∧ bs.length ≤ c := by
  obtain ⟨a, c, rfl, hin, hc⟩ := h
  rcases hin with e | ⟨b, off, rfl, _⟩
  · subst e; simp at hl
  · exact ⟨b, off, c, rfl, hc⟩
theorem xor_ne7 (x y : UInt8) (h : y ≠ 0) : x ^^^ y ≠ x := by
  intro e
  apply h
  have : x ^^^ (x ^^^ y) = x ^^^ x := by rw [e]
  rwa [← UInt8.xor_assoc, UInt8.xor_self, UInt8.zero_xor] at this
theorem byLit7 (w : World) (B : Nat) (hB : B ≤ w.heap.size) : ByRow B (w.alloc (.cells #[] 5)) (.slice (some ⟨w.heap.size, 0, none⟩) 0 0) [] :=
  World.ownsRow_lit (size := 1) w #[] 0 hB (by unfold maxLen; omega) rfl

set_option maxHeartbeats 12800000 in
set_option maxRecDepth 20000 in
theorem frameBack_walk (a a2 : Option Addr) (cap cap2 : Nat) (bs more : List UInt8) (w : World) (hl : bs.length ≤ maxLen) (hc : bs.length ≤ cap) (hb : ByIn w a bs) (hl2 : more.length ≤ maxLen) (hc2 : more.length ≤ cap2) (hb2 : ByIn w a2 more) :
    Calls Try.prog 3 #[.slice a bs.length cap, .slice a2 more.length cap2] w fun e w' => e = .returned (.bool true) ∧ Below w.heap.size w w' := by
  have HD := hide (drawFrame_any w a cap bs hl hc hb)
  have hn : (bs.length : Int) ≤ 9223372036854775807 := by unfold maxLen at hl; omega
  have hm : (more.length : Int) ≤ 9223372036854775807 := by unfold maxLen at hl2; omega
  clear hl hc hb hl2 hc2 hb2
  by_cases h1 : (1048576 : Int) < (bs.length : Int)
  · clear HD
    generalize bs.length = n at *
    generalize more.length = m at *
    go_enter Try.func3, Try.ntmps3
    go_wp2_with fail
    go_ret
    exact ⟨rfl, Below.refl _ _⟩
  by_cases h2 : (1048576 : Int) < (more.length : Int)
  · clear HD
    generalize bs.length = n at *
    generalize more.length = m at *
    go_enter Try.func3, Try.ntmps3
    go_wp2_with fail
    go_ret
    exact ⟨rfl, Below.refl _ _⟩
  generalize bs.length = n at *
  generalize more.length = m at *
  go_enter Try.func3, Try.ntmps3
  go_wp2_with fail
  refine (unhide HD).mono ?_
  rintro e w1 ⟨ya, yn, yc, body, rfl, R1, L1, b1⟩
  have B1 := hide b1
  have HYN := hide (rowB_len (unhide R1))
  have RD1 := hide (unhide R1).rd
  have HBL := hide (show body.length ≤ 1048576 by have := unhide L1; omega)
  clear b1 HD R1
  go_wp2_with fail
  refine (implFrame_any body _ w1 (unhide HBL) (unhide RD1)).mono ?_
  rintro e w2 ⟨v2, S2, rfl, O2, _, b2⟩
  have B2 := hide ((unhide B1).trans (b2.mono (unhide B1).size))
  have RD2 := hide ((unhide RD1).up b2)
  have F2 := hide (unhide O2).rd
  obtain ⟨fa, fc, rfl⟩ := (unhide F2).len
  clear b2 B1 RD1 O2
  go_wp2_with fail
  refine (specFrame_any body _ w2 (unhide HBL) (unhide RD2)).mono ?_
  rintro e w3 ⟨v3, rfl, F3, b3⟩
  have B3 := hide ((unhide B2).trans (b3.mono (unhide B2).size))
  have RD3 := hide ((unhide RD2).up b3)
  have FF3 := hide ((unhide F2).up b3)
  obtain ⟨ga, gc, rfl⟩ := (unhide F3).len
  have cv1 := conv_back (unhide FF3)
  have cv2 := conv_back (unhide F3)
  clear b3 B2 RD2 F2
  cases hok : frameFitB body
  · have HE := hide (show (body.length : Int) = 0 ∨ 260 < (body.length : Int) by
      have : ¬ (1 ≤ body.length ∧ body.length ≤ 260) := by simpa [frameFitB] using hok
      omega)
    rw [← unhide HYN] at HE
    clear hok RD3 F3 FF3 HYN
    generalize (⟨(frameL body).toArray⟩ : ByteArray) = st at *
    generalize (frameL body).length = fl at *
    by_cases hz : (yn : Int) = 0
    · have hz' : ((yn : Int) == 0) = true := by simp; omega
      clear HE
      go_wp2_with fail
      go_ret
      exact ⟨by simp, unhide B3⟩
    · have hz' : ((yn : Int) == 0) = false := by rw [beq_eq_false_iff_ne]; exact hz
      have hg : 260 < (yn : Int) := by rcases unhide HE with h | h <;> omega
      clear HE hz
      go_wp2_with fail
      go_ret
      exact ⟨by simp, unhide B3⟩
  · obtain ⟨g1, g2⟩ := fit_len hok
    have hfl := frameL_size hok
    have HOK := hide hok
    obtain ⟨b, off, c', e', hcap⟩ := rd_some (unhide FF3) (by omega)
    simp only [Value.slice.injEq] at e'
    obtain ⟨rfl, -, rfl⟩ := e'
    obtain ⟨fl, HFL⟩ : ∃ fl, Hid ((frameL body).length = fl) := ⟨_, hide rfl⟩
    have hyn := unhide HYN
    have hfy : fl = yn + 5 := by rw [← unhide HFL, hfl, hyn]
    rw [unhide HFL] at FF3 hcap cv1 cv2 F3 ⊢
    have HFY := hide hfy
    have hy1 : 1 ≤ yn := by omega
    have hy2 : yn ≤ 260 := by omega
    have hf1 : 6 ≤ fl := by omega
    have hf2 : fl ≤ 265 := by omega
    have hcc : (fl : Int) ≤ (fc : Int) := by omega
    have hc3 : (3 : Int) ≤ (fc : Int) := by omega
    have HFB := hide (frame_back (unhide HOK))
    have HFH := hide ((frame_head (unhide HOK)).trans (show ((frameL body).length : Int) = (fl : Int) by rw [unhide HFL]))
    have HFC := hide (fun k (hk : k < fl) => frame_cut (unhide HOK) (k := k) (by rw [unhide HFL]; exact hk))
    have HFT := hide (fun k (h3 : 3 ≤ k) (hk : k < 3 + yn) (c : UInt8) (hlt : k < (frameL body).length) (hc : c ≠ (frameL body)[k]) => frame_turn (unhide HOK) h3 (by rw [← unhide HYN]; exact hk) hlt hc)
    clear hok g1 g2 hfl hyn hfy F3 HBL L1
    generalize hst : (⟨(frameL body).toArray⟩ : ByteArray) = st at *
    clear hst
    go_wp2_with fail
    refine (implFRead_any (frameL body) _ w3 (by rw [unhide HFL]; omega) (unhide FF3)).mono ?_
    rintro e w4 ⟨v4, S4, rfl, O4, _, b4⟩
    rw [(unhide HFB).1]
    rw [(unhide HFB).2] at O4
    have B4 := hide ((unhide B3).trans (b4.mono (unhide B3).size))
    have RD4 := hide ((unhide RD3).up b4)
    have FF4 := hide ((unhide FF3).up b4)
    have RO4 := hide (unhide O4).rd
    obtain ⟨oa, oc, rfl⟩ := (unhide RO4).len
    have cv3 := conv_back (unhide RO4)
    have cv4 := conv_back (unhide RD4)
    have HS4 := hide (implSz_any _ ((frameL body).take 3) w4 (by simp; omega) (by_cut7 (unhide FF4) (k := 3) (by rw [unhide HFL]; omega)))
    rw [unhide HFH] at HS4
    generalize hbt : (⟨body.toArray⟩ : ByteArray) = bt at *
    clear hbt b4 B3 RD3 FF3 O4 RO4 cv1 cv2 HFB HFH
    go_wp2_with fail
    refine (unhide HS4).mono ?_
    rintro e w5 ⟨rfl, b5⟩
    have B5 := hide ((unhide B4).trans (b5.mono (unhide B4).size))
    have FF5 := hide ((unhide FF4).up b5)
    have tm : (m : Int).tmod (fl : Int) = ((m % fl : Nat) : Int) := by rw [Int.tmod_eq_emod_of_nonneg (by omega), Int.natCast_emod]
    have hkn : m % fl < fl := Nat.mod_lt _ (by omega)
    have hk0 : ((m % fl : Nat) : Int) ≤ (fc : Int) := by omega
    have HR5 := hide (implFRead_any ((frameL body).take (m % fl)) _ w5 (by simp; omega) (by_cut7 (unhide FF5) (k := m % fl) (by rw [unhide HFL]; omega)))
    rw [unhide HFC _ hkn] at HR5
    clear b5 B4 FF4 RD4 cv3 cv4 HS4 HFC
    generalize m % fl = k at *
    go_wp2_with fail
    refine (unhide HR5).mono ?_
    rintro e w6 ⟨v6, S6, rfl, O6, _, b6⟩
    have B6 := hide ((unhide B5).trans (b6.mono (unhide B5).size))
    have FF6 := hide ((unhide FF5).up b6)
    obtain ⟨pa, pc, rfl⟩ := (unhide O6).rd.len
    clear b6 B5 FF5 O6 HR5 tm hkn hk0
    have tn : (m : Int).tmod (yn : Int) = ((m % yn : Nat) : Int) := by rw [Int.tmod_eq_emod_of_nonneg (by omega), Int.natCast_emod]
    have hjn : m % yn < yn := Nat.mod_lt _ (by omega)
    have tq : (m : Int).tmod 255 = ((m % 255 : Nat) : Int) := by rw [Int.tmod_eq_emod_of_nonneg (by omega)]; omega
    have hq255 : m % 255 < 255 := Nat.mod_lt _ (by omega)
    obtain ⟨yb, hyb⟩ : ∃ yb : UInt8, yb.toNat = 1 + m % 255 := ⟨UInt8.ofNat (1 + m % 255), by rw [UInt8.toNat_ofNat']; exact Nat.mod_eq_of_lt (by omega)⟩
    generalize m % yn = j at *
    have hjl : 3 + j < (frameL body).length := by rw [unhide HFL, unhide HFY]; omega
    obtain ⟨xb, HXB⟩ : ∃ xb : UInt8, Hid (∀ h : 3 + j < (frameL body).length, (frameL body)[3 + j] = xb) := ⟨(frameL body)[3 + j], hide (fun _ => rfl)⟩
    have hx0 := xorB xb yb
    have hne : xb ^^^ yb ≠ xb := xor_ne7 xb yb (fun e => by rw [e] at hyb; have z : (0 : UInt8).toNat = 0 := rfl; omega)
    have HTN := hide (unhide HFT (3 + j) (by omega) (by omega) (xb ^^^ yb) hjl (by rw [unhide HXB]; exact hne))
    rw [hyb, show ((1 + m % 255 : Nat) : Int) = 1 + ((m % 255 : Nat) : Int) by omega] at hx0
    have hxv := xb.toNat_lt
    have HJL := hide hjl
    have hj3 : 3 + (j : Int) < (fl : Int) := by have := unhide HFY; omega
    clear hne hyb HFT hjl
    generalize m % 255 = q at *
    have R0 := hide (byLit7 w6 w6.heap.size (Nat.le_refl _))
    have bz := (Below.refl w6.heap.size w6).alloc (Nat.le_refl _) (.cells #[] 5)
    have U := hide ((unhide FF6).up bz)
    clear bz FF6
    go_wp2_with (first
      | (at_builtin; refine wpList_byAppend rfl _ _ rfl w6.heap.size _ _ [] (frameL body) rfl rfl (unhide R0) (unhide U) (by rw [unhide HFL]; simp; omega) (by simp) ?_; simp only [List.length_nil, Nat.zero_add, List.nil_append]; intro a7 c7 w7 r7 g7 _; rw [unhide HFL] at r7; rw [unhide HFL]; obtain ⟨b7, o7, rfl, -, hB7, hl7, hc7, at7, fz7⟩ := row_at7 r7 (by rw [unhide HFL]; omega); have cx := at7 (3 + j) (unhide HJL); rw [unhide HXB] at cx; have fx := fz7 (3 + j) (unhide HJL); have A7 := hide (And.intro at7 (And.intro hl7 (And.intro hc7 hB7))); clear at7 fz7 hl7 hc7 hB7; have B7 := hide ((Below.alloc (Below.refl w6.heap.size w6) (Nat.le_refl _) (.cells #[] 5)).grown g7 (by simp) (fun y hy => (unhide R0).ge y hy)); clear r7 g7)
      | fail)
    obtain ⟨at7, hl7, hc7, hB7⟩ := unhide A7
    have RD7 := by_set7 at7 hl7 hc7 (k := 3 + j) (unhide HJL) (xb ^^^ yb)
    rw [unhide HFL, UInt8.toNat_xor] at RD7
    have B8 := hide ((unhide B6).trans (((unhide B7).setCell (p := ⟨b7, o7 + (3 + j), none⟩) hB7 (.int .u8 ((xb.toNat ^^^ yb.toNat : Nat) : Int))).mono (unhide B6).size))
    clear at7 hl7 hc7 hB7 A7 cx fx
    refine (implFRead_any ((frameL body).set (3 + j) (xb ^^^ yb)) _ _ (by rw [List.length_set, unhide HFL]; omega) RD7).mono ?_
    rintro e w9 ⟨v9, S9, rfl, O9, _, b9⟩
    rw [unhide HTN]
    have B9 := hide ((unhide B8).trans (b9.mono (unhide B8).size))
    obtain ⟨ra, rc, rfl⟩ := (unhide O9).rd.len
    clear b9 RD7 B8 O9 HTN
    go_wp2_with fail
    go_ret
    exact ⟨by simp, unhide B9⟩
end Go.Proofs.Ytmblbnookfhgdaa
