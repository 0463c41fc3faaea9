/-
  The walk of the law that a record that is cut short or turned is not read.
-/
import Derived.Test.YtmlcglkdipigpaaRecBack
import Derived.Test.YtmlcglkdipigpaaCutMath
set_option linter.unusedVariables false
namespace Go.Proofs.Ytmlcglkdipigpaa
open Go.RowKit Go.Maps Go.Deep

theorem by_cut {w : World} {b off n c : Nat} {bs : List UInt8} (h : ByRd w (.slice (some ⟨b, off, none⟩) n c) bs) {k : Nat} (hk : k ≤ bs.length) : ByRd w (.slice (some ⟨b, off, none⟩) k c) (bs.take k) := by
  obtain ⟨a, cap, e, hin, hc⟩ := h
  simp only [Value.slice.injEq] at e
  obtain ⟨rfl, rfl, rfl⟩ := e
  have hl : (bs.take k).length = k := by simp; omega
  refine ⟨some ⟨b, off, none⟩, c, by rw [hl], ?_, by omega⟩
  rcases hin with rfl | ⟨b', off', e, hb, hx⟩
  · exact .inl (by simp)
  · simp only [Option.some.injEq, Addr.mk.injEq, and_true] at e
    obtain ⟨rfl, rfl⟩ := e
    refine .inr ⟨b, off, rfl, hb, fun i hi => ?_⟩
    rw [List.getElem_take]
    exact hx i (by omega)
theorem by_set {w : World} {b off c : Nat} {bs : List UInt8} (h : ByAt w b off bs) (hb : b < w.heap.size) (hc : bs.length ≤ c) {k : Nat} (hk : k < bs.length) (x : UInt8) : ByRd (w.setCell ⟨b, off + k, none⟩ (.int .u8 (x.toNat : Int))) (.slice (some ⟨b, off, none⟩) bs.length c) (bs.set k x) := by
  refine ⟨some ⟨b, off, none⟩, c, by simp, .inr ⟨b, off, rfl, by simpa using hb, fun i hi => ?_⟩, by simpa using hc⟩
  have hi' : i < bs.length := by simpa using hi
  by_cases e : i = k
  · subst e
    rw [List.getElem_set_self]
    exact World.cell?_setCell_same _ _ _ (h i hi')
  · rw [List.getElem_set_ne (fun q => e q.symm), World.cell?_setCell_other _ _ _ _ (by intro q; have := congrArg Addr.off q; simp only at this; omega)]
    exact h i hi'
theorem row_at {B : Nat} {w : World} {a : Option Addr} {n c : Nat} {bs : List UInt8} (h : ByRow B w (.slice a n c) bs) (hl : 1 ≤ bs.length) : ∃ b off, a = some ⟨b, off, none⟩ ∧ n = bs.length ∧ B ≤ b ∧ b < w.heap.size ∧ bs.length ≤ c ∧ ByAt w b off bs ∧ ∀ i, i < bs.length → w.frozen? ⟨b, off + i, none⟩ = false := by
  obtain ⟨_, c', e, hin, hc⟩ := h.rd
  simp only [Value.slice.injEq] at e
  obtain ⟨rfl, rfl, rfl⟩ := e
  obtain ⟨S, ho, hS, hS2⟩ := h.own
  rcases ho with ⟨_, e, _⟩ | ⟨b, off, cap, hSb, e, hb, hx, hf, hcp⟩
  · subst e; simp at hl
  · simp only [Value.slice.injEq] at e
    obtain ⟨rfl, _, rfl⟩ := e
    exact ⟨b, off, rfl, rfl, hS b (by rw [hSb]; simp), hb, hcp, hx, hf⟩
theorem xor_u8 (x y : UInt8) : bits .xor .u8 (x.toNat : Int) (y.toNat : Int) = ((x ^^^ y).toNat : Int) := by
  have h1 : (BitVec.ofInt 8 (x.toNat : Int)).toNat = x.toNat := by
    rw [BitVec.ofInt_natCast, BitVec.toNat_ofNat]; exact Nat.mod_eq_of_lt x.toNat_lt
  have h2 : (BitVec.ofInt 8 (y.toNat : Int)).toNat = y.toNat := by
    rw [BitVec.ofInt_natCast, BitVec.toNat_ofNat]; exact Nat.mod_eq_of_lt y.toNat_lt
  show IntKind.u8.wrap ((BitVec.ofInt 8 (x.toNat : Int) ^^^ BitVec.ofInt 8 (y.toNat : Int)).toNat : Int) = _
  rw [BitVec.toNat_xor, h1, h2, ← UInt8.toNat_xor]
  have := (x ^^^ y).toNat_lt
  show ((x ^^^ y).toNat : Int) % 256 = _
  omega
theorem xor_ne (x y : UInt8) (h : y ≠ 0) : x ^^^ y ≠ x := by
  intro e
  apply h
  have : x ^^^ (x ^^^ y) = x ^^^ x := by rw [e]
  rwa [← UInt8.xor_assoc, UInt8.xor_self, UInt8.zero_xor] at this

set_option maxHeartbeats 6400000 in
set_option maxRecDepth 20000 in
theorem recCut_walk (a a2 : Option Addr) (cap cap2 : Nat) (bs more : List UInt8) (w : World) (hl : bs.length ≤ maxLen) (hc : bs.length ≤ cap) (hb : ByIn w a bs) (hl2 : more.length ≤ maxLen) (hc2 : more.length ≤ cap2) (hb2 : ByIn w a2 more) :
    Calls Try.prog 4 #[.slice a bs.length cap, .slice a2 more.length cap2] w fun e w' => e = .returned (.bool true) ∧ Below w.heap.size w w' := by
  have HD := hide (drawRec_any w a cap bs hl hc hb)
  have HM := hide (show ByRd w (.slice a2 more.length cap2) more from ⟨a2, cap2, rfl, hb2, hc2⟩)
  have hn : (bs.length : Int) ≤ 9223372036854775807 := by unfold maxLen at hl; omega
  have hm : (more.length : Int) ≤ 9223372036854775807 := by unfold maxLen at hl2; omega
  clear hl hc hb hl2 hc2 hb2
  by_cases h1 : (1048576 : Int) < (bs.length : Int)
  · clear HD HM
    generalize bs.length = n at *
    generalize more.length = m at *
    go_enter Try.func4, Try.ntmps4
    go_wp2_with fail
    go_ret
    exact ⟨rfl, Below.refl _ _⟩
  by_cases h2 : (1048576 : Int) < (more.length : Int)
  · clear HD HM
    generalize bs.length = n at *
    generalize more.length = m at *
    go_enter Try.func4, Try.ntmps4
    go_wp2_with fail
    go_ret
    exact ⟨rfl, Below.refl _ _⟩
  have hml : Hid (more.length ≤ 1048576) := hide (by omega)
  obtain ⟨m, HMN⟩ : ∃ m, Hid (more.length = m) := ⟨_, rfl⟩
  rw [unhide HMN] at HM h2 hm ⊢
  generalize bs.length = n at *
  go_enter Try.func4, Try.ntmps4
  go_wp2_with fail
  refine (unhide HD).mono ?_
  rintro e w1 ⟨r, rfl, HF, b1⟩
  have B1 := hide b1
  have BX := boxF_new4 w1 (.int .i64 r.kind) (.string r.name) (.int .i64 r.num) (.string r.text) 24
  have bb := (Below.refl w1.heap.size w1).alloc (Nat.le_refl _) (.cells #[.int .i64 r.kind, .string r.name, .int .i64 r.num, .string r.text] 24)
  have BX1 := hide BX
  have B2 := hide ((unhide B1).trans (bb.mono (unhide B1).size))
  have HIM := hide (fun W => implRecBytes_any r W (unhide HF))
  have HSP := hide (fun W => specRecBytes_any r W (unhide HF))
  have HL1 := hide (show recOkB r = true → recBytesL r = recAll r ∧ (recAll r).length ≤ 222 ∧ 4 ≤ (recAll r).length from fun h => ⟨by simp [recBytesL, h], rec_len h, by simp [recAll, recBody, beL_length]; omega⟩)
  unfold recVal at HIM HSP ⊢
  clear BX bb b1 HD B1
  go_wp2_with fail
  generalize w1.alloc (.cells #[.int .i64 r.kind, .string r.name, .int .i64 r.num, .string r.text] 24) = W at *
  generalize w1.heap.size = g at *
  refine (unhide HSP W).mono ?_
  rintro e w2 ⟨x1, n1, c1, rfl, hr1, b2⟩
  have R1 := hide (hr1.mono (unhide B2).size)
  have B3 := hide ((unhide B2).trans (b2.mono (unhide B2).size))
  have BX2 := hide ((unhide BX1).up b2)
  obtain ⟨⟨y0, y1, y2, y3⟩, -⟩ := (unhide BX2).four
  clear hr1 b2 B2 BX1 HSP
  go_wp2_with fail
  refine (unhide HIM w2).mono ?_
  rintro e w3 ⟨x2, n2, c2, rfl, hr2, b3⟩
  have R2 := hide ((unhide R1).up b3)
  have B4 := hide ((unhide B3).trans (b3.mono (unhide B3).size))
  have BX3 := hide ((unhide BX2).up b3)
  have cv1 := conv_back (unhide R2).rd
  have cv2 := conv_back hr2.rd
  clear y0 y1 y2 y3 hr2 b3 B3 BX2 R1 HIM
  cases hok : recOkB r
  · generalize (⟨(recBytesL r).toArray⟩ : ByteArray) = st at *
    clear hok HL1
    go_wp2_with fail
    go_ret
    exact ⟨by simp, unhide B4⟩
  · obtain ⟨hra, hr222, hr4⟩ := unhide HL1 hok
    rw [hra] at cv1 cv2 R2
    obtain ⟨b, off, rfl, hn1, hbb, hbl, hcap, hat, -⟩ := row_at (unhide R2) (by omega)
    have hn8 := (ok_sizes hok).1
    have HAT := hide hat
    have HRL := hide (hr222)
    have HR4 := hide (hr4)
    have HN1 := hide hn1
    have RD2 := hide (unhide R2).rd
    have hp : 0 < n1 := by omega
    have hq : n1 ≤ 222 := by omega
    have hq1 : n1 ≤ c1 := by omega
    have tm : (m : Int).tmod (n1 : Int) = ((m % n1 : Nat) : Int) := by rw [Int.tmod_eq_emod_of_nonneg (by omega), Int.natCast_emod]
    have hkn : m % n1 < n1 := Nat.mod_lt _ hp
    have HCT := hide (fun (o : Option (RecV × Nat)) (k : Nat) (hk : k < n1) (h : IsRead ((recAll r).take k) o) => cut_none (unhide HF) hok (by rw [← unhide HN1]; exact hk) h)
    have HTN := hide (fun (o : Option (RecV × Nat)) (k : Nat) (hk : k < n1) (h2 : 2 ≤ k) (h3 : ¬ (r.kind = 1 ∧ k = 2 + r.name.size)) (c : UInt8) (hc : c ≠ (recAll r)[k]'(by rw [← unhide HN1]; exact hk)) (h : IsRead ((recAll r).set k c) o) => turn_none (unhide HF) hok h2 (by rw [← unhide HN1]; exact hk) h3 hc h)
    generalize (⟨(recAll r).toArray⟩ : ByteArray) = st at *
    clear hok HL1 hra hr222 hr4 hat hn1 hcap
    have hmm : Hid (m % n1 = m % n1) := hide rfl
    generalize hkk : m % n1 = k at *
    have HKK := hide hkk
    clear hkk hmm
    go_wp2_with fail
    refine (implRead_any (.slice (some ⟨b, off, none⟩) k c1) ((recAll r).take k) w3 (by have := unhide HRL; simp; omega) (by_cut (unhide RD2) (by rw [← unhide HN1]; omega))).mono ?_
    rintro e w4 ⟨o, rfl, HO, b4⟩
    obtain rfl := unhide HCT o k hkn (unhide HO)
    have B5 := hide ((unhide B4).trans (b4.mono (unhide B4).size))
    have BX4 := hide ((unhide BX3).up b4)
    have RD4 := hide ((unhide RD2).up b4)
    have AT4 := hide ((unhide HAT).below b4 hbl)
    have bz := (Below.refl w4.heap.size w4).alloc (Nat.le_refl _) (.cells #[.int .i64 0, .string ⟨#[]⟩, .int .i64 0, .string ⟨#[]⟩] 24)
    have B6 := hide ((unhide B5).trans (bz.mono (unhide B5).size))
    have BX6 := hide ((unhide BX4).up bz)
    have RD6 := hide ((unhide RD4).up bz)
    unfold readVal
    dsimp only
    clear b4 HO BX3 B4 R2 RD2 HAT B5 BX4 RD4 cv1 cv2 bz
    obtain ⟨⟨y0, y1, y2, y3⟩, -⟩ := (unhide BX6).four
    by_cases hk2 : (k : Int) < 2
    · go_wp2_with fail
      go_ret
      exact ⟨by simp, unhide B6⟩
    by_cases hk1 : r.kind = 1
    · have e1 : (r.kind == 1) = true := by simp [hk1]
      by_cases hks : (k : Int) = 2 + (r.name.size : Int)
      · have e2 : ((k : Int) == 2 + (r.name.size : Int)) = true := by simp [hks]
        clear hks hk1
        go_wp2_with fail
        go_ret
        exact ⟨by simp, unhide B6⟩
      · have e2 : ((k : Int) == 2 + (r.name.size : Int)) = false := by rw [beq_eq_false_iff_ne]; exact hks
        have HNK := hide (show ¬ (r.kind = 1 ∧ k = 2 + r.name.size) from fun h => hks (by omega))
        clear hks hk1
        have hq255 : m % 255 < 255 := Nat.mod_lt _ (by omega)
        have tq : (m : Int).tmod 255 = ((m % 255 : Nat) : Int) := by rw [Int.tmod_eq_emod_of_nonneg (by omega)]; omega
        obtain ⟨xb, HXB⟩ : ∃ xb : UInt8, Hid (∀ h : k < (recAll r).length, (recAll r)[k] = xb) := ⟨(recAll r)[k]'(by rw [← unhide HN1]; exact hkn), hide (fun _ => rfl)⟩
        obtain ⟨yb, hyb⟩ : ∃ yb : UInt8, yb.toNat = 1 + m % 255 := ⟨UInt8.ofNat (1 + m % 255), by rw [UInt8.toNat_ofNat']; exact Nat.mod_eq_of_lt (by omega)⟩
        have hx0 := xor_u8 xb yb
        have hne : xb ^^^ yb ≠ xb := xor_ne xb yb (fun e => by rw [e] at hyb; have z : (0 : UInt8).toNat = 0 := rfl; omega)
        have HTN2 := hide (fun (o : Option (RecV × Nat)) (h : IsRead ((recAll r).set k (xb ^^^ yb)) o) => unhide HTN o k hkn (by omega) (unhide HNK) (xb ^^^ yb) (by rw [unhide HXB]; exact hne) h)
        rw [hyb, show ((1 + m % 255 : Nat) : Int) = 1 + ((m % 255 : Nat) : Int) by omega] at hx0
        have hxv := xb.toNat_lt
        clear hne hyb HTN
        generalize m % 255 = q at *
        have hz6 : (w4.alloc (.cells #[.int .i64 0, .string ⟨#[]⟩, .int .i64 0, .string ⟨#[]⟩] 24)).heap.size = w4.heap.size + 1 := by simp
        have r0 := byLit (w4.alloc (.cells #[.int .i64 0, .string ⟨#[]⟩, .int .i64 0, .string ⟨#[]⟩] 24)) (w4.alloc (.cells #[.int .i64 0, .string ⟨#[]⟩, .int .i64 0, .string ⟨#[]⟩] 24)).heap.size (Nat.le_refl _)
        rw [hz6] at r0
        have R0 := hide r0
        have bz := (Below.refl (w4.alloc (.cells #[.int .i64 0, .string ⟨#[]⟩, .int .i64 0, .string ⟨#[]⟩] 24)).heap.size (w4.alloc (.cells #[.int .i64 0, .string ⟨#[]⟩, .int .i64 0, .string ⟨#[]⟩] 24))).alloc (Nat.le_refl _) (.cells #[] 5)
        have U := hide ((unhide RD6).up bz)
        have HZ6 := hide hz6
        clear bz hz6 r0
        go_wp2_with (first
          | (at_builtin; refine wpList_byAppend rfl _ _ rfl (w4.heap.size + 1) _ _ [] (recAll r) rfl rfl (unhide R0) (unhide U) (by have := unhide HRL; simp; omega) (by simp) ?_; simp only [List.length_nil, Nat.zero_add, List.nil_append]; intro a5 c5 w7 r5 g5 _; rw [← unhide HN1] at r5; rw [← unhide HN1]; obtain ⟨b5, o5, rfl, -, hB5, hl5, hc5, at5, fz5⟩ := row_at r5 (by have := unhide HR4; omega); have cx := at5 k (by rw [← unhide HN1]; exact hkn); rw [unhide HXB] at cx; have fx := fz5 k (by rw [← unhide HN1]; exact hkn); have A5 := hide (And.intro at5 (And.intro hl5 (And.intro hc5 hB5))); clear at5 fz5 hl5 hc5 hB5; have B7 := hide ((Below.alloc (Below.refl (w4.alloc (.cells #[.int .i64 0, .string ⟨#[]⟩, .int .i64 0, .string ⟨#[]⟩] 24)).heap.size (w4.alloc (.cells #[.int .i64 0, .string ⟨#[]⟩, .int .i64 0, .string ⟨#[]⟩] 24))) (Nat.le_refl _) (.cells #[] 5)).grown g5 (by simp) (fun y hy => by rw [unhide HZ6]; exact (unhide R0).ge y hy)); clear r5 g5)
          | fail)
        obtain ⟨at5, hl5, hc5, hB5⟩ := unhide A5
        have RD7 := by_set at5 hl5 hc5 (k := k) (by rw [← unhide HN1]; exact hkn) (xb ^^^ yb)
        rw [← unhide HN1, UInt8.toNat_xor] at RD7
        have B8 := hide ((unhide B6).trans (((unhide B7).setCell (p := ⟨b5, o5 + k, none⟩) (by rw [unhide HZ6]; exact hB5) (.int .u8 ((xb.toNat ^^^ yb.toNat : Nat) : Int))).mono (unhide B6).size))
        clear at5 hl5 hc5 hB5 A5 cx fx
        refine (implRead_any _ ((recAll r).set k (xb ^^^ yb)) _ (by have := unhide HRL; simp; omega) RD7).mono ?_
        rintro e w9 ⟨o, rfl, HO, b9⟩
        obtain rfl := unhide HTN2 o (unhide HO)
        have B9 := hide ((unhide B8).trans (b9.mono (unhide B8).size))
        have B10 := hide ((unhide B9).alloc (unhide B9).size (.cells #[.int .i64 0, .string ⟨#[]⟩, .int .i64 0, .string ⟨#[]⟩] 24))
        unfold readVal
        dsimp only
        clear HO b9 RD7 B8 HTN2
        go_wp2_with fail
        go_ret
        exact ⟨by simp, by first | exact unhide B9 | exact unhide B10⟩
    · have e1 : (r.kind == 1) = false := by rw [beq_eq_false_iff_ne]; exact hk1
      have HNK := hide (show ¬ (r.kind = 1 ∧ k = 2 + r.name.size) from fun h => hk1 h.1)
      clear hk1
      have hq255 : m % 255 < 255 := Nat.mod_lt _ (by omega)
      have tq : (m : Int).tmod 255 = ((m % 255 : Nat) : Int) := by rw [Int.tmod_eq_emod_of_nonneg (by omega)]; omega
      obtain ⟨xb, HXB⟩ : ∃ xb : UInt8, Hid (∀ h : k < (recAll r).length, (recAll r)[k] = xb) := ⟨(recAll r)[k]'(by rw [← unhide HN1]; exact hkn), hide (fun _ => rfl)⟩
      obtain ⟨yb, hyb⟩ : ∃ yb : UInt8, yb.toNat = 1 + m % 255 := ⟨UInt8.ofNat (1 + m % 255), by rw [UInt8.toNat_ofNat']; exact Nat.mod_eq_of_lt (by omega)⟩
      have hx0 := xor_u8 xb yb
      have hne : xb ^^^ yb ≠ xb := xor_ne xb yb (fun e => by rw [e] at hyb; have z : (0 : UInt8).toNat = 0 := rfl; omega)
      have HTN2 := hide (fun (o : Option (RecV × Nat)) (h : IsRead ((recAll r).set k (xb ^^^ yb)) o) => unhide HTN o k hkn (by omega) (unhide HNK) (xb ^^^ yb) (by rw [unhide HXB]; exact hne) h)
      rw [hyb, show ((1 + m % 255 : Nat) : Int) = 1 + ((m % 255 : Nat) : Int) by omega] at hx0
      have hxv := xb.toNat_lt
      clear hne hyb HTN
      generalize m % 255 = q at *
      have hz6 : (w4.alloc (.cells #[.int .i64 0, .string ⟨#[]⟩, .int .i64 0, .string ⟨#[]⟩] 24)).heap.size = w4.heap.size + 1 := by simp
      have r0 := byLit (w4.alloc (.cells #[.int .i64 0, .string ⟨#[]⟩, .int .i64 0, .string ⟨#[]⟩] 24)) (w4.alloc (.cells #[.int .i64 0, .string ⟨#[]⟩, .int .i64 0, .string ⟨#[]⟩] 24)).heap.size (Nat.le_refl _)
      rw [hz6] at r0
      have R0 := hide r0
      have bz := (Below.refl (w4.alloc (.cells #[.int .i64 0, .string ⟨#[]⟩, .int .i64 0, .string ⟨#[]⟩] 24)).heap.size (w4.alloc (.cells #[.int .i64 0, .string ⟨#[]⟩, .int .i64 0, .string ⟨#[]⟩] 24))).alloc (Nat.le_refl _) (.cells #[] 5)
      have U := hide ((unhide RD6).up bz)
      have HZ6 := hide hz6
      clear bz hz6 r0
      go_wp2_with (first
        | (at_builtin; refine wpList_byAppend rfl _ _ rfl (w4.heap.size + 1) _ _ [] (recAll r) rfl rfl (unhide R0) (unhide U) (by have := unhide HRL; simp; omega) (by simp) ?_; simp only [List.length_nil, Nat.zero_add, List.nil_append]; intro a5 c5 w7 r5 g5 _; rw [← unhide HN1] at r5; rw [← unhide HN1]; obtain ⟨b5, o5, rfl, -, hB5, hl5, hc5, at5, fz5⟩ := row_at r5 (by have := unhide HR4; omega); have cx := at5 k (by rw [← unhide HN1]; exact hkn); rw [unhide HXB] at cx; have fx := fz5 k (by rw [← unhide HN1]; exact hkn); have A5 := hide (And.intro at5 (And.intro hl5 (And.intro hc5 hB5))); clear at5 fz5 hl5 hc5 hB5; have B7 := hide ((Below.alloc (Below.refl (w4.alloc (.cells #[.int .i64 0, .string ⟨#[]⟩, .int .i64 0, .string ⟨#[]⟩] 24)).heap.size (w4.alloc (.cells #[.int .i64 0, .string ⟨#[]⟩, .int .i64 0, .string ⟨#[]⟩] 24))) (Nat.le_refl _) (.cells #[] 5)).grown g5 (by simp) (fun y hy => by rw [unhide HZ6]; exact (unhide R0).ge y hy)); clear r5 g5)
        | fail)
      obtain ⟨at5, hl5, hc5, hB5⟩ := unhide A5
      have RD7 := by_set at5 hl5 hc5 (k := k) (by rw [← unhide HN1]; exact hkn) (xb ^^^ yb)
      rw [← unhide HN1, UInt8.toNat_xor] at RD7
      have B8 := hide ((unhide B6).trans (((unhide B7).setCell (p := ⟨b5, o5 + k, none⟩) (by rw [unhide HZ6]; exact hB5) (.int .u8 ((xb.toNat ^^^ yb.toNat : Nat) : Int))).mono (unhide B6).size))
      clear at5 hl5 hc5 hB5 A5 cx fx
      refine (implRead_any _ ((recAll r).set k (xb ^^^ yb)) _ (by have := unhide HRL; simp; omega) RD7).mono ?_
      rintro e w9 ⟨o, rfl, HO, b9⟩
      obtain rfl := unhide HTN2 o (unhide HO)
      have B9 := hide ((unhide B8).trans (b9.mono (unhide B8).size))
      have B10 := hide ((unhide B9).alloc (unhide B9).size (.cells #[.int .i64 0, .string ⟨#[]⟩, .int .i64 0, .string ⟨#[]⟩] 24))
      unfold readVal
      dsimp only
      clear HO b9 RD7 B8 HTN2
      go_wp2_with fail
      go_ret
      exact ⟨by simp, by first | exact unhide B9 | exact unhide B10⟩
end Go.Proofs.Ytmlcglkdipigpaa
