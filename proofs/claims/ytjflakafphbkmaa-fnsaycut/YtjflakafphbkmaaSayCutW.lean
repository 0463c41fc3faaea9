/-
  The walk of the law on words whose bytes are cut, lengthened or turned. (Made by wip/mksaycut.py.)
-/
import Derived.Test.YtjflakafphbkmaaDraw33B
import Derived.Test.YtjflakafphbkmaaSayBackM
import Derived.Test.YtjflakafphbkmaaSayReadK
import Derived.Test.YtjflakafphbkmaaSayBytesJ
import Derived.Test.YtjflakafphbkmaaByTools
set_option linter.unusedVariables false
namespace Go.Proofs.Ytjflakafphbkmaa
open Go.RowKit Go.Maps Go.Deep

set_option maxHeartbeats 25600000 in
set_option maxRecDepth 20000 in
theorem sayCut_walk (a a2 : Option Addr) (cap cap2 : Nat) (bs more : List UInt8) (w : World) (hl : bs.length ≤ maxLen) (hc : bs.length ≤ cap) (hb : ByIn w a bs) (hl2 : more.length ≤ maxLen) (hc2 : more.length ≤ cap2) (hb2 : ByIn w a2 more) :
    Calls Try.prog 3 #[.slice a bs.length cap, .slice a2 more.length cap2] w fun e w' => e = .returned (.bool true) ∧ Below w.heap.size w w' := by
  have HD := hide (drawSay_any w a cap bs hl hc hb)
  have hn : (bs.length : Int) ≤ 9223372036854775807 := by unfold maxLen at hl; omega
  have hm : (more.length : Int) ≤ 9223372036854775807 := by unfold maxLen at hl2; omega
  clear hl hc hb hl2 hc2 hb2
  by_cases h1 : (1048576 : Int) < (bs.length : Int)
  · clear HD
    generalize bs.length = n at *
    generalize more.length = m at *
    go_enter Try.func3, Try.ntmps3
    go_wp2_with fail
    go_ret
    exact ⟨rfl, Below.refl _ _⟩
  by_cases h2 : (1048576 : Int) < (more.length : Int)
  · clear HD
    generalize bs.length = n at *
    generalize more.length = m at *
    go_enter Try.func3, Try.ntmps3
    go_wp2_with fail
    go_ret
    exact ⟨rfl, Below.refl _ _⟩
  generalize bs.length = n at *
  generalize more.length = m at *
  go_enter Try.func3, Try.ntmps3
  go_wp2_with fail
  refine (unhide HD).mono ?_
  rintro e w1 ⟨sk, sf, st, sn, sl, sa, sm, sc, s, rfl, R1, F1, b1⟩
  have SM := hide (unhide F1).small
  have HV := hide (unhide F1).2.2.2.2.1
  have HKN := hide (show s.kind = sk ∧ s.name = sn from by
    obtain ⟨v5, e5, _⟩ := unhide R1
    simp only [Value.agg.injEq, Array.mk.injEq, List.cons.injEq, Value.int.injEq, Value.string.injEq, true_and] at e5
    exact ⟨e5.1.symm, e5.2.2.2.1.symm⟩)
  have bb := allocB w1 (.cells #[.int .i64 sk, .int .i64 sf, .int .i64 st, .string sn, .int .i64 sl, .slice sa sm sc] 25)
  have BX := hide (boxF_new w1 [.int .i64 sk, .int .i64 sf, .int .i64 st, .string sn, .int .i64 sl, .slice sa sm sc] 25)
  simp only [List.toArray] at BX
  have R2 := hide ((unhide R1).up bb)
  have B2 := hide (b1.trans (bb.mono b1.size))
  clear bb b1 R1 HD F1
  go_wp2_with fail
  generalize w1.alloc (.cells #[.int .i64 sk, .int .i64 sf, .int .i64 st, .string sn, .int .i64 sl, .slice sa sm sc] 25) = W2 at *
  generalize w1.heap.size = gs at *
  refine (specSayBytes_any s _ W2 (unhide SM) (unhide R2)).mono ?_
  rintro e w3 ⟨x1, n1, c1, rfl, hr1, b3⟩
  have B3 := hide ((unhide B2).trans (b3.mono (unhide B2).size))
  have R3 := hide ((unhide R2).up b3)
  have BX3 := hide ((unhide BX).up b3)
  have RW3 := hide hr1
  clear b3 B2 R2 BX hr1
  obtain ⟨⟨y0, y1, y2, y3, y4, y5⟩, -⟩ := six33 (unhide BX3)
  go_wp2_with fail
  refine (implSayBytes_any s _ w3 (unhide SM) (unhide R3)).mono ?_
  rintro e w4 ⟨x2, n2, c2, rfl, hr2, b4⟩
  have B4 := hide ((unhide B3).trans (b4.mono (unhide B3).size))
  have BX4 := hide ((unhide BX3).up b4)
  have RW4 := hide ((unhide RW3).up b4)
  have cv1 := conv_back (unhide RW4).rd
  have cv2 := conv_back hr2.rd
  clear hr2 b4 B3 R3 BX3 RW3 y0 y1 y2 y3 y4 y5
  cases hok : sayOkB s
  · clear hok
    generalize (⟨(sayBytesL s).toArray⟩ : ByteArray) = str at *
    go_wp2_with fail
    go_ret
    exact ⟨by simp, unhide B4⟩
  · have HEQ := sayAll_some hok
    have hg := say_good hok
    have hlen := sayAll_len hg
    have hlow : (sayAll s).length = (sayBody s).length + 2 := by unfold sayAll; rw [List.length_append, beL_length]
    have hbody : 4 + s.name.size ≤ (sayBody s).length := by unfold sayBody; simp only [List.length_append, nameBytes_len, List.length_cons, List.length_nil]; omega
    have htell : s.kind = 2 → 4 + s.name.size + 8 ≤ (sayBody s).length := fun k2 => by unfold sayBody sayTail; rw [if_pos k2]; simp only [List.length_append, nameBytes_len, List.length_cons, List.length_nil, beL_length]; omega
    rw [HEQ] at RW4 cv1 cv2
    obtain ⟨b, off, rfl, hn1, hbb, hbl, hcap, -, -⟩ := row_at7 (unhide RW4) (by omega)
    obtain ⟨fl, HFL⟩ : ∃ fl, Hid ((sayAll s).length = fl) := ⟨_, hide rfl⟩
    have hnf : n1 = fl := hn1.trans (unhide HFL)
    subst hnf
    have hf1 : 6 ≤ n1 := by have := unhide HFL; omega
    have hf2 : n1 ≤ 212 := by have := unhide HFL; omega
    have hcc : (n1 : Int) ≤ (c1 : Int) := by have := unhide HFL; omega
    have HTL := hide (show sk = 2 → 4 + sn.size + 8 + 2 ≤ n1 from fun k2 => by
      obtain ⟨q1, q2⟩ := unhide HKN
      have := htell (q1.trans k2)
      rw [q2] at this
      have := unhide HFL
      omega)
    have hsn : sn.size ≤ 8 := by
      have := plain_size hg.name
      rwa [(unhide HKN).2] at this
    have RD4 := hide (unhide RW4).rd
    have HCT := hide (fun k (hk : k < n1) => say_cut hok (unhide HV) (k := k) (by rw [unhide HFL]; exact hk))
    have HLG := hide (fun c => say_long hok (unhide HV) c)
    have HSU := hide (fun k (hk : k < n1) (h2 : n1 ≤ k + 2) (c : UInt8) (hlt : k < (sayAll s).length) (hc : c ≠ (sayAll s)[k]) => say_turnSum hok (unhide HV) hlt (by rw [unhide HFL]; exact h2) hc)
    have HVA := hide (fun (k2 : sk = 2) j (hj : j < 8) (c : UInt8) (hlt : 4 + sn.size + j < (sayAll s).length) (hc : c ≠ (sayAll s)[4 + sn.size + j]) => show sayRd ((sayAll s).set (4 + sn.size + j) c) = none from by
      obtain ⟨q1, q2⟩ := unhide HKN
      subst q2
      exact say_turnVal hok (unhide HV) (q1.trans k2) hj hlt hc)
    clear hok HEQ hg hlen hlow hbody htell hn1 hcap RW4
    generalize (⟨(sayAll s).toArray⟩ : ByteArray) = str at *
    have tm : (m : Int).tmod (n1 : Int) = ((m % n1 : Nat) : Int) := by rw [Int.tmod_eq_emod_of_nonneg (by omega), Int.natCast_emod]
    have hkn : m % n1 < n1 := Nat.mod_lt _ (by omega)
    have hk0 : ((m % n1 : Nat) : Int) ≤ (c1 : Int) := by omega
    have HR5 := hide (implSayRead_kit ((sayAll s).take (m % n1)) _ w4 (show ((sayAll s).take (m % n1)).length ≤ 1048576 by simp; omega) (by_cut7 (unhide RD4) (k := m % n1) (by rw [unhide HFL]; omega)))
    rw [show sayIs ((sayAll s).take (m % n1)) = false from by unfold sayIs; rw [unhide HCT _ hkn]; rfl] at HR5
    clear HCT
    generalize m % n1 = k at *
    go_wp2_with fail
    refine (unhide HR5).mono ?_
    rintro e w5 ⟨xv, XS, rfl, XO, _, b5⟩
    obtain ⟨xk, xf, xt, xn, xl, xa, xm, xc, rfl⟩ := (unhide XO).rd.form
    have bz := allocB w5 (.cells #[.int .i64 xk, .int .i64 xf, .int .i64 xt, .string xn, .int .i64 xl, .slice xa xm xc] 25)
    have B5 := hide (((unhide B4).trans (b5.mono (unhide B4).size)).trans (bz.mono ((unhide B4).trans (b5.mono (unhide B4).size)).size))
    have RD5 := hide (((unhide RD4).up b5).up bz)
    have BX5 := hide (((unhide BX4).up b5).up bz)
    clear b5 bz XO HR5 tm hkn hk0 B4 RD4 BX4 cv1 cv2
    go_upto_region 12 with fail
    generalize w5.alloc (.cells #[.int .i64 xk, .int .i64 xf, .int .i64 xt, .string xn, .int .i64 xl, .slice xa xm xc] 25) = V5 at *
    generalize w5.heap.size = gx at *
    have R0 := hide (byLit7 V5 V5.heap.size (Nat.le_refl _))
    have U := hide ((unhide RD5).up (allocB V5 (.cells #[] 5)))
    obtain ⟨cb, hcb⟩ : ∃ cb : UInt8, IntKind.u8.wrap (m : Int) = (cb.toNat : Int) := ⟨beB (m : Int) 0, by rw [beB_val]; simp⟩
    have HLI := hide (show sayIs (sayAll s ++ [cb]) = false from by unfold sayIs; rw [unhide HLG cb]; rfl)
    clear HLG
    go_wp2_with (first
      | (at_builtin; have _t := R7u; refine wpList_byAppend rfl _ _ rfl V5.heap.size _ _ (sayAll s) [cb] rfl rfl (unhide R7u) (unhide U1) (by rw [unhide HFL]; simp; omega) (unhide B7u).size ?_; intro a8 c8 w8 r8 g8 _; have R8 := hide r8.rd; have B8 := hide ((unhide B7u).grown g8 (unhide B7u).size (fun y hy => (unhide R7u).ge y hy)); clear r8 g8)
      | (at_builtin; refine wpList_byAppend rfl _ _ rfl V5.heap.size _ _ [] (sayAll s) rfl rfl (unhide R0) (unhide U) (by rw [unhide HFL]; simp; omega) (by simp) ?_; simp only [List.length_nil, Nat.zero_add, List.nil_append]; intro a7 c7 w7 r7 g7 _; rw [unhide HFL] at r7; rw [unhide HFL]; have R7u := hide (r7.up' (.cells #[.int .u8 (cb.toNat : Int)] 5)); have U1 := hide (byCell1 w7 cb); have B7u := hide (((Below.alloc (Below.refl V5.heap.size V5) (Nat.le_refl _) (.cells #[] 5)).grown g7 (by simp) (fun y hy => (unhide R0).ge y hy)).alloc ((Below.alloc (Below.refl V5.heap.size V5) (Nat.le_refl _) (.cells #[] 5)).grown g7 (by simp) (fun y hy => (unhide R0).ge y hy)).size (.cells #[.int .u8 (cb.toNat : Int)] 5)); clear r7 g7)
      | fail)
    refine (implSayRead_kit (sayAll s ++ [cb]) _ w8 (show (sayAll s ++ [cb]).length ≤ 1048576 by rw [List.length_append, unhide HFL]; simp; omega) (unhide R8)).mono ?_
    rintro e w9 ⟨zv, ZS, rfl, ZO, _, b9⟩
    rw [unhide HLI]
    obtain ⟨zk, zf, zt, zn, zl, za, zm, zc, rfl⟩ := (unhide ZO).rd.form
    have BV := hide (((unhide B8).trans (b9.mono (unhide B8).size)).trans ((allocB w9 (.cells #[.int .i64 zk, .int .i64 zf, .int .i64 zt, .string zn, .int .i64 zl, .slice za zm zc] 25)).mono ((unhide B8).trans (b9.mono (unhide B8).size)).size))
    have B9 := hide ((unhide B5).trans ((unhide BV).mono (unhide B5).size))
    have RD9 := hide ((unhide RD5).up (unhide BV))
    have BX9 := hide ((unhide BX5).up (unhide BV))
    clear b9 ZO R8 B8 R7u U1 B7u R0 U HLI hcb B5 RD5 BX5 BV
    go_upto_region 15 with fail
    generalize w9.alloc (.cells #[.int .i64 zk, .int .i64 zf, .int .i64 zt, .string zn, .int .i64 zl, .slice za zm zc] 25) = V9 at *
    generalize w9.heap.size = gz at *
    have R0 := hide (byLit7 V9 V9.heap.size (Nat.le_refl _))
    have U := hide ((unhide RD9).up (allocB V9 (.cells #[] 5)))
    have HZ9 := hide (unhide B9).size
    go_upto_region 16 with (first
      | (at_builtin; refine wpList_byAppend rfl _ _ rfl V9.heap.size _ _ [] (sayAll s) rfl rfl (unhide R0) (unhide U) (by rw [unhide HFL]; simp; omega) (by simp) ?_; simp only [List.length_nil, Nat.zero_add, List.nil_append]; intro aD cD wD rD gD _; rw [unhide HFL] at rD; rw [unhide HFL]; obtain ⟨b9, o9, rfl, -, hBD, hlD, hcD, atD, fzD⟩ := row_at7 rD (by rw [unhide HFL]; omega); have A9 := hide (And.intro atD (And.intro hlD (And.intro hcD hBD))); have FZ9 := hide fzD; clear atD fzD hlD hcD hBD; have BD := hide ((Below.alloc (Below.refl V9.heap.size V9) (Nat.le_refl _) (.cells #[] 5)).grown gD (by simp) (fun y hy => (unhide R0).ge y hy)); clear rD gD)
      | fail)
    have BXD := hide ((unhide BX9).up (unhide BD))
    have B10 := hide ((unhide B9).trans ((unhide BD).mono (unhide B9).size))
    clear B9 R0 U RD9 BX9 BD
    obtain ⟨yb, hyb⟩ : ∃ yb : UInt8, yb.toNat = 1 + m % 255 := ⟨UInt8.ofNat (1 + m % 255), by rw [UInt8.toNat_ofNat']; have := Nat.mod_lt m (show 0 < 255 by omega); exact Nat.mod_eq_of_lt (by omega)⟩
    have tq : (m : Int).tmod 255 = ((m % 255 : Nat) : Int) := by rw [Int.tmod_eq_emod_of_nonneg (by omega)]; omega
    have t2 : (m : Int).tmod 2 = ((m % 2 : Nat) : Int) := by rw [Int.tmod_eq_emod_of_nonneg (by omega)]; omega
    have t3 : (m : Int).tmod 3 = ((m % 3 : Nat) : Int) := by rw [Int.tmod_eq_emod_of_nonneg (by omega)]; omega
    have t8 : (m : Int).tmod 8 = ((m % 8 : Nat) : Int) := by rw [Int.tmod_eq_emod_of_nonneg (by omega)]; omega
    have hq255 : m % 255 < 255 := Nat.mod_lt _ (by omega)
    obtain ⟨⟨y0, y1, y2, y3, y4, y5⟩, -⟩ := six33 (unhide BXD)
    obtain ⟨p, hp⟩ : ∃ p : Nat, p = n1 - 1 - m % 2 := ⟨_, rfl⟩
    have h2lt : m % 2 < 2 := Nat.mod_lt _ (by omega)
    have hpe : (n1 : Int) - 1 - ((m % 2 : Nat) : Int) = (p : Int) := by omega
    have hpl : p < n1 ∧ n1 ≤ p + 2 := by omega
    have HPL2 := hide hpl
    clear hp h2lt hpl
    by_cases hk2 : sk = 2
    · have e2 : (sk == 2) = true := by simp [hk2]
      by_cases h3 : m % 3 = 0
      · have e3 : (((m % 3 : Nat) : Int) == 0) = true := by simp [h3]
        have h8 : m % 8 < 8 := Nat.mod_lt _ (by omega)
        have hplt : 4 + sn.size + m % 8 < n1 := by have := unhide HTL hk2; omega
        have HTT := hide (fun c hlt hc => unhide HVA hk2 (m % 8) h8 c hlt hc)
        clear HSU HVA HTL hk2 h3
        generalize m % 3 = r3 at *
        generalize m % 2 = r2 at *
        generalize m % 8 = r8 at *
        obtain ⟨xb, HXB⟩ : ∃ xb : UInt8, Hid (∀ h : (4 + sn.size + r8) < (sayAll s).length, (sayAll s)[(4 + sn.size + r8)] = xb) := ⟨(sayAll s)[(4 + sn.size + r8)]'(by rw [unhide HFL]; exact hplt), hide (fun _ => rfl)⟩
        have hx0 := xorB xb yb
        have hne : xb ^^^ yb ≠ xb := xor_ne7 xb yb (fun e => by rw [e] at hyb; have z : (0 : UInt8).toNat = 0 := rfl; omega)
        have HTN := hide (unhide HTT (xb ^^^ yb) (by rw [unhide HFL]; exact hplt) (by rw [unhide HXB]; exact hne))
        have HTI := hide (show sayIs ((sayAll s).set (4 + sn.size + r8) (xb ^^^ yb)) = false from by unfold sayIs; rw [unhide HTN]; rfl)
        rw [hyb, show ((1 + m % 255 : Nat) : Int) = 1 + ((m % 255 : Nat) : Int) by omega] at hx0
        have hxv := xb.toNat_lt
        have HPL := hide hplt
        have cx := (unhide A9).1 (4 + sn.size + r8) (by rw [unhide HFL]; exact hplt)
        rw [unhide HXB] at cx
        have fx := unhide FZ9 (4 + sn.size + r8) (by rw [unhide HFL]; exact hplt)
        clear hne hyb HTT HTN
        generalize m % 255 = q at *
        go_wp2_with fail
        obtain ⟨at9, hl9, hc9, hB9⟩ := unhide A9
        have RD9 := by_set7 at9 hl9 hc9 (k := (4 + sn.size + r8)) (by rw [unhide HFL]; exact unhide HPL) (xb ^^^ yb)
        rw [unhide HFL, UInt8.toNat_xor] at RD9
        have BA := hide ((unhide B10).setCell (p := ⟨b9, o9 + ((4 + sn.size + r8)), none⟩) (Nat.le_trans (unhide HZ9) hB9) (.int .u8 ((xb.toNat ^^^ yb.toNat : Nat) : Int)))
        clear at9 hl9 hc9 hB9 A9 FZ9 cx fx
        refine (implSayRead_kit ((sayAll s).set (4 + sn.size + r8) (xb ^^^ yb)) _ _ (show ((sayAll s).set (4 + sn.size + r8) (xb ^^^ yb)).length ≤ 1048576 by rw [List.length_set, unhide HFL]; omega) RD9).mono ?_
        rintro e wA ⟨tv, TS, rfl, TO, _, bA⟩
        rw [unhide HTI]
        have BB := hide ((unhide BA).trans (bA.mono (unhide BA).size))
        obtain ⟨tk, tf, tt, tn, tl, ta, tm, tc, rfl⟩ := (unhide TO).rd.form
        have BC := hide ((unhide BB).alloc (unhide BB).size (.cells #[.int .i64 tk, .int .i64 tf, .int .i64 tt, .string tn, .int .i64 tl, .slice ta tm tc] 25))
        clear bA RD9 BA HTI TO y0 y1 y2 y3 y4 y5
        go_wp2_with fail
        go_ret
        exact ⟨by simp, by first | exact unhide BB | exact unhide BC⟩
      · have e3 : (((m % 3 : Nat) : Int) == 0) = false := by rw [beq_eq_false_iff_ne]; omega
        have hplt : p < n1 := (unhide HPL2).1
        have HTT := hide (fun c hlt hc => unhide HSU p (unhide HPL2).1 (unhide HPL2).2 c hlt hc)
        clear HSU HVA HTL hk2 h3
        generalize m % 3 = r3 at *
        generalize m % 2 = r2 at *
        generalize m % 8 = r8 at *
        obtain ⟨xb, HXB⟩ : ∃ xb : UInt8, Hid (∀ h : p < (sayAll s).length, (sayAll s)[p] = xb) := ⟨(sayAll s)[p]'(by rw [unhide HFL]; exact hplt), hide (fun _ => rfl)⟩
        have hx0 := xorB xb yb
        have hne : xb ^^^ yb ≠ xb := xor_ne7 xb yb (fun e => by rw [e] at hyb; have z : (0 : UInt8).toNat = 0 := rfl; omega)
        have HTN := hide (unhide HTT (xb ^^^ yb) (by rw [unhide HFL]; exact hplt) (by rw [unhide HXB]; exact hne))
        have HTI := hide (show sayIs ((sayAll s).set p (xb ^^^ yb)) = false from by unfold sayIs; rw [unhide HTN]; rfl)
        rw [hyb, show ((1 + m % 255 : Nat) : Int) = 1 + ((m % 255 : Nat) : Int) by omega] at hx0
        have hxv := xb.toNat_lt
        have HPL := hide hplt
        have cx := (unhide A9).1 p (by rw [unhide HFL]; exact hplt)
        rw [unhide HXB] at cx
        have fx := unhide FZ9 p (by rw [unhide HFL]; exact hplt)
        clear hne hyb HTT HTN
        generalize m % 255 = q at *
        go_wp2_with fail
        obtain ⟨at9, hl9, hc9, hB9⟩ := unhide A9
        have RD9 := by_set7 at9 hl9 hc9 (k := p) (by rw [unhide HFL]; exact unhide HPL) (xb ^^^ yb)
        rw [unhide HFL, UInt8.toNat_xor] at RD9
        have BA := hide ((unhide B10).setCell (p := ⟨b9, o9 + (p), none⟩) (Nat.le_trans (unhide HZ9) hB9) (.int .u8 ((xb.toNat ^^^ yb.toNat : Nat) : Int)))
        clear at9 hl9 hc9 hB9 A9 FZ9 cx fx
        refine (implSayRead_kit ((sayAll s).set p (xb ^^^ yb)) _ _ (show ((sayAll s).set p (xb ^^^ yb)).length ≤ 1048576 by rw [List.length_set, unhide HFL]; omega) RD9).mono ?_
        rintro e wA ⟨tv, TS, rfl, TO, _, bA⟩
        rw [unhide HTI]
        have BB := hide ((unhide BA).trans (bA.mono (unhide BA).size))
        obtain ⟨tk, tf, tt, tn, tl, ta, tm, tc, rfl⟩ := (unhide TO).rd.form
        have BC := hide ((unhide BB).alloc (unhide BB).size (.cells #[.int .i64 tk, .int .i64 tf, .int .i64 tt, .string tn, .int .i64 tl, .slice ta tm tc] 25))
        clear bA RD9 BA HTI TO y0 y1 y2 y3 y4 y5
        go_wp2_with fail
        go_ret
        exact ⟨by simp, by first | exact unhide BB | exact unhide BC⟩
    · have e2 : (sk == 2) = false := by rw [beq_eq_false_iff_ne]; exact hk2
      have hplt : p < n1 := (unhide HPL2).1
      have HTT := hide (fun c hlt hc => unhide HSU p (unhide HPL2).1 (unhide HPL2).2 c hlt hc)
      clear HSU HVA HTL hk2
      generalize m % 3 = r3 at *
      generalize m % 2 = r2 at *
      generalize m % 8 = r8 at *
      obtain ⟨xb, HXB⟩ : ∃ xb : UInt8, Hid (∀ h : p < (sayAll s).length, (sayAll s)[p] = xb) := ⟨(sayAll s)[p]'(by rw [unhide HFL]; exact hplt), hide (fun _ => rfl)⟩
      have hx0 := xorB xb yb
      have hne : xb ^^^ yb ≠ xb := xor_ne7 xb yb (fun e => by rw [e] at hyb; have z : (0 : UInt8).toNat = 0 := rfl; omega)
      have HTN := hide (unhide HTT (xb ^^^ yb) (by rw [unhide HFL]; exact hplt) (by rw [unhide HXB]; exact hne))
      have HTI := hide (show sayIs ((sayAll s).set p (xb ^^^ yb)) = false from by unfold sayIs; rw [unhide HTN]; rfl)
      rw [hyb, show ((1 + m % 255 : Nat) : Int) = 1 + ((m % 255 : Nat) : Int) by omega] at hx0
      have hxv := xb.toNat_lt
      have HPL := hide hplt
      have cx := (unhide A9).1 p (by rw [unhide HFL]; exact hplt)
      rw [unhide HXB] at cx
      have fx := unhide FZ9 p (by rw [unhide HFL]; exact hplt)
      clear hne hyb HTT HTN
      generalize m % 255 = q at *
      go_wp2_with fail
      obtain ⟨at9, hl9, hc9, hB9⟩ := unhide A9
      have RD9 := by_set7 at9 hl9 hc9 (k := p) (by rw [unhide HFL]; exact unhide HPL) (xb ^^^ yb)
      rw [unhide HFL, UInt8.toNat_xor] at RD9
      have BA := hide ((unhide B10).setCell (p := ⟨b9, o9 + (p), none⟩) (Nat.le_trans (unhide HZ9) hB9) (.int .u8 ((xb.toNat ^^^ yb.toNat : Nat) : Int)))
      clear at9 hl9 hc9 hB9 A9 FZ9 cx fx
      refine (implSayRead_kit ((sayAll s).set p (xb ^^^ yb)) _ _ (show ((sayAll s).set p (xb ^^^ yb)).length ≤ 1048576 by rw [List.length_set, unhide HFL]; omega) RD9).mono ?_
      rintro e wA ⟨tv, TS, rfl, TO, _, bA⟩
      rw [unhide HTI]
      have BB := hide ((unhide BA).trans (bA.mono (unhide BA).size))
      obtain ⟨tk, tf, tt, tn, tl, ta, tm, tc, rfl⟩ := (unhide TO).rd.form
      have BC := hide ((unhide BB).alloc (unhide BB).size (.cells #[.int .i64 tk, .int .i64 tf, .int .i64 tt, .string tn, .int .i64 tl, .slice ta tm tc] 25))
      clear bA RD9 BA HTI TO y0 y1 y2 y3 y4 y5
      go_wp2_with fail
      go_ret
      exact ⟨by simp, by first | exact unhide BB | exact unhide BC⟩
end Go.Proofs.Ytjflakafphbkmaa
