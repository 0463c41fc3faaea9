/-
  The walk of the law on logs that are cut anywhere.
-/
import Derived.Test.YtcpjcdbhcllbiaaDrawLogB
import Derived.Test.YtcpjcdbhcllbiaaPrefixMath
import Derived.Test.YtcpjcdbhcllbiaaPeRecs
import Derived.Test.YtcpjcdbhcllbiaaLogBytesI
import Derived.Test.YtcpjcdbhcllbiaaLogReadI
import Derived.Test.YtcpjcdbhcllbiaaByReader
import Derived.Handy
set_option linter.unusedVariables false
namespace Go.Proofs.Ytcpjcdbhcllbiaa
open Go.RowKit Go.Maps Go.Deep

theorem by_cutP {w : World} {a : Option Addr} {n c : Nat} {bs : List UInt8} (h : ByRd w (.slice a n c) bs) {k : Nat} (hk : k ≤ bs.length) : ByRd w (.slice a k c) (bs.take k) := by
  obtain ⟨a', c', e, h1, h2⟩ := h
  simp only [Value.slice.injEq] at e
  obtain ⟨rfl, rfl, rfl⟩ := e
  refine ⟨a, c, by rw [List.length_take, Nat.min_eq_left hk], ?_, by simp; omega⟩
  rcases h1 with h1 | ⟨b', off', e, hb, hc⟩
  · left; rw [h1]; simp
  · right
    exact ⟨b', off', e, hb, fun i hi => by
      have hi' : i < bs.length := by simp at hi; omega
      have := hc i hi'
      simpa using this⟩
theorem byRow_cap {B : Nat} {w : World} {a : Option Addr} {n c : Nat} {bs : List UInt8} (h : ByRow B w (.slice a n c) bs) : n ≤ c := by
  rcases h with ⟨_, ⟨h1, h0⟩ | ⟨g, cap, cur, h1, hB, hg, hnc, _⟩⟩
  · simp only [Value.slice.injEq] at h1
    omega
  · simp only [Value.slice.injEq] at h1
    omega
theorem recS_take {w : World} {g n c : Nat} {rs : List RecV} (h : RecSRd w (.slice (some ⟨g, 0, none⟩) n c) rs) {j : Nat} (hj : j ≤ rs.length) : RecSRd w (.slice (some ⟨g, 0, none⟩) j c) (rs.take j) := by
  obtain ⟨a, c', e, h1⟩ := h
  simp only [Value.slice.injEq] at e
  obtain ⟨rfl, rfl, rfl⟩ := e
  refine ⟨some ⟨g, 0, none⟩, c, by simp; omega, ?_⟩
  rcases h1 with h1 | ⟨b', off', e, hb, hc⟩
  · left; rw [h1]; simp
  · right
    simp only [Option.some.injEq, Addr.mk.injEq, and_true] at e
    obtain ⟨rfl, rfl⟩ := e
    exact ⟨g, 0, rfl, hb, fun i hi => by
      have hi' : i < rs.length := by simp at hi; omega
      have := hc i hi'
      simpa using this⟩
theorem rcRow_form {B : Nat} {w : World} {v : Value} {rs : List RecV} (h : RcRow B w v rs) : (v = .slice none 0 0 ∧ rs = []) ∨ ∃ g c, v = .slice (some ⟨g, 0, none⟩) rs.length c ∧ rs.length ≤ c ∧ g < w.heap.size := by
  rcases h with ⟨_, ⟨rfl, h0⟩ | ⟨g, cap, cur, rfl, hB, hg, hnc, _⟩⟩
  · exact .inl ⟨rfl, List.eq_nil_of_length_eq_zero h0⟩
  · exact .inr ⟨g, cap, rfl, hnc, (Array.getElem?_eq_some_iff.1 hg).1⟩
set_option maxHeartbeats 1600000 in
theorem peBegins_any (rs : List RecV) (j B : Nat) (v v' : Value) (w : World) (hl : rs.length ≤ 201) (hj : j ≤ rs.length) (h : RecSRd w v (rs.take j)) (h' : RcRow B w v' rs) :
    Calls Try.prog 9 #[v, v'] w fun e w' => e = .returned (.bool true) ∧ Below w.heap.size w w' := by
  have HR := hide h
  have HP := hide h'.rd
  obtain ⟨a, c, rfl, _⟩ := h
  have hn : (rs.take j).length = j := by simp; omega
  rcases rcRow_form h' with ⟨rfl, rfl⟩ | ⟨g, cp, rfl, hcp, hg⟩
  · obtain rfl : j = 0 := by simpa using hj
    simp only [List.take_nil, List.length_nil] at HR ⊢
    have HC := hide (peRecs_same [] (.slice a 0 c) (.slice none 0 0) w (by simp) (unhide HR) (unhide HP))
    clear HR HP h' hn hj hl
    go_enter Try.func9, Try.ntmps9
    go_wp2_with fail
    refine (unhide HC).mono ?_
    rintro e w1 ⟨rfl, b1⟩
    go_wp2_with fail
    go_ret
    exact ⟨rfl, b1⟩
  · rw [hn] at HR ⊢
    have HC := hide (peRecs_same (rs.take j) (.slice a j c) (.slice (some ⟨g, 0, none⟩) j cp) w (by omega) (unhide HR) (recS_take (unhide HP) hj))
    generalize rs.length = n at *
    clear HR HP h' hn
    have h1 : (j : Int) ≤ (n : Int) := by omega
    go_enter Try.func9, Try.ntmps9
    go_wp2_with fail
    refine (unhide HC).mono ?_
    rintro e w1 ⟨rfl, b1⟩
    go_wp2_with fail
    go_ret
    exact ⟨rfl, b1⟩
set_option maxHeartbeats 1600000 in
theorem peBytes_any (r : RecV) (w : World) (hf : RecFit r) :
    Calls Try.prog 10 #[recVal r] w fun e w' => ∃ a n c, e = .returned (.slice a n c) ∧ Hid (n = (recBytesL r).length) ∧ Below w.heap.size w w' := by
  have HC := hide (fun W => specRecBytes_any r W hf)
  have B0 := hide ((Below.refl w.heap.size w).alloc (Nat.le_refl _) (.cells #[.int .i64 r.kind, .string r.name, .int .i64 r.num, .string r.text] 32))
  unfold recVal at HC ⊢
  go_enter Try.func10, Try.ntmps10
  go_wp2_with fail
  refine (unhide HC _).mono ?_
  rintro e w1 ⟨a, n, c, rfl, hr, b1⟩
  have HN := hide (row_len hr)
  have B1 := hide ((unhide B0).trans (b1.mono (unhide B0).size))
  clear hr b1
  go_wp2_with fail
  go_ret
  exact ⟨a, n, c, rfl, HN, unhide B1⟩
theorem row_lenR {B : Nat} {w : World} {a : Option Addr} {n c : Nat} {rs : List RecV} (h : RcRow B w (.slice a n c) rs) : n = rs.length := by
  obtain ⟨a', c', e⟩ := h.slice
  simp only [Value.slice.injEq] at e
  exact e.2.1
theorem small_recsP {rs : List RecV} (h : rs.length ≤ 201) (ha : ∀ r ∈ rs, Small4 r) : SmallRecS rs :=
  ⟨⟨by omega, fun x hx => by have := ha x hx; unfold Small4 at this; omega⟩, fun x hx => fit_of' (ha x hx)⟩
theorem rs_formP {w : World} {v : Value} {rs : List RecV} (h : RecSRd w v rs) : ∃ a n c, v = .slice a n c ∧ n = rs.length := by
  obtain ⟨a, c, rfl, _⟩ := h
  exact ⟨a, _, c, rfl, rfl⟩
theorem all_small {rs : List RecV} (h : ∀ r ∈ rs, Small4 r) : ∀ r ∈ rs, RecFit r := fun r hr => fit_of' (h r hr)
set_option maxHeartbeats 12800000 in
theorem prefix_walk (a a2 : Option Addr) (cap cap2 : Nat) (bs ms : List UInt8) (w : World) (hl : bs.length ≤ maxLen) (hc : bs.length ≤ cap) (hb : ByIn w a bs) (hl2 : ms.length ≤ maxLen) (hc2 : ms.length ≤ cap2) (hb2 : ByIn w a2 ms) :
    Calls Try.prog 3 #[.slice a bs.length cap, .slice a2 ms.length cap2] w fun e w' => e = .returned (.bool true) ∧ Below w.heap.size w w' := by
  have HD := hide (drawLogB_any w a cap bs hl hc hb)
  have hn : (bs.length : Int) ≤ 9223372036854775807 := by unfold maxLen at hl; omega
  have hm : (ms.length : Int) ≤ 9223372036854775807 := by unfold maxLen at hl2; omega
  clear hl hc hb hl2 hc2 hb2
  by_cases h1 : (1048576 : Int) < (bs.length : Int)
  · clear HD
    generalize bs.length = n at *
    generalize ms.length = m at *
    go_enter Try.func3, Try.ntmps3
    go_wp2_with fail
    go_ret
    exact ⟨rfl, Below.refl _ _⟩
  by_cases h2 : (1048576 : Int) < (ms.length : Int)
  · clear HD
    generalize bs.length = n at *
    generalize ms.length = m at *
    go_enter Try.func3, Try.ntmps3
    go_wp2_with fail
    go_ret
    exact ⟨rfl, Below.refl _ _⟩
  generalize bs.length = n at *
  generalize ms.length = m at *
  go_enter Try.func3, Try.ntmps3
  go_wp2_with fail
  refine (unhide HD).mono ?_
  rintro e w1 ⟨la, ln, lc, rs, rfl, HR1, HLN, HSM, b1⟩
  have B1 := hide b1
  have SM := hide (small_recsP (unhide HLN) (unhide HSM))
  have hln := (row_lenR (unhide HR1))
  have HLR := hide hln
  clear b1 HD hn h1 hln
  go_wp2_with fail
  refine (implLog_any rs _ w1 (unhide SM) (unhide HR1).rd).mono ?_
  rintro e w2 ⟨x1, n1, c1, rfl, r1, b2⟩
  have HR2 := hide ((unhide HR1).up b2)
  have X2 := hide r1
  have B2 := hide ((unhide B1).trans (b2.mono (unhide B1).size))
  clear b2 r1 HR1 B1
  go_wp2_with fail
  refine (specLog_any rs _ w2 (unhide SM) (unhide HR2).rd).mono ?_
  rintro e w3 ⟨y1, k1, d1, rfl, r3, b3⟩
  have HR3 := hide ((unhide HR2).up b3)
  have X3 := hide ((unhide X2).up b3)
  have B3 := hide ((unhide B2).trans (b3.mono (unhide B2).size))
  have cv1 := conv_back (unhide X3).rd
  have cv2 := conv_back r3.rd
  have hn1 := row_len (unhide X3)
  clear b3 r3 X2 HR2 B2
  cases hok : logOkB rs
  · have e0 : logOut rs = [] := by
      have := hok
      unfold logOkB at this
      unfold logOut
      cases h : logAll rs with
      | none => rfl
      | some x => rw [h] at this; cases this
    rw [e0] at hn1
    simp only [List.length_nil] at hn1
    subst hn1
    generalize (⟨(logOut rs).toArray⟩ : ByteArray) = st at *
    clear e0 hok
    go_wp2_with fail
    go_ret
    exact ⟨rfl, unhide B3⟩
  · obtain ⟨f1, f2, f3, f4⟩ := log_ok_form hok (all_small (unhide HSM))
    have HBG := hide (fun j => log_begin hok (all_small (unhide HSM)) j)
    have g1 := log_is (rest := []) f2 f3 (.inr readI_nil)
    rw [List.append_nil] at g1
    have HRD := hide (fun (v : Value) (W : World) (h : ByRd W v (recsB rs)) => implLogRead_any (recsB rs) v W (by omega) h)
    unfold RetLogR at HRD
    rw [g1.1, g1.2] at HRD
    have HCUT := hide (fun k hk => log_cut f2 f3 k hk)
    have HRC := hide (fun (k : Nat) (v : Value) (W : World) (h : ByRd W v ((recsB rs).take k)) => implLogRead_any ((recsB rs).take k) v W (by simp; omega) h)
    unfold RetLogR at HRC
    rw [f1] at cv1 cv2 X3 hn1
    have HOK := hide f2
    rw [← hn1] at HRD f4 HCUT
    have HN1 := hide hn1
    generalize (⟨(recsB rs).toArray⟩ : ByteArray) = st at *
    clear hok f1 f2 f3 g1 hn1
    go_wp2_with fail
    refine (unhide HRD _ w3 (unhide X3).rd).mono ?_
    rintro e w4 ⟨v4, rfl, R4, b4⟩
    obtain ⟨qa, qn, qc, rfl, hqn⟩ := rs_formP (unhide R4).rd
    have HR4 := hide ((unhide HR3).up b4)
    have X4 := hide ((unhide X3).up b4)
    have B4 := hide ((unhide B3).trans (b4.mono (unhide B3).size))
    clear b4 HR3 X3 B3 cv1 cv2 hqn HRD
    go_wp2_with fail
    refine (peRecs_same rs _ _ w4 (by have := unhide HLN; omega) (unhide R4).rd (unhide HR4).rd).mono ?_
    rintro e w5 ⟨rfl, b5⟩
    have HR5 := hide ((unhide HR4).up b5)
    have X5 := hide ((unhide X4).up b5)
    have B5 := hide ((unhide B4).trans (b5.mono (unhide B4).size))
    clear b5 HR4 X4 B4 R4
    have tm : ((m : Int) * 31).tmod ((n1 : Int) + 1) = ((m * 31 % (n1 + 1) : Nat) : Int) := by
      rw [Int.tmod_eq_emod_of_nonneg (by omega), Int.natCast_emod]
      simp
    have hk : m * 31 % (n1 + 1) ≤ n1 := by have := Nat.mod_lt (m * 31) (show 0 < n1 + 1 by omega); omega
    generalize m * 31 % (n1 + 1) = k at *
    obtain ⟨j, j1, j2, j3, j4, j5⟩ := unhide HCUT k hk
    have HRK := hide (fun (v : Value) (W : World) (h : ByRd W v ((recsB rs).take k)) => unhide HRC k v W h)
    rw [j2, j3] at HRK
    have HPB := hide (unhide HBG j)
    obtain ⟨P, HPL⟩ : ∃ P, Hid ((recsB (rs.take j)).length = P) := ⟨_, rfl⟩
    rw [unhide HPL] at HRK j4 j5
    have HJ1 := hide j1
    have HJ5 := hide j5
    clear j1 j2 j3 j5 HRC HCUT HBG
    have hPk : ¬ (k : Int) < (P : Int) := by omega
    have hcp : k ≤ c1 := by have := byRow_cap (unhide X5); omega
    go_wp2_with fail
    refine (unhide HRK _ w5 (by_cutP (unhide X5).rd (by rw [← unhide HN1]; exact hk))).mono ?_
    rintro e w6 ⟨v6, rfl, R6, b6⟩
    obtain ⟨sa, sn, sc, rfl, hsn⟩ := rs_formP (unhide R6).rd
    obtain rfl : sn = j := by rw [hsn, List.length_take]; have := unhide HJ1; omega
    have HR6 := hide ((unhide HR5).up b6)
    have B6 := hide ((unhide B5).trans (b6.mono (unhide B5).size))
    clear b6 HR5 X5 B5 hsn HRK tm hcp
    go_wp2_with fail
    refine (peBegins_any rs sn _ _ _ w6 (unhide HLN) (unhide HJ1) (unhide R6).rd (unhide HR6)).mono ?_
    rintro e w7 ⟨rfl, b7⟩
    have HR7 := hide ((unhide HR6).up b7)
    have R7 := hide ((unhide R6).up b7)
    have B7 := hide ((unhide B6).trans (b7.mono (unhide B6).size))
    clear b7 HR6 R6 B6
    go_wp2_with fail
    refine (specLog_any (rs.take sn) _ w7 (small_recsP (by have := unhide HLN; simp; omega) (fun r hr => unhide HSM r (List.mem_of_mem_take hr))) (unhide R7).rd).mono ?_
    rintro e w8 ⟨z1, zn, zc, rfl, r8, b8⟩
    obtain rfl : zn = P := by rw [row_len r8, (unhide HPB).2, unhide HPL]
    rw [(unhide HPB).1]
    have HR8 := hide ((unhide HR7).up b8)
    have B8 := hide ((unhide B7).trans (b8.mono (unhide B7).size))
    clear b8 r8 HR7 R7 B7 HPB
    by_cases hj : sn = ln
    · subst hj
      go_wp2_with fail
      go_ret
      exact ⟨rfl, unhide B8⟩
    · have hjl : sn < rs.length := by have := unhide HJ1; have := unhide HLR; omega
      rcases rcRow_form (unhide HR8) with ⟨e1, e2⟩ | ⟨g, cp, e1, _, hg⟩
      · subst e2; simp at hjl
      simp only [Value.slice.injEq] at e1
      obtain ⟨rfl, -, rfl⟩ := e1
      obtain ⟨a8, c8, e8, h8⟩ := (unhide HR8).rd
      simp only [Value.slice.injEq] at e8
      obtain ⟨rfl, -, rfl⟩ := e8
      rcases h8 with h8 | ⟨b8, o8, e8, _, hat⟩
      · subst h8; simp at hjl
      simp only [Option.some.injEq, Addr.mk.injEq, and_true] at e8
      obtain ⟨rfl, rfl⟩ := e8
      obtain ⟨c0, c1', c2, c3⟩ := hat sn hjl
      have HPY := hide (fun W => peBytes_any rs[sn] W (unhide HOK _ (List.getElem_mem hjl)).1)
      have HGT := hide (show k < zn + (recBytesL rs[sn]).length by
        rw [recBytesL_all (unhide HOK _ (List.getElem_mem hjl)).2]
        rcases unhide HJ5 with h | ⟨_, h⟩
        · exact absurd h (by omega)
        · exact h)
      have hrl := recBytesL_len rs[sn]
      have HRL := hide hrl
      unfold recVal at HPY
      generalize rs[sn] = r at *
      simp only [Nat.zero_add] at c0 c1' c2 c3
      have hjb : ((sn : Int) == (ln : Int)) = false := by simp; omega
      have hls : sn < ln := by have := unhide HLR; omega
      clear hj hat hjl HJ5 HJ1 hrl
      go_wp2_with fail
      refine (unhide HPY w8).mono ?_
      rintro e w9 ⟨pa, pn, pc, rfl, HPN, b9⟩
      have hpn : pn ≤ 222 := by have := unhide HPN; have := unhide HRL; omega
      have hgt : (k : Int) < (zn : Int) + (pn : Int) := by have := unhide HPN; have := unhide HGT; omega
      have B9 := hide ((unhide B8).trans (b9.mono (unhide B8).size))
      clear b9 B8 c0 c1' c2 c3
      go_wp2_with fail
      go_ret
      exact ⟨rfl, unhide B9⟩
end Go.Proofs.Ytcpjcdbhcllbiaa
