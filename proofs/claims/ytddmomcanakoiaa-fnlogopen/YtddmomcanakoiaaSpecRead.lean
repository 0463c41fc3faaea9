/-
  The specification's RecRead: the record with whose bytes they begin.
-/
import Derived.Test.YtddmomcanakoiaaMerged24
set_option linter.unusedVariables false
namespace Go.Proofs.Ytddmomcanakoiaa
open Go.RowKit Go.Maps Go.Deep

theorem retRead_none {bs : List UInt8} {w w' : World} (h : IsRead bs none) (hb : Below w.heap.size w w') : RetRead bs w (.returned (readVal none)) w' := ⟨none, rfl, hide h, hb⟩
def box0 (w : World) : World := w.alloc (.cells #[.int .i64 0, .string ⟨#[]⟩, .int .i64 0, .string ⟨#[]⟩] 32)
theorem box0_is (w : World) : BoxF (box0 w) w.heap.size [.int .i64 0, .string ⟨#[]⟩, .int .i64 0, .string ⟨#[]⟩] := boxF_new w [.int .i64 0, .string ⟨#[]⟩, .int .i64 0, .string ⟨#[]⟩] _
theorem box0_below (w : World) : Below w.heap.size w (box0 w) := (Below.refl _ _).alloc (Nat.le_refl _) _
theorem fill_below (w w5 : World) (a b c d : Value) (h : Below w.heap.size w w5) : Below w.heap.size w ((((w5.setCell ⟨w.heap.size, 0, none⟩ a).setCell ⟨w.heap.size, 1, none⟩ b).setCell ⟨w.heap.size, 2, none⟩ c).setCell ⟨w.heap.size, 3, none⟩ d) :=
  h.trans (Turn.below (S := [w.heap.size]) (((((Turn.refl [w.heap.size] w5).setCell (g := w.heap.size) (by simp) _ _).setCell (g := w.heap.size) (by simp) _ _).setCell (g := w.heap.size) (by simp) _ _).setCell (g := w.heap.size) (by simp) _ _) h.size (by simp))

set_option maxHeartbeats 3200000 in
theorem specRead_out (v : Value) (bs : List UInt8) (w : World) (hl : bs.length ≤ 1048576) (h : ByRd w v bs) (ho : sizeS bs < 0 ∨ (bs.length : Int) < sizeS bs) : Calls Try.prog 57 #[v] w fun e w' => RetRead bs w e w' := by
  have HN := hide (l7Size_any v bs (box0 w) hl (h.up (box0_below w)))
  have HR := hide (spec_no (bs := bs) (by rcases ho with h | h; exact .inl h; exact .inr (.inl h)))
  obtain ⟨a, c, rfl, hin, hcap⟩ := h
  clear hin
  go_enter Try.func57, Try.ntmps57
  go_wp2_with fail
  refine (unhide HN).mono ?_
  rintro e w1 ⟨rfl, hw1⟩
  obtain ⟨⟨x0, x1, x2, x3⟩, g0, g1, g2, g3⟩ := (box0_is w).four
  rw [← hw1] at x0 x1 x2 x3 g0 g1 g2 g3
  have HB := hide (show Below w.heap.size w w1 by rw [hw1]; exact box0_below w)
  clear HN hw1
  generalize sizeS bs = n at *
  generalize bs.length = len at *
  rcases ho with ho | ho
  · go_wp2_with fail
    refine bodyPost_ret (v := readVal none) (by simp [results, Try.results57, go_sem, x0, x1, x2, x3, readVal]) rfl ?_
    exact retRead_none (unhide HR) (fill_below _ _ _ _ _ _ (unhide HB))
  · have h0 : ¬ n < 0 := by omega
    go_wp2_with fail
    refine bodyPost_ret (v := readVal none) (by simp [results, Try.results57, go_sem, x0, x1, x2, x3, readVal]) rfl ?_
    exact retRead_none (unhide HR) (fill_below _ _ _ _ _ _ (unhide HB))

theorem sizeS_kinds {bs : List UInt8} {n : Nat} (h : sizeS bs = (n : Int)) : 2 ≤ bs.length ∧ ((byteN bs 0 = 1 ∧ 2 + byteN bs 1 + 1 ≤ bs.length ∧ n = 2 + byteN bs 1 + 1 + byteN bs (2 + byteN bs 1) + 2) ∨ (byteN bs 0 = 2 ∧ n = 2 + byteN bs 1 + 2) ∨ ((byteN bs 0 = 3 ∨ byteN bs 0 = 4) ∧ n = 2 + byteN bs 1 + 10)) := by
  unfold sizeS at h
  split at h
  · omega
  · refine ⟨by omega, ?_⟩
    unfold sizeK at h
    split at h
    · split at h <;> omega
    · split at h
      · omega
      · split at h <;> omega
theorem cut_drop_at {w w' : World} {B b off : Nat} {bs : List UInt8} (h : ByAt w b off bs) (hb : Below B w w') (hB : b < B) (i n : Nat) (hn : i + n ≤ bs.length) (c : Nat) (hc : n ≤ c) (hw : B ≤ w'.heap.size) : ByRd w' (.slice (some ⟨b, off + i, none⟩) n c) ((bs.drop i).take n) := by
  have e : ((bs.drop i).take n).length = n := by simp; omega
  refine ⟨_, c, by rw [e], .inr ⟨b, off + i, rfl, by omega, fun j hj => ?_⟩, by rw [e]; exact hc⟩
  have hj' : i + j < bs.length := by rw [e] at hj; omega
  have := (h.below hb hB) (i + j) hj'
  simp only [List.getElem_take, List.getElem_drop]
  rw [Nat.add_assoc]
  exact this

theorem specR_eq (bs : List UInt8) (n : Nat) : specR bs n = ⟨(byteN bs 0 : Int), baL ((bs.drop 2).take (byteN bs 1)), if byteN bs 0 = 3 ∨ byteN bs 0 = 4 then numL ((bs.drop (2 + byteN bs 1)).take 8) else 0, if byteN bs 0 = 1 then baL ((bs.drop (2 + byteN bs 1 + 1)).take (n - 2 - (2 + byteN bs 1 + 1))) else baL []⟩ := rfl
theorem below_drewN {B : Nat} {a w : World} (h : Below B a w) (n : Nat) : Below B a (w.drewN n) := ⟨h.os, h.tape, h.output, h.size, h.block⟩
structure Kept (P : Prop) : Prop where
  it : P
theorem key_of {P Q : Prop} (walk : Kept P → Q) (pf : P) : Q := walk ⟨pf⟩
theorem ba_ne {xs ys : List UInt8} (h : xs ≠ ys) : ((⟨xs.toArray⟩ : ByteArray).toList == (⟨ys.toArray⟩ : ByteArray).toList) = false := by
  rw [ByteArray.toList_eq, ByteArray.toList_eq]
  simpa using h
set_option maxRecDepth 100000 in
set_option maxHeartbeats 6400000 in
theorem specRead_in (v : Value) (bs : List UInt8) (w : World) (hl : bs.length ≤ 1048576) (h : ByRd w v bs) (n : Nat) (hn : sizeS bs = (n : Int)) (hnl : n ≤ bs.length) : Calls Try.prog 57 #[v] w fun e w' => RetRead bs w e w' := by
  have HN := hide (l7Size_any v bs (box0 w) hl (h.up (box0_below w)))
  have HLL := hide hl
  have HSN := hide hn
  have HNL := hide hnl
  have HFIT := hide (show RecFit (specR bs n) by rw [← spec_parse bs n hn hnl]; exact parse_fit bs hl)
  have HSR := hide (specR_eq bs n)
  rw [specR_eq] at HFIT
  obtain ⟨h2, hkn⟩ := sizeS_kinds hn
  have hnk : 2 + byteN bs 1 + 2 ≤ n := by omega
  obtain ⟨a, c, rfl, hin, hcap⟩ := h
  obtain ⟨b, off, rfl, hb, hc⟩ : ∃ b off, a = some ⟨b, off, none⟩ ∧ b < w.heap.size ∧ ByAt w b off bs := by
    rcases hin with h0 | h0
    · rw [h0] at h2; simp at h2
    · exact h0
  have i0 : 0 < bs.length := by omega
  have i1 : 1 < bs.length := by omega
  have b1 := byteN_lt bs 1
  have HC := hide hc
  clear hc hin
  rw [hn] at HN
  go_enter Try.func57, Try.ntmps57
  go_wp2_with fail
  refine (unhide HN).mono ?_
  rintro e w1 ⟨rfl, hw1⟩
  have HX := hide (box0_is w)
  rw [← hw1] at HX
  have HB := hide (show Below w.heap.size w w1 by rw [hw1]; exact box0_below w)
  have hsz : w1.heap.size = w.heap.size + 1 := by rw [hw1]; simp [box0]
  have HC1 := hide ((unhide HC).below (unhide HB) hb)
  clear HN hw1 HC
  have c0 : w1.cell? ⟨b, off, none⟩ = some (.int .u8 (byteN bs 0 : Int)) := byAt_N (unhide HC1) 0 (by omega)
  have c1 := byAt_N (unhide HC1) 1 (by omega)
  have hn0 : ¬ (n : Int) < 0 := by omega
  have hn1 : ¬ (bs.length : Int) < n := by omega
  have k255 := byteN_lt bs 0
  have HKB := hide (rfl : byteN bs 0 = byteN bs 0)
  have HMB := hide (rfl : byteN bs 1 = byteN bs 1)
  generalize hkk : byteN bs 0 = k at hkn c0 HSR HFIT k255
  generalize hmm : byteN bs 1 = m at hkn c1 HSR HFIT b1 hnk
  generalize htt : byteN bs (2 + m) = tt at hkn
  have HK := hide hkk
  have HM := hide hmm
  clear hkk hmm htt HKB HMB hn
  generalize hlen : bs.length = len at *
  have HLEN := hide hlen
  clear hlen
  have hc2 : ¬ c = 2 := by omega
  have hm2 : 2 + m ≤ c := by omega
  have hml : 2 + m ≤ len := by omega
  have HCUT := hide (show ∀ W, Below w.heap.size w1 W → ∀ i j C, i + j ≤ len → j ≤ C → ByRd W (.slice (some ⟨b, off + i, none⟩) j C) ((bs.drop i).take j) from fun W hW i j C h1 h2 => cut_drop_at (unhide HC1) hW hb i j (by rw [unhide HLEN]; exact h1) C h2 (by have := hW.size; omega))
  have hcv1 := conv_back (unhide HCUT w1.drew ((Below.refl _ _).drew) 2 m (c - 2) hml (by omega))
  have hcv2 := conv_back (unhide HCUT (w1.alloc (.cells #[.int .i64 0, .string ⟨#[]⟩, .int .i64 0, .string ⟨#[]⟩] 32)).drew ((Below.refl _ _).alloc (show w.heap.size ≤ w1.heap.size by omega) _).drew 2 m (c - 2) hml (by omega))
  simp only [baL] at HSR HFIT
  generalize (List.take m (List.drop 2 bs)).toArray = nm at *
  have hsz0 : w.heap.size ≤ w1.heap.size := by omega
  obtain ⟨w2, hw2⟩ : ∃ w2, w2 = (w1.alloc (.cells #[.int .i64 (k : Int), .string ⟨nm⟩, .int .i64 0, .string ⟨#[]⟩] 32)).drew := ⟨_, rfl⟩
  have Y2 := hide (show BoxF w2 (w.heap.size + 1) [.int .i64 (k : Int), .string ⟨nm⟩, .int .i64 0, .string ⟨#[]⟩] by rw [hw2, ← hsz]; exact (boxF_new w1 [.int .i64 (k : Int), .string ⟨nm⟩, .int .i64 0, .string ⟨#[]⟩] _).up (Below.refl _ _).drew)
  have B12 := hide (show Below w1.heap.size w1 w2 by rw [hw2]; exact ((Below.refl _ _).alloc (Nat.le_refl _) _).drew)
  have X2 := hide ((unhide HX).up (unhide B12))
  have B2 := hide ((unhide HB).trans ((unhide B12).mono hsz0))
  have BB2 := hide ((unhide B12).mono hsz0)
  clear HX HB HC1
  go_wp2_with fail
  have HWK := hide (show IntKind.i64.wrap (k : Int) = k by rw [IntKind.wrap_i64]; omega)
  apply key_of
  · intro KEY
    go_region_with fail
    all_goals first | exact KEY.it | (rw [unhide HWK]; exact KEY.it)
  rw [← hw2]
  clear hw2 hcv1 hcv2 c0 c1 hsz hsz0 B12 hn0 hn1
  obtain ⟨⟨y0, y1, y2, y3⟩, f0, f1, f2, f3⟩ := (unhide Y2).four
  rcases hkn with ⟨rfl, h3, h4⟩ | ⟨rfl, h4⟩ | ⟨h34, h4⟩
  · simp only [show ¬ ((1 : Nat) = 3 ∨ (1 : Nat) = 4) by omega, if_true, if_false] at HSR HFIT
    have hcv := conv_back (unhide HCUT w2 (unhide BB2) (2 + m + 1) (n - 2 - (2 + m + 1)) (c - (2 + m + 1)) (by omega) (by omega))
    generalize (List.take (n - 2 - (2 + m + 1)) (List.drop (2 + m + 1) bs)).toArray = tx at *
    have q1 : 2 + m + 1 ≤ n - 2 := by omega
    have q2 : ¬ c = 2 + m + 1 := by omega
    have q3 : 2 + (m : Int) + 1 ≤ (n : Int) - 2 := by omega
    have q4 : (n : Int) - 2 ≤ c := by omega
    have q5 : (2 + (m : Int) + 1).toNat = 2 + m + 1 := by omega
    have q6 : ((n : Int) - 2).toNat = n - 2 := by omega
    have T3 := hide ((Turn.refl [w.heap.size + 1] w2).setCell (g := w.heap.size + 1) (by simp) 3 (.string ⟨tx⟩))
    have Y3 := hide ((unhide Y2).set 3 (.string ⟨tx⟩) (by simp))
    simp only [List.set] at Y3
    have X3 := hide ((unhide X2).turn (unhide T3) (by intro hm; simp at hm <;> omega))
    have BB3 := hide ((unhide BB2).trans ((unhide T3).below (unhide B2).size (by intro q hq; simp at hq; omega)))
    have B3 := hide ((unhide B2).trans ((unhide T3).below (unhide B2).size (by intro q hq; simp at hq; omega)))
    have H4 := hide h4
    clear h4 h3 T3
    have HF := hide (fun W => specRecBytes_any ⟨((1 : Nat) : Int), ⟨nm⟩, 0, ⟨tx⟩⟩ W (unhide HFIT))
    unfold recVal RetRec at HF
    simp only at HF
    cases hok : recOkB ⟨((1 : Nat) : Int), ⟨nm⟩, 0, ⟨tx⟩⟩
    · have HO := hide (spec_no (bs := bs) (.inr (.inr ⟨n, unhide HSN, by rw [unhide HLEN]; exact hnl, .inl (by rw [unhide HSR]; exact hok)⟩)))
      rw [hok] at HF
      clear hok
      go_wp2_with fail
      refine (unhide HF _).mono ?_
      rintro e w4 ⟨a4, n4, c4, rfl, r4, b4⟩
      have X4 := hide ((unhide X3).up b4)
      have B4 := hide ((unhide B3).trans (b4.mono (unhide B3).size))
      clear b4 r4 y0 y1 y2 y3 f0 f1 f2 f3
      obtain ⟨⟨x0, x1, x2, x3⟩, g0, g1, g2, g3⟩ := (unhide X4).four
      go_wp2_with fail
      go_quiet (fail)
      go_wp2_with fail
      refine bodyPost_ret (v := readVal none) (by simp [results, Try.results57, go_sem, x0, x1, x2, x3, readVal]) rfl ?_
      exact retRead_none (unhide HO) (fill_below _ _ _ _ _ _ (below_drewN (unhide B4) _))
    · rw [hok] at HF
      by_cases heq : recAll ⟨((1 : Nat) : Int), ⟨nm⟩, 0, ⟨tx⟩⟩ = bs.take n
      · have HO := hide (show IsRead bs (some (⟨((1 : Nat) : Int), ⟨nm⟩, 0, ⟨tx⟩⟩, n)) by
          have hy := spec_yes (by rw [unhide HLEN]; exact hl) (unhide HSN) (by rw [unhide HLEN]; exact hnl) (by rw [unhide HSR]; exact hok) (by rw [unhide HSR]; exact heq)
          rw [unhide HSR] at hy
          exact hy)
        have HQ := hide (show recBytesL ⟨((1 : Nat) : Int), ⟨nm⟩, 0, ⟨tx⟩⟩ = (bs.drop 0).take n by rw [recBytesL, if_pos hok]; exact heq)
        clear hok heq
        go_wp2_with fail
        refine (unhide HF _).mono ?_
        rintro e w4 ⟨a4, n4, c4, rfl, r4, b4⟩
        have X4 := hide ((unhide X3).up b4)
        have Y4 := hide ((unhide Y3).up b4)
        have B4 := hide ((unhide B3).trans (b4.mono (unhide B3).size))
        have hva := fun q => conv_back (r4.rd.up (below_drewN (Below.refl _ _) q))
        have hvb := fun q => conv_back (unhide HCUT (w4.drewN q) (below_drewN ((unhide BB3).trans (b4.mono (unhide B3).size)) q) 0 n c (by omega) (by omega))
        rw [unhide HQ] at hva
        generalize (List.take n (List.drop 0 bs)).toArray = ss at hva hvb
        rw [Nat.add_zero] at hvb
        clear b4 r4 y0 y1 y2 y3 f0 f1 f2 f3
        obtain ⟨⟨x0, x1, x2, x3⟩, g0, g1, g2, g3⟩ := (unhide X4).four
        obtain ⟨⟨y0, y1, y2, y3⟩, f0, f1, f2, f3⟩ := (unhide Y4).four
        go_wp2_with fail
        go_quiet (fail)
        go_wp2_with fail
        refine bodyPost_ret (v := readVal (some (⟨((1 : Nat) : Int), ⟨nm⟩, 0, ⟨tx⟩⟩, n))) (by simp [results, Try.results57, go_sem, x0, x1, x2, x3, readVal]) rfl ?_
        exact ⟨_, rfl, HO, fill_below _ _ _ _ _ _ (below_drewN (unhide B4) _)⟩
      · have HO := hide (spec_no (bs := bs) (.inr (.inr ⟨n, unhide HSN, by rw [unhide HLEN]; exact hnl, .inr (by rw [unhide HSR]; exact heq)⟩)))
        have HQ := hide (show recBytesL ⟨((1 : Nat) : Int), ⟨nm⟩, 0, ⟨tx⟩⟩ = recAll ⟨((1 : Nat) : Int), ⟨nm⟩, 0, ⟨tx⟩⟩ by rw [recBytesL, if_pos hok])
        have HNE := hide (ba_ne (show recAll ⟨((1 : Nat) : Int), ⟨nm⟩, 0, ⟨tx⟩⟩ ≠ (bs.drop 0).take n from heq))
        clear hok heq
        go_wp2_with fail
        refine (unhide HF _).mono ?_
        rintro e w4 ⟨a4, n4, c4, rfl, r4, b4⟩
        have X4 := hide ((unhide X3).up b4)
        have B4 := hide ((unhide B3).trans (b4.mono (unhide B3).size))
        have hva := fun q => conv_back (r4.rd.up (below_drewN (Below.refl _ _) q))
        have hvb := fun q => conv_back (unhide HCUT (w4.drewN q) (below_drewN ((unhide BB3).trans (b4.mono (unhide B3).size)) q) 0 n c (by omega) (by omega))
        rw [unhide HQ] at hva
        have hne := unhide HNE
        generalize (List.take n (List.drop 0 bs)).toArray = ss at hva hvb hne
        generalize (recAll ⟨((1 : Nat) : Int), ⟨nm⟩, 0, ⟨tx⟩⟩).toArray = ss2 at hva hvb hne
        rw [Nat.add_zero] at hvb
        clear b4 r4 y0 y1 y2 y3 f0 f1 f2 f3
        obtain ⟨⟨x0, x1, x2, x3⟩, g0, g1, g2, g3⟩ := (unhide X4).four
        go_wp2_with fail
        go_quiet (fail)
        go_wp2_with fail
        refine bodyPost_ret (v := readVal none) (by simp [results, Try.results57, go_sem, x0, x1, x2, x3, readVal]) rfl ?_
        exact retRead_none (unhide HO) (fill_below _ _ _ _ _ _ (below_drewN (unhide B4) _))
  · simp only [show ¬ ((2 : Nat) = 3 ∨ (2 : Nat) = 4) by omega, show ¬ (2 : Nat) = 1 by omega, if_false] at HSR HFIT
    have H4 := hide h4
    clear h4
    have HF := hide (fun W => specRecBytes_any ⟨((2 : Nat) : Int), ⟨nm⟩, 0, ⟨#[]⟩⟩ W (unhide HFIT))
    unfold recVal RetRec at HF
    simp only at HF
    cases hok : recOkB ⟨((2 : Nat) : Int), ⟨nm⟩, 0, ⟨#[]⟩⟩
    · have HO := hide (spec_no (bs := bs) (.inr (.inr ⟨n, unhide HSN, by rw [unhide HLEN]; exact hnl, .inl (by rw [unhide HSR]; exact hok)⟩)))
      rw [hok] at HF
      clear hok
      go_wp2_with fail
      refine (unhide HF _).mono ?_
      rintro e w4 ⟨a4, n4, c4, rfl, r4, b4⟩
      have X4 := hide ((unhide X2).up b4)
      have B4 := hide ((unhide B2).trans (b4.mono (unhide B2).size))
      clear b4 r4 y0 y1 y2 y3 f0 f1 f2 f3
      obtain ⟨⟨x0, x1, x2, x3⟩, g0, g1, g2, g3⟩ := (unhide X4).four
      go_wp2_with fail
      go_quiet (fail)
      go_wp2_with fail
      refine bodyPost_ret (v := readVal none) (by simp [results, Try.results57, go_sem, x0, x1, x2, x3, readVal]) rfl ?_
      exact retRead_none (unhide HO) (fill_below _ _ _ _ _ _ (below_drewN (unhide B4) _))
    · rw [hok] at HF
      by_cases heq : recAll ⟨((2 : Nat) : Int), ⟨nm⟩, 0, ⟨#[]⟩⟩ = bs.take n
      · have HO := hide (show IsRead bs (some (⟨((2 : Nat) : Int), ⟨nm⟩, 0, ⟨#[]⟩⟩, n)) by
          have hy := spec_yes (by rw [unhide HLEN]; exact hl) (unhide HSN) (by rw [unhide HLEN]; exact hnl) (by rw [unhide HSR]; exact hok) (by rw [unhide HSR]; exact heq)
          rw [unhide HSR] at hy
          exact hy)
        have HQ := hide (show recBytesL ⟨((2 : Nat) : Int), ⟨nm⟩, 0, ⟨#[]⟩⟩ = (bs.drop 0).take n by rw [recBytesL, if_pos hok]; exact heq)
        clear hok heq
        go_wp2_with fail
        refine (unhide HF _).mono ?_
        rintro e w4 ⟨a4, n4, c4, rfl, r4, b4⟩
        have X4 := hide ((unhide X2).up b4)
        have Y4 := hide ((unhide Y2).up b4)
        have B4 := hide ((unhide B2).trans (b4.mono (unhide B2).size))
        have hva := fun q => conv_back (r4.rd.up (below_drewN (Below.refl _ _) q))
        have hvb := fun q => conv_back (unhide HCUT (w4.drewN q) (below_drewN ((unhide BB2).trans (b4.mono (unhide B2).size)) q) 0 n c (by omega) (by omega))
        rw [unhide HQ] at hva
        generalize (List.take n (List.drop 0 bs)).toArray = ss at hva hvb
        rw [Nat.add_zero] at hvb
        clear b4 r4 y0 y1 y2 y3 f0 f1 f2 f3
        obtain ⟨⟨x0, x1, x2, x3⟩, g0, g1, g2, g3⟩ := (unhide X4).four
        obtain ⟨⟨y0, y1, y2, y3⟩, f0, f1, f2, f3⟩ := (unhide Y4).four
        go_wp2_with fail
        go_quiet (fail)
        go_wp2_with fail
        refine bodyPost_ret (v := readVal (some (⟨((2 : Nat) : Int), ⟨nm⟩, 0, ⟨#[]⟩⟩, n))) (by simp [results, Try.results57, go_sem, x0, x1, x2, x3, readVal]) rfl ?_
        exact ⟨_, rfl, HO, fill_below _ _ _ _ _ _ (below_drewN (unhide B4) _)⟩
      · have HO := hide (spec_no (bs := bs) (.inr (.inr ⟨n, unhide HSN, by rw [unhide HLEN]; exact hnl, .inr (by rw [unhide HSR]; exact heq)⟩)))
        have HQ := hide (show recBytesL ⟨((2 : Nat) : Int), ⟨nm⟩, 0, ⟨#[]⟩⟩ = recAll ⟨((2 : Nat) : Int), ⟨nm⟩, 0, ⟨#[]⟩⟩ by rw [recBytesL, if_pos hok])
        have HNE := hide (ba_ne (show recAll ⟨((2 : Nat) : Int), ⟨nm⟩, 0, ⟨#[]⟩⟩ ≠ (bs.drop 0).take n from heq))
        clear hok heq
        go_wp2_with fail
        refine (unhide HF _).mono ?_
        rintro e w4 ⟨a4, n4, c4, rfl, r4, b4⟩
        have X4 := hide ((unhide X2).up b4)
        have B4 := hide ((unhide B2).trans (b4.mono (unhide B2).size))
        have hva := fun q => conv_back (r4.rd.up (below_drewN (Below.refl _ _) q))
        have hvb := fun q => conv_back (unhide HCUT (w4.drewN q) (below_drewN ((unhide BB2).trans (b4.mono (unhide B2).size)) q) 0 n c (by omega) (by omega))
        rw [unhide HQ] at hva
        have hne := unhide HNE
        generalize (List.take n (List.drop 0 bs)).toArray = ss at hva hvb hne
        generalize (recAll ⟨((2 : Nat) : Int), ⟨nm⟩, 0, ⟨#[]⟩⟩).toArray = ss2 at hva hvb hne
        rw [Nat.add_zero] at hvb
        clear b4 r4 y0 y1 y2 y3 f0 f1 f2 f3
        obtain ⟨⟨x0, x1, x2, x3⟩, g0, g1, g2, g3⟩ := (unhide X4).four
        go_wp2_with fail
        go_quiet (fail)
        go_wp2_with fail
        refine bodyPost_ret (v := readVal none) (by simp [results, Try.results57, go_sem, x0, x1, x2, x3, readVal]) rfl ?_
        exact retRead_none (unhide HO) (fill_below _ _ _ _ _ _ (below_drewN (unhide B4) _))
  · rcases h34 with rfl | rfl
    · simp only [show ¬ (3 : Nat) = 1 by omega, if_false] at HSR HFIT
      have HNUM := hide (l7Number_any (.slice (some ⟨b, off + (2 + m), none⟩) (len - (2 + m)) (c - (2 + m))) (bs.drop (2 + m)) w2 (by rw [List.length_drop, unhide HLEN]; omega) (by rw [List.length_drop, unhide HLEN]; omega) (by
        have hx := unhide HCUT w2 (unhide BB2) (2 + m) (len - (2 + m)) (c - (2 + m)) (by omega) (by omega)
        rw [List.take_of_length_le (by rw [List.length_drop, unhide HLEN]; omega)] at hx
        exact hx))
      generalize numL (List.take 8 (List.drop (2 + m) bs)) = nu at HSR HFIT HNUM
      have q1 : 2 + m ≤ len := by omega
      have q2 : ¬ c = 2 + m := by omega
      have q3 : 2 + (m : Int) ≤ (len : Int) := by omega
      have q5 : (2 + (m : Int)).toNat = 2 + m := by omega
      have T3 := hide ((Turn.refl [w.heap.size + 1] w2).setCell (g := w.heap.size + 1) (by simp) 2 (.int .i64 nu))
      have Y3 := hide ((unhide Y2).set 2 (.int .i64 nu) (by simp))
      simp only [List.set] at Y3
      have X3 := hide ((unhide X2).turn (unhide T3) (by intro hm; simp at hm <;> omega))
      have BB3 := hide ((unhide BB2).trans ((unhide T3).below (unhide B2).size (by intro q hq; simp at hq; omega)))
      have B3 := hide ((unhide B2).trans ((unhide T3).below (unhide B2).size (by intro q hq; simp at hq; omega)))
      have H4 := hide h4
      clear h4 T3
      have HF := hide (fun W => specRecBytes_any ⟨((3 : Nat) : Int), ⟨nm⟩, nu, ⟨#[]⟩⟩ W (unhide HFIT))
      unfold recVal RetRec at HF
      simp only at HF
      cases hok : recOkB ⟨((3 : Nat) : Int), ⟨nm⟩, nu, ⟨#[]⟩⟩
      · have HO := hide (spec_no (bs := bs) (.inr (.inr ⟨n, unhide HSN, by rw [unhide HLEN]; exact hnl, .inl (by rw [unhide HSR]; exact hok)⟩)))
        rw [hok] at HF
        clear hok
        go_wp2_with (first | (go_at_call 72; refine (unhide HNUM).mono ?_; rintro e w9 ⟨rfl, hw9⟩; rw [hw9]; clear hw9 w9) | fail)
        refine (unhide HF _).mono ?_
        rintro e w4 ⟨a4, n4, c4, rfl, r4, b4⟩
        have X4 := hide ((unhide X3).up b4)
        have B4 := hide ((unhide B3).trans (b4.mono (unhide B3).size))
        clear b4 r4 y0 y1 y2 y3 f0 f1 f2 f3
        obtain ⟨⟨x0, x1, x2, x3⟩, g0, g1, g2, g3⟩ := (unhide X4).four
        go_wp2_with fail
        go_quiet (fail)
        go_wp2_with fail
        refine bodyPost_ret (v := readVal none) (by simp [results, Try.results57, go_sem, x0, x1, x2, x3, readVal]) rfl ?_
        exact retRead_none (unhide HO) (fill_below _ _ _ _ _ _ (below_drewN (unhide B4) _))
      · rw [hok] at HF
        by_cases heq : recAll ⟨((3 : Nat) : Int), ⟨nm⟩, nu, ⟨#[]⟩⟩ = bs.take n
        · have HO := hide (show IsRead bs (some (⟨((3 : Nat) : Int), ⟨nm⟩, nu, ⟨#[]⟩⟩, n)) by
            have hy := spec_yes (by rw [unhide HLEN]; exact hl) (unhide HSN) (by rw [unhide HLEN]; exact hnl) (by rw [unhide HSR]; exact hok) (by rw [unhide HSR]; exact heq)
            rw [unhide HSR] at hy
            exact hy)
          have HQ := hide (show recBytesL ⟨((3 : Nat) : Int), ⟨nm⟩, nu, ⟨#[]⟩⟩ = (bs.drop 0).take n by rw [recBytesL, if_pos hok]; exact heq)
          clear hok heq
          go_wp2_with (first | (go_at_call 72; refine (unhide HNUM).mono ?_; rintro e w9 ⟨rfl, hw9⟩; rw [hw9]; clear hw9 w9) | fail)
          refine (unhide HF _).mono ?_
          rintro e w4 ⟨a4, n4, c4, rfl, r4, b4⟩
          have X4 := hide ((unhide X3).up b4)
          have Y4 := hide ((unhide Y3).up b4)
          have B4 := hide ((unhide B3).trans (b4.mono (unhide B3).size))
          have hva := fun q => conv_back (r4.rd.up (below_drewN (Below.refl _ _) q))
          have hvb := fun q => conv_back (unhide HCUT (w4.drewN q) (below_drewN ((unhide BB3).trans (b4.mono (unhide B3).size)) q) 0 n c (by omega) (by omega))
          rw [unhide HQ] at hva
          generalize (List.take n (List.drop 0 bs)).toArray = ss at hva hvb
          rw [Nat.add_zero] at hvb
          clear b4 r4 y0 y1 y2 y3 f0 f1 f2 f3
          obtain ⟨⟨x0, x1, x2, x3⟩, g0, g1, g2, g3⟩ := (unhide X4).four
          obtain ⟨⟨y0, y1, y2, y3⟩, f0, f1, f2, f3⟩ := (unhide Y4).four
          go_wp2_with fail
          go_quiet (fail)
          go_wp2_with fail
          refine bodyPost_ret (v := readVal (some (⟨((3 : Nat) : Int), ⟨nm⟩, nu, ⟨#[]⟩⟩, n))) (by simp [results, Try.results57, go_sem, x0, x1, x2, x3, readVal]) rfl ?_
          exact ⟨_, rfl, HO, fill_below _ _ _ _ _ _ (below_drewN (unhide B4) _)⟩
        · have HO := hide (spec_no (bs := bs) (.inr (.inr ⟨n, unhide HSN, by rw [unhide HLEN]; exact hnl, .inr (by rw [unhide HSR]; exact heq)⟩)))
          have HQ := hide (show recBytesL ⟨((3 : Nat) : Int), ⟨nm⟩, nu, ⟨#[]⟩⟩ = recAll ⟨((3 : Nat) : Int), ⟨nm⟩, nu, ⟨#[]⟩⟩ by rw [recBytesL, if_pos hok])
          have HNE := hide (ba_ne (show recAll ⟨((3 : Nat) : Int), ⟨nm⟩, nu, ⟨#[]⟩⟩ ≠ (bs.drop 0).take n from heq))
          clear hok heq
          go_wp2_with (first | (go_at_call 72; refine (unhide HNUM).mono ?_; rintro e w9 ⟨rfl, hw9⟩; rw [hw9]; clear hw9 w9) | fail)
          refine (unhide HF _).mono ?_
          rintro e w4 ⟨a4, n4, c4, rfl, r4, b4⟩
          have X4 := hide ((unhide X3).up b4)
          have B4 := hide ((unhide B3).trans (b4.mono (unhide B3).size))
          have hva := fun q => conv_back (r4.rd.up (below_drewN (Below.refl _ _) q))
          have hvb := fun q => conv_back (unhide HCUT (w4.drewN q) (below_drewN ((unhide BB3).trans (b4.mono (unhide B3).size)) q) 0 n c (by omega) (by omega))
          rw [unhide HQ] at hva
          have hne := unhide HNE
          generalize (List.take n (List.drop 0 bs)).toArray = ss at hva hvb hne
          generalize (recAll ⟨((3 : Nat) : Int), ⟨nm⟩, nu, ⟨#[]⟩⟩).toArray = ss2 at hva hvb hne
          rw [Nat.add_zero] at hvb
          clear b4 r4 y0 y1 y2 y3 f0 f1 f2 f3
          obtain ⟨⟨x0, x1, x2, x3⟩, g0, g1, g2, g3⟩ := (unhide X4).four
          go_wp2_with fail
          go_quiet (fail)
          go_wp2_with fail
          refine bodyPost_ret (v := readVal none) (by simp [results, Try.results57, go_sem, x0, x1, x2, x3, readVal]) rfl ?_
          exact retRead_none (unhide HO) (fill_below _ _ _ _ _ _ (below_drewN (unhide B4) _))
    · simp only [show ¬ (4 : Nat) = 1 by omega, if_false] at HSR HFIT
      have HNUM := hide (l7Number_any (.slice (some ⟨b, off + (2 + m), none⟩) (len - (2 + m)) (c - (2 + m))) (bs.drop (2 + m)) w2 (by rw [List.length_drop, unhide HLEN]; omega) (by rw [List.length_drop, unhide HLEN]; omega) (by
        have hx := unhide HCUT w2 (unhide BB2) (2 + m) (len - (2 + m)) (c - (2 + m)) (by omega) (by omega)
        rw [List.take_of_length_le (by rw [List.length_drop, unhide HLEN]; omega)] at hx
        exact hx))
      generalize numL (List.take 8 (List.drop (2 + m) bs)) = nu at HSR HFIT HNUM
      have q1 : 2 + m ≤ len := by omega
      have q2 : ¬ c = 2 + m := by omega
      have q3 : 2 + (m : Int) ≤ (len : Int) := by omega
      have q5 : (2 + (m : Int)).toNat = 2 + m := by omega
      have T3 := hide ((Turn.refl [w.heap.size + 1] w2).setCell (g := w.heap.size + 1) (by simp) 2 (.int .i64 nu))
      have Y3 := hide ((unhide Y2).set 2 (.int .i64 nu) (by simp))
      simp only [List.set] at Y3
      have X3 := hide ((unhide X2).turn (unhide T3) (by intro hm; simp at hm <;> omega))
      have BB3 := hide ((unhide BB2).trans ((unhide T3).below (unhide B2).size (by intro q hq; simp at hq; omega)))
      have B3 := hide ((unhide B2).trans ((unhide T3).below (unhide B2).size (by intro q hq; simp at hq; omega)))
      have H4 := hide h4
      clear h4 T3
      have HF := hide (fun W => specRecBytes_any ⟨((4 : Nat) : Int), ⟨nm⟩, nu, ⟨#[]⟩⟩ W (unhide HFIT))
      unfold recVal RetRec at HF
      simp only at HF
      cases hok : recOkB ⟨((4 : Nat) : Int), ⟨nm⟩, nu, ⟨#[]⟩⟩
      · have HO := hide (spec_no (bs := bs) (.inr (.inr ⟨n, unhide HSN, by rw [unhide HLEN]; exact hnl, .inl (by rw [unhide HSR]; exact hok)⟩)))
        rw [hok] at HF
        clear hok
        go_wp2_with (first | (go_at_call 72; refine (unhide HNUM).mono ?_; rintro e w9 ⟨rfl, hw9⟩; rw [hw9]; clear hw9 w9) | fail)
        refine (unhide HF _).mono ?_
        rintro e w4 ⟨a4, n4, c4, rfl, r4, b4⟩
        have X4 := hide ((unhide X3).up b4)
        have B4 := hide ((unhide B3).trans (b4.mono (unhide B3).size))
        clear b4 r4 y0 y1 y2 y3 f0 f1 f2 f3
        obtain ⟨⟨x0, x1, x2, x3⟩, g0, g1, g2, g3⟩ := (unhide X4).four
        go_wp2_with fail
        go_quiet (fail)
        go_wp2_with fail
        refine bodyPost_ret (v := readVal none) (by simp [results, Try.results57, go_sem, x0, x1, x2, x3, readVal]) rfl ?_
        exact retRead_none (unhide HO) (fill_below _ _ _ _ _ _ (below_drewN (unhide B4) _))
      · rw [hok] at HF
        by_cases heq : recAll ⟨((4 : Nat) : Int), ⟨nm⟩, nu, ⟨#[]⟩⟩ = bs.take n
        · have HO := hide (show IsRead bs (some (⟨((4 : Nat) : Int), ⟨nm⟩, nu, ⟨#[]⟩⟩, n)) by
            have hy := spec_yes (by rw [unhide HLEN]; exact hl) (unhide HSN) (by rw [unhide HLEN]; exact hnl) (by rw [unhide HSR]; exact hok) (by rw [unhide HSR]; exact heq)
            rw [unhide HSR] at hy
            exact hy)
          have HQ := hide (show recBytesL ⟨((4 : Nat) : Int), ⟨nm⟩, nu, ⟨#[]⟩⟩ = (bs.drop 0).take n by rw [recBytesL, if_pos hok]; exact heq)
          clear hok heq
          go_wp2_with (first | (go_at_call 72; refine (unhide HNUM).mono ?_; rintro e w9 ⟨rfl, hw9⟩; rw [hw9]; clear hw9 w9) | fail)
          refine (unhide HF _).mono ?_
          rintro e w4 ⟨a4, n4, c4, rfl, r4, b4⟩
          have X4 := hide ((unhide X3).up b4)
          have Y4 := hide ((unhide Y3).up b4)
          have B4 := hide ((unhide B3).trans (b4.mono (unhide B3).size))
          have hva := fun q => conv_back (r4.rd.up (below_drewN (Below.refl _ _) q))
          have hvb := fun q => conv_back (unhide HCUT (w4.drewN q) (below_drewN ((unhide BB3).trans (b4.mono (unhide B3).size)) q) 0 n c (by omega) (by omega))
          rw [unhide HQ] at hva
          generalize (List.take n (List.drop 0 bs)).toArray = ss at hva hvb
          rw [Nat.add_zero] at hvb
          clear b4 r4 y0 y1 y2 y3 f0 f1 f2 f3
          obtain ⟨⟨x0, x1, x2, x3⟩, g0, g1, g2, g3⟩ := (unhide X4).four
          obtain ⟨⟨y0, y1, y2, y3⟩, f0, f1, f2, f3⟩ := (unhide Y4).four
          go_wp2_with fail
          go_quiet (fail)
          go_wp2_with fail
          refine bodyPost_ret (v := readVal (some (⟨((4 : Nat) : Int), ⟨nm⟩, nu, ⟨#[]⟩⟩, n))) (by simp [results, Try.results57, go_sem, x0, x1, x2, x3, readVal]) rfl ?_
          exact ⟨_, rfl, HO, fill_below _ _ _ _ _ _ (below_drewN (unhide B4) _)⟩
        · have HO := hide (spec_no (bs := bs) (.inr (.inr ⟨n, unhide HSN, by rw [unhide HLEN]; exact hnl, .inr (by rw [unhide HSR]; exact heq)⟩)))
          have HQ := hide (show recBytesL ⟨((4 : Nat) : Int), ⟨nm⟩, nu, ⟨#[]⟩⟩ = recAll ⟨((4 : Nat) : Int), ⟨nm⟩, nu, ⟨#[]⟩⟩ by rw [recBytesL, if_pos hok])
          have HNE := hide (ba_ne (show recAll ⟨((4 : Nat) : Int), ⟨nm⟩, nu, ⟨#[]⟩⟩ ≠ (bs.drop 0).take n from heq))
          clear hok heq
          go_wp2_with (first | (go_at_call 72; refine (unhide HNUM).mono ?_; rintro e w9 ⟨rfl, hw9⟩; rw [hw9]; clear hw9 w9) | fail)
          refine (unhide HF _).mono ?_
          rintro e w4 ⟨a4, n4, c4, rfl, r4, b4⟩
          have X4 := hide ((unhide X3).up b4)
          have B4 := hide ((unhide B3).trans (b4.mono (unhide B3).size))
          have hva := fun q => conv_back (r4.rd.up (below_drewN (Below.refl _ _) q))
          have hvb := fun q => conv_back (unhide HCUT (w4.drewN q) (below_drewN ((unhide BB3).trans (b4.mono (unhide B3).size)) q) 0 n c (by omega) (by omega))
          rw [unhide HQ] at hva
          have hne := unhide HNE
          generalize (List.take n (List.drop 0 bs)).toArray = ss at hva hvb hne
          generalize (recAll ⟨((4 : Nat) : Int), ⟨nm⟩, nu, ⟨#[]⟩⟩).toArray = ss2 at hva hvb hne
          rw [Nat.add_zero] at hvb
          clear b4 r4 y0 y1 y2 y3 f0 f1 f2 f3
          obtain ⟨⟨x0, x1, x2, x3⟩, g0, g1, g2, g3⟩ := (unhide X4).four
          go_wp2_with fail
          go_quiet (fail)
          go_wp2_with fail
          refine bodyPost_ret (v := readVal none) (by simp [results, Try.results57, go_sem, x0, x1, x2, x3, readVal]) rfl ?_
          exact retRead_none (unhide HO) (fill_below _ _ _ _ _ _ (below_drewN (unhide B4) _))
end Go.Proofs.Ytddmomcanakoiaa
