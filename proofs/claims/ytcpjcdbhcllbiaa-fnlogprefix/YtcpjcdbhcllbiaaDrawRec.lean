/-
  What the laws on records draw: a record, every way through the specification's l32Rec.
-/
import Derived.Test.YtcpjcdbhcllbiaaDrawRecA
set_option linter.unusedVariables false
namespace Go.Proofs.Ytcpjcdbhcllbiaa
open Go.RowKit Go.Maps Go.Deep

set_option maxRecDepth 20000 in
set_option maxHeartbeats 16000000 in
theorem l32Rec_any (w : World) (base g p : Nat) (hp : p ≤ 100000000) (hr : RdIn base w g p) :
    Calls Try.prog 19 #[.pointer (some ⟨g, 0, none⟩)] w fun e w' => RetRecD base g p w e w' := by
  have hgl := hr.lt
  have hga := hr.above
  have BR0 := hide (boxF_new4 w (.int .i64 0) (.string ⟨#[]⟩) (.int .i64 0) (.string ⟨#[]⟩) 32)
  have bb := (Below.refl w.heap.size w).alloc (Nat.le_refl _) (.cells #[.int .i64 0, .string ⟨#[]⟩, .int .i64 0, .string ⟨#[]⟩] 32)
  have R0 := hide (RdIn.turn (S := []) hr (Turn.of_below bb) (by simp) (by simp))
  have T0 := hide (show Turn [g] w _ from Turn.of_below bb)
  clear hr bb
  go_enter Try.func19, Try.ntmps19
  go_wp2_with fail
  have hgr : w.heap.size ≠ g := by omega
  have hrn : w.heap.size ≤ w.heap.size := Nat.le_refl _
  have hrb : base ≤ w.heap.size := by omega
  have hz0 : w.heap.size < (w.alloc (.cells #[.int .i64 0, .string ⟨#[]⟩, .int .i64 0, .string ⟨#[]⟩] 32)).heap.size := by simp
  have hz1 : (w.alloc (.cells #[.int .i64 0, .string ⟨#[]⟩, .int .i64 0, .string ⟨#[]⟩] 32)).heap.size = w.heap.size + 1 := by simp
  generalize w.alloc (.cells #[.int .i64 0, .string ⟨#[]⟩, .int .i64 0, .string ⟨#[]⟩] 32) = W0 at *
  have ba := (Below.refl W0.heap.size W0).alloc (Nat.le_refl _) (.cells #[.string ⟨#[120]⟩, .string ⟨#[121]⟩, .string ⟨#[115, 45, 49]⟩, .string ⟨#[97, 98, 99, 100, 101, 102, 103, 104]⟩, .string ⟨#[122, 57]⟩] 9)
  have hc3 := hide (show ∀ j, j < 5 → (W0.alloc (.cells #[.string ⟨#[120]⟩, .string ⟨#[121]⟩, .string ⟨#[115, 45, 49]⟩, .string ⟨#[97, 98, 99, 100, 101, 102, 103, 104]⟩, .string ⟨#[122, 57]⟩] 9)).cell? ⟨W0.heap.size, j, none⟩ = some (.string (nmF j)) from fun j hj => by
    rw [World.cell?_alloc_at _ _ _ _ rfl]
    match j, hj with
    | 0, _ | 1, _ | 2, _ | 3, _ | 4, _ => rfl)
  have B2l : W0.heap.size < (W0.alloc (.cells #[.string ⟨#[120]⟩, .string ⟨#[121]⟩, .string ⟨#[115, 45, 49]⟩, .string ⟨#[97, 98, 99, 100, 101, 102, 103, 104]⟩, .string ⟨#[122, 57]⟩] 9)).heap.size := by simp
  have hg4 : W0.heap.size ≠ g := by have := (unhide R0).lt; omega
  have R5 := hide (RdIn.turn (S := []) (unhide R0) (Turn.of_below ba) (by simp) (by simp))
  have T6 := hide (Turn.trans (unhide T0) (Turn.of_below ba))
  have BR7 := hide ((unhide BR0).up ba)
  clear R0 T0 BR0
  clear ba
  generalize W0.alloc (.cells #[.string ⟨#[120]⟩, .string ⟨#[121]⟩, .string ⟨#[115, 45, 49]⟩, .string ⟨#[97, 98, 99, 100, 101, 102, 103, 104]⟩, .string ⟨#[122, 57]⟩] 9) = w1 at *
  rw [hz1] at hc3 hg4 B2l
  refine (pick_any w1 base g (p + 0) 5 (by omega) (by omega) (by omega) (unhide R5)).mono ?_
  rintro e w8 ⟨v1, rfl, v1a, v1b, hr, ht⟩
  have v1t : v1.toNat < 5 := by omega
  have c9 := (ht.cell B2l (by simpa using hg4)).trans (unhide hc3 v1.toNat v1t)
  have R10 := hide (hr)
  have T11 := hide (Turn.trans (unhide T6) ht)
  have BR12 := hide ((unhide BR7).turn ht (by simpa using hgr))
  clear R5 T6 BR7
  clear hr ht hc3
  go_wp2_with fail
  refine (pick_any w8 base g (p + 1) 4 (by omega) (by omega) (by omega) (unhide R10)).mono ?_
  rintro e w14 ⟨v2, rfl, v2a, v2b, hr, ht⟩
  have R15 := hide (hr)
  have T16 := hide (Turn.trans (unhide T11) ht)
  have BR17 := hide ((unhide BR12).turn ht (by simpa using hgr))
  clear R10 T11 BR12
  clear hr ht
  have hnm := nmF_size v1.toNat
  generalize nmF v1.toNat = nm at *
  have hbb : w.heap.size < w14.heap.size := (unhide BR17).1.1
  have hrl : g < w14.heap.size := (unhide R15).lt
  by_cases k1 : v2 = 0
  · subst k1
    have BX0 := hide (boxF_new4 w14 (.int .i64 1) (.string nm) (.int .i64 0) (.string ⟨#[]⟩) 32)
    have ba := (Below.refl w14.heap.size w14).alloc (Nat.le_refl _) (.cells #[.int .i64 1, .string nm, .int .i64 0, .string ⟨#[]⟩] 32)
    have hgx : w14.heap.size ≠ g := by omega
    have hbr : w.heap.size ≠ w14.heap.size := by omega
    have hbn : w.heap.size ≤ w14.heap.size := by omega
    have hbx : base ≤ w14.heap.size := by omega
    have R18 := hide (RdIn.turn (S := []) (unhide R15) (Turn.of_below ba) (by simp) (by simp))
    have T19 := hide (Turn.trans (unhide T16) (Turn.of_below ba))
    have BR20 := hide ((unhide BR17).up ba)
    clear R15 T16 BR17
    clear ba
    obtain ⟨⟨x0, x1, x2, x3⟩, f0, f1, f2, f3⟩ := (unhide BX0).four
    go_wp2_with fail
    generalize w14.alloc (.cells #[.int .i64 1, .string nm, .int .i64 0, .string ⟨#[]⟩] 32) = w21 at *
    generalize w14.heap.size = bx at *
    clear x0 x1 x2 x3 f0 f1 f2 f3
    refine (pick_any w21 base g (p + 2) 5 (by omega) (by omega) (by omega) (unhide R18)).mono ?_
    rintro e w22 ⟨v3, rfl, v3a, v3b, hr, ht⟩
    have R23 := hide (hr)
    have T24 := hide (Turn.trans (unhide T19) ht)
    have BX25 := hide ((unhide BX0).turn ht (by simpa using hgx))
    have BR26 := hide ((unhide BR20).turn ht (by simpa using hgr))
    clear R18 T19 BX0 BR20
    clear hr ht
    obtain ⟨n3, rfl⟩ := Int.eq_ofNat_of_zero_le v3a
    go_wp2_with fail
    refine (many_any _ n3 1000 w22 (by omega) ?_ (by decide) (by omega) (by omega)).mono ?_
    · show 4 * _ ≤ 1000
      omega
    rintro e w27 ⟨⟨t3, rfl, t3s⟩, hw⟩
    rw [hw]
    clear hw w27
    obtain ⟨⟨x0, x1, x2, x3⟩, f0, f1, f2, f3⟩ := (unhide BX25).four
    go_wp2_with fail
    have BX29 := hide (show BoxF (w22.setCell ⟨bx, 3, none⟩ (.string t3)) bx [.int .i64 1, .string nm, .int .i64 0, .string t3] from (unhide BX25).set 3 (.string t3) (by simp))
    have BR30 := hide ((unhide BR26).far 3 (.string t3) hbr)
    have R31 := hide (RdIn.turn (S := [bx]) (unhide R23) ((Turn.refl [bx] w22).setCell (g := bx) (by simp) 3 (.string t3)) (by simpa using Ne.symm hgx) (by simpa using hbx))
    have T32 := hide (set_new (unhide T24) hbn 3 (.string t3))
    clear BX25 BR26 R23 T24
    clear x0 x1 x2 x3 f0 f1 f2 f3
    generalize w22.setCell ⟨bx, 3, none⟩ (.string t3) = w28 at *
    refine (pick_any w28 base g (p + 3) 24 (by omega) (by omega) (by omega) (unhide R31)).mono ?_
    rintro e w33 ⟨v4, rfl, v4a, v4b, hr, ht⟩
    have R34 := hide (hr)
    have T35 := hide (Turn.trans (unhide T32) ht)
    have BX36 := hide ((unhide BX29).turn ht (by simpa using hgx))
    have BR37 := hide ((unhide BR30).turn ht (by simpa using hgr))
    clear R31 T32 BX29 BR30
    clear hr ht
    by_cases y0 : v4 = 0
    · subst y0
      go_wp2_with fail
      refine (pick_any w33 base g (p + 4) 3 (by omega) (by omega) (by omega) (unhide R34)).mono ?_
      rintro e w38 ⟨v5, rfl, v5a, v5b, hr, ht⟩
      have R39 := hide (hr)
      have T40 := hide (Turn.trans (unhide T35) ht)
      have BX41 := hide ((unhide BX36).turn ht (by simpa using hgx))
      have BR42 := hide ((unhide BR37).turn ht (by simpa using hgr))
      clear R34 T35 BX36 BR37
      clear hr ht
      obtain ⟨n5, rfl⟩ := Int.eq_ofNat_of_zero_le v5a
      have n5e := hide (show (199 : Int) + (n5 : Int) = ((199 + n5 : Nat) : Int) by omega)
      go_wp2_with fail
      rw [unhide n5e]
      refine (many_any _ (199 + n5) 1000 w38 (by omega) ?_ (by decide) (by omega) (by omega)).mono ?_
      · show 1 * _ ≤ 1000
        omega
      rintro e w43 ⟨⟨t5, rfl, t5s⟩, hw⟩
      rw [hw]
      clear hw w43
      obtain ⟨⟨x0, x1, x2, x3⟩, f0, f1, f2, f3⟩ := (unhide BX41).four
      go_wp2_with fail
      have BX45 := hide (show BoxF (w38.setCell ⟨bx, 3, none⟩ (.string t5)) bx [.int .i64 1, .string nm, .int .i64 0, .string t5] from (unhide BX41).set 3 (.string t5) (by simp))
      have BR46 := hide ((unhide BR42).far 3 (.string t5) hbr)
      have R47 := hide (RdIn.turn (S := [bx]) (unhide R39) ((Turn.refl [bx] w38).setCell (g := bx) (by simp) 3 (.string t5)) (by simpa using Ne.symm hgx) (by simpa using hbx))
      have T48 := hide (set_new (unhide T40) hbn 3 (.string t5))
      clear BX41 BR42 R39 T40
      clear x0 x1 x2 x3 f0 f1 f2 f3
      generalize w38.setCell ⟨bx, 3, none⟩ (.string t5) = w44 at *
      refine (pick_any w44 base g (p + 5) 60 (by omega) (by omega) (by omega) (unhide R47)).mono ?_
      rintro e w50 ⟨v49, rfl, v49a, v49b, hr, ht⟩
      have R51 := hide (hr)
      have T52 := hide (Turn.trans (unhide T48) ht)
      have BX53 := hide ((unhide BX45).turn ht (by simpa using hgx))
      have BR54 := hide ((unhide BR46).turn ht (by simpa using hgr))
      clear R47 T48 BX45 BR46
      clear hr ht
      by_cases q0 : v49 = 0
      · subst q0
        go_wp2_with fail
        have ba := (Below.refl w50.heap.size w50).alloc (Nat.le_refl _) (.cells #[.string ⟨#[]⟩, .string ⟨#[88]⟩, .string ⟨#[97, 98, 99, 100, 101, 102, 103, 104, 105]⟩, .string ⟨#[97, 32, 98]⟩] 9)
        have hc58 := hide (show ∀ j, j < 4 → (w50.alloc (.cells #[.string ⟨#[]⟩, .string ⟨#[88]⟩, .string ⟨#[97, 98, 99, 100, 101, 102, 103, 104, 105]⟩, .string ⟨#[97, 32, 98]⟩] 9)).cell? ⟨w50.heap.size, j, none⟩ = some (.string (badF j)) from fun j hj => by
          rw [World.cell?_alloc_at _ _ _ _ rfl]
          match j, hj with
          | 0, _ | 1, _ | 2, _ | 3, _ => rfl)
        have B57l : w50.heap.size < (w50.alloc (.cells #[.string ⟨#[]⟩, .string ⟨#[88]⟩, .string ⟨#[97, 98, 99, 100, 101, 102, 103, 104, 105]⟩, .string ⟨#[97, 32, 98]⟩] 9)).heap.size := by simp
        have hg59 : w50.heap.size ≠ g := by have := (unhide R51).lt; omega
        have R60 := hide (RdIn.turn (S := []) (unhide R51) (Turn.of_below ba) (by simp) (by simp))
        have T61 := hide (Turn.trans (unhide T52) (Turn.of_below ba))
        have BX62 := hide ((unhide BX53).up ba)
        have BR63 := hide ((unhide BR54).up ba)
        clear R51 T52 BX53 BR54
        clear ba
        generalize w50.alloc (.cells #[.string ⟨#[]⟩, .string ⟨#[88]⟩, .string ⟨#[97, 98, 99, 100, 101, 102, 103, 104, 105]⟩, .string ⟨#[97, 32, 98]⟩] 9) = w56 at *
        generalize w50.heap.size = B57 at *
        refine (pick_any w56 base g (p + 6) 4 (by omega) (by omega) (by omega) (unhide R60)).mono ?_
        rintro e w64 ⟨v55, rfl, v55a, v55b, hr, ht⟩
        have v55t : v55.toNat < 4 := by omega
        have c65 := (ht.cell B57l (by simpa using hg59)).trans (unhide hc58 v55.toNat v55t)
        have R66 := hide (hr)
        have T67 := hide (Turn.trans (unhide T61) ht)
        have BX68 := hide ((unhide BX62).turn ht (by simpa using hgx))
        have BR69 := hide ((unhide BR63).turn ht (by simpa using hgr))
        clear R60 T61 BX62 BR63
        clear hr ht hc58
        obtain ⟨⟨x0, x1, x2, x3⟩, f0, f1, f2, f3⟩ := (unhide BX68).four
        obtain ⟨⟨z0, z1, z2, z3⟩, h0, h1, h2, h3⟩ := (unhide BR69).four
        go_wp2_with fail
        have BR70 := hide ((unhide BR69).far 1 (.string (badF v55.toNat)) hbr)
        have R71 := hide (RdIn.turn (S := [bx]) (unhide R66) ((Turn.refl [bx] w64).setCell (g := bx) (by simp) 1 (.string (badF v55.toNat))) (by simpa using Ne.symm hgx) (by simpa using hbx))
        have T72 := hide (set_new (unhide T67) hbn 1 (.string (badF v55.toNat)))
        refine ret_rec (unhide BR70) rfl ?_ ?_ ?_ ?_ ?_ ?_ (unhide R71) hgr.symm hrn hrb (unhide T72)
        · rfl
        · exact (badF_size _)
        · exact (by omega)
        · exact ⟨by omega, by omega⟩
        · exact ⟨by omega, by omega⟩
        · omega
      by_cases q1 : v49 = 1
      · subst q1
        go_wp2_with fail
        have ba := (Below.refl w50.heap.size w50).alloc (Nat.le_refl _) (.cells #[.int .i64 0, .int .i64 5, .int .i64 (-1), .int .i64 257] 3)
        have hc76 := hide (show ∀ j, j < 4 → (w50.alloc (.cells #[.int .i64 0, .int .i64 5, .int .i64 (-1), .int .i64 257] 3)).cell? ⟨w50.heap.size, j, none⟩ = some (.int .i64 (kdF j)) from fun j hj => by
          rw [World.cell?_alloc_at _ _ _ _ rfl]
          match j, hj with
          | 0, _ | 1, _ | 2, _ | 3, _ => rfl)
        have B75l : w50.heap.size < (w50.alloc (.cells #[.int .i64 0, .int .i64 5, .int .i64 (-1), .int .i64 257] 3)).heap.size := by simp
        have hg77 : w50.heap.size ≠ g := by have := (unhide R51).lt; omega
        have R78 := hide (RdIn.turn (S := []) (unhide R51) (Turn.of_below ba) (by simp) (by simp))
        have T79 := hide (Turn.trans (unhide T52) (Turn.of_below ba))
        have BX80 := hide ((unhide BX53).up ba)
        have BR81 := hide ((unhide BR54).up ba)
        clear R51 T52 BX53 BR54
        clear ba
        generalize w50.alloc (.cells #[.int .i64 0, .int .i64 5, .int .i64 (-1), .int .i64 257] 3) = w74 at *
        generalize w50.heap.size = B75 at *
        refine (pick_any w74 base g (p + 6) 4 (by omega) (by omega) (by omega) (unhide R78)).mono ?_
        rintro e w82 ⟨v73, rfl, v73a, v73b, hr, ht⟩
        have v73t : v73.toNat < 4 := by omega
        have c83 := (ht.cell B75l (by simpa using hg77)).trans (unhide hc76 v73.toNat v73t)
        have R84 := hide (hr)
        have T85 := hide (Turn.trans (unhide T79) ht)
        have BX86 := hide ((unhide BX80).turn ht (by simpa using hgx))
        have BR87 := hide ((unhide BR81).turn ht (by simpa using hgr))
        clear R78 T79 BX80 BR81
        clear hr ht hc76
        obtain ⟨⟨x0, x1, x2, x3⟩, f0, f1, f2, f3⟩ := (unhide BX86).four
        obtain ⟨⟨z0, z1, z2, z3⟩, h0, h1, h2, h3⟩ := (unhide BR87).four
        go_wp2_with fail
        have BR88 := hide ((unhide BR87).far 0 (.int .i64 (kdF v73.toNat)) hbr)
        have R89 := hide (RdIn.turn (S := [bx]) (unhide R84) ((Turn.refl [bx] w82).setCell (g := bx) (by simp) 0 (.int .i64 (kdF v73.toNat))) (by simpa using Ne.symm hgx) (by simpa using hbx))
        have T90 := hide (set_new (unhide T85) hbn 0 (.int .i64 (kdF v73.toNat)))
        refine ret_rec (unhide BR88) rfl ?_ ?_ ?_ ?_ ?_ ?_ (unhide R89) hgr.symm hrn hrb (unhide T90)
        · rfl
        · exact hnm
        · exact (by omega)
        · exact (kdF_fit _)
        · exact ⟨by omega, by omega⟩
        · omega
      by_cases q2 : v49 = 2
      · subst q2
        obtain ⟨⟨x0, x1, x2, x3⟩, f0, f1, f2, f3⟩ := (unhide BX53).four
        obtain ⟨⟨z0, z1, z2, z3⟩, h0, h1, h2, h3⟩ := (unhide BR54).four
        go_wp2_with fail
        have BR91 := hide ((unhide BR54).far 2 (.int .i64 1) hbr)
        have R92 := hide (RdIn.turn (S := [bx]) (unhide R51) ((Turn.refl [bx] w50).setCell (g := bx) (by simp) 2 (.int .i64 1)) (by simpa using Ne.symm hgx) (by simpa using hbx))
        have T93 := hide (set_new (unhide T52) hbn 2 (.int .i64 1))
        refine ret_rec (unhide BR91) rfl ?_ ?_ ?_ ?_ ?_ ?_ (unhide R92) hgr.symm hrn hrb (unhide T93)
        · rfl
        · exact hnm
        · exact (by omega)
        · exact ⟨by omega, by omega⟩
        · exact ⟨by omega, by omega⟩
        · omega
      by_cases q3 : v49 = 3
      · subst q3
        obtain ⟨⟨x0, x1, x2, x3⟩, f0, f1, f2, f3⟩ := (unhide BX53).four
        obtain ⟨⟨z0, z1, z2, z3⟩, h0, h1, h2, h3⟩ := (unhide BR54).four
        go_wp2_with fail
        have BR94 := hide ((unhide BR54).far 3 (.string ⟨#[116]⟩) hbr)
        have R95 := hide (RdIn.turn (S := [bx]) (unhide R51) ((Turn.refl [bx] w50).setCell (g := bx) (by simp) 3 (.string ⟨#[116]⟩)) (by simpa using Ne.symm hgx) (by simpa using hbx))
        have T96 := hide (set_new (unhide T52) hbn 3 (.string ⟨#[116]⟩))
        refine ret_rec (unhide BR94) rfl ?_ ?_ ?_ ?_ ?_ ?_ (unhide R95) hgr.symm hrn hrb (unhide T96)
        · rfl
        · exact hnm
        · exact (by decide)
        · exact ⟨by omega, by omega⟩
        · exact ⟨by omega, by omega⟩
        · omega
      have e0 : (v49 == 0) = false := by rw [beq_eq_false_iff_ne]; exact q0
      have e1 : (v49 == 1) = false := by rw [beq_eq_false_iff_ne]; exact q1
      have e2 : (v49 == 2) = false := by rw [beq_eq_false_iff_ne]; exact q2
      have e3 : (v49 == 3) = false := by rw [beq_eq_false_iff_ne]; exact q3
      clear q0 q1 q2 q3
      obtain ⟨⟨x0, x1, x2, x3⟩, f0, f1, f2, f3⟩ := (unhide BX53).four
      obtain ⟨⟨z0, z1, z2, z3⟩, h0, h1, h2, h3⟩ := (unhide BR54).four
      go_wp2_with fail
      refine ret_rec (unhide BR54) rfl ?_ ?_ ?_ ?_ ?_ ?_ (unhide R51) hgr.symm hrn hrb (unhide T52)
      · rfl
      · exact hnm
      · exact (by omega)
      · exact ⟨by omega, by omega⟩
      · exact ⟨by omega, by omega⟩
      · omega
    have y1 : (v4 == 0) = false := by rw [beq_eq_false_iff_ne]; exact y0
    clear y0
    go_wp2_with fail
    refine (pick_any w33 base g (p + 4) 60 (by omega) (by omega) (by omega) (unhide R34)).mono ?_
    rintro e w98 ⟨v97, rfl, v97a, v97b, hr, ht⟩
    have R99 := hide (hr)
    have T100 := hide (Turn.trans (unhide T35) ht)
    have BX101 := hide ((unhide BX36).turn ht (by simpa using hgx))
    have BR102 := hide ((unhide BR37).turn ht (by simpa using hgr))
    clear R34 T35 BX36 BR37
    clear hr ht
    by_cases q0 : v97 = 0
    · subst q0
      go_wp2_with fail
      have ba := (Below.refl w98.heap.size w98).alloc (Nat.le_refl _) (.cells #[.string ⟨#[]⟩, .string ⟨#[88]⟩, .string ⟨#[97, 98, 99, 100, 101, 102, 103, 104, 105]⟩, .string ⟨#[97, 32, 98]⟩] 9)
      have hc106 := hide (show ∀ j, j < 4 → (w98.alloc (.cells #[.string ⟨#[]⟩, .string ⟨#[88]⟩, .string ⟨#[97, 98, 99, 100, 101, 102, 103, 104, 105]⟩, .string ⟨#[97, 32, 98]⟩] 9)).cell? ⟨w98.heap.size, j, none⟩ = some (.string (badF j)) from fun j hj => by
        rw [World.cell?_alloc_at _ _ _ _ rfl]
        match j, hj with
        | 0, _ | 1, _ | 2, _ | 3, _ => rfl)
      have B105l : w98.heap.size < (w98.alloc (.cells #[.string ⟨#[]⟩, .string ⟨#[88]⟩, .string ⟨#[97, 98, 99, 100, 101, 102, 103, 104, 105]⟩, .string ⟨#[97, 32, 98]⟩] 9)).heap.size := by simp
      have hg107 : w98.heap.size ≠ g := by have := (unhide R99).lt; omega
      have R108 := hide (RdIn.turn (S := []) (unhide R99) (Turn.of_below ba) (by simp) (by simp))
      have T109 := hide (Turn.trans (unhide T100) (Turn.of_below ba))
      have BX110 := hide ((unhide BX101).up ba)
      have BR111 := hide ((unhide BR102).up ba)
      clear R99 T100 BX101 BR102
      clear ba
      generalize w98.alloc (.cells #[.string ⟨#[]⟩, .string ⟨#[88]⟩, .string ⟨#[97, 98, 99, 100, 101, 102, 103, 104, 105]⟩, .string ⟨#[97, 32, 98]⟩] 9) = w104 at *
      generalize w98.heap.size = B105 at *
      refine (pick_any w104 base g (p + 5) 4 (by omega) (by omega) (by omega) (unhide R108)).mono ?_
      rintro e w112 ⟨v103, rfl, v103a, v103b, hr, ht⟩
      have v103t : v103.toNat < 4 := by omega
      have c113 := (ht.cell B105l (by simpa using hg107)).trans (unhide hc106 v103.toNat v103t)
      have R114 := hide (hr)
      have T115 := hide (Turn.trans (unhide T109) ht)
      have BX116 := hide ((unhide BX110).turn ht (by simpa using hgx))
      have BR117 := hide ((unhide BR111).turn ht (by simpa using hgr))
      clear R108 T109 BX110 BR111
      clear hr ht hc106
      obtain ⟨⟨x0, x1, x2, x3⟩, f0, f1, f2, f3⟩ := (unhide BX116).four
      obtain ⟨⟨z0, z1, z2, z3⟩, h0, h1, h2, h3⟩ := (unhide BR117).four
      go_wp2_with fail
      have BR118 := hide ((unhide BR117).far 1 (.string (badF v103.toNat)) hbr)
      have R119 := hide (RdIn.turn (S := [bx]) (unhide R114) ((Turn.refl [bx] w112).setCell (g := bx) (by simp) 1 (.string (badF v103.toNat))) (by simpa using Ne.symm hgx) (by simpa using hbx))
      have T120 := hide (set_new (unhide T115) hbn 1 (.string (badF v103.toNat)))
      refine ret_rec (unhide BR118) rfl ?_ ?_ ?_ ?_ ?_ ?_ (unhide R119) hgr.symm hrn hrb (unhide T120)
      · rfl
      · exact (badF_size _)
      · exact (by omega)
      · exact ⟨by omega, by omega⟩
      · exact ⟨by omega, by omega⟩
      · omega
    by_cases q1 : v97 = 1
    · subst q1
      go_wp2_with fail
      have ba := (Below.refl w98.heap.size w98).alloc (Nat.le_refl _) (.cells #[.int .i64 0, .int .i64 5, .int .i64 (-1), .int .i64 257] 3)
      have hc124 := hide (show ∀ j, j < 4 → (w98.alloc (.cells #[.int .i64 0, .int .i64 5, .int .i64 (-1), .int .i64 257] 3)).cell? ⟨w98.heap.size, j, none⟩ = some (.int .i64 (kdF j)) from fun j hj => by
        rw [World.cell?_alloc_at _ _ _ _ rfl]
        match j, hj with
        | 0, _ | 1, _ | 2, _ | 3, _ => rfl)
      have B123l : w98.heap.size < (w98.alloc (.cells #[.int .i64 0, .int .i64 5, .int .i64 (-1), .int .i64 257] 3)).heap.size := by simp
      have hg125 : w98.heap.size ≠ g := by have := (unhide R99).lt; omega
      have R126 := hide (RdIn.turn (S := []) (unhide R99) (Turn.of_below ba) (by simp) (by simp))
      have T127 := hide (Turn.trans (unhide T100) (Turn.of_below ba))
      have BX128 := hide ((unhide BX101).up ba)
      have BR129 := hide ((unhide BR102).up ba)
      clear R99 T100 BX101 BR102
      clear ba
      generalize w98.alloc (.cells #[.int .i64 0, .int .i64 5, .int .i64 (-1), .int .i64 257] 3) = w122 at *
      generalize w98.heap.size = B123 at *
      refine (pick_any w122 base g (p + 5) 4 (by omega) (by omega) (by omega) (unhide R126)).mono ?_
      rintro e w130 ⟨v121, rfl, v121a, v121b, hr, ht⟩
      have v121t : v121.toNat < 4 := by omega
      have c131 := (ht.cell B123l (by simpa using hg125)).trans (unhide hc124 v121.toNat v121t)
      have R132 := hide (hr)
      have T133 := hide (Turn.trans (unhide T127) ht)
      have BX134 := hide ((unhide BX128).turn ht (by simpa using hgx))
      have BR135 := hide ((unhide BR129).turn ht (by simpa using hgr))
      clear R126 T127 BX128 BR129
      clear hr ht hc124
      obtain ⟨⟨x0, x1, x2, x3⟩, f0, f1, f2, f3⟩ := (unhide BX134).four
      obtain ⟨⟨z0, z1, z2, z3⟩, h0, h1, h2, h3⟩ := (unhide BR135).four
      go_wp2_with fail
      have BR136 := hide ((unhide BR135).far 0 (.int .i64 (kdF v121.toNat)) hbr)
      have R137 := hide (RdIn.turn (S := [bx]) (unhide R132) ((Turn.refl [bx] w130).setCell (g := bx) (by simp) 0 (.int .i64 (kdF v121.toNat))) (by simpa using Ne.symm hgx) (by simpa using hbx))
      have T138 := hide (set_new (unhide T133) hbn 0 (.int .i64 (kdF v121.toNat)))
      refine ret_rec (unhide BR136) rfl ?_ ?_ ?_ ?_ ?_ ?_ (unhide R137) hgr.symm hrn hrb (unhide T138)
      · rfl
      · exact hnm
      · exact (by omega)
      · exact (kdF_fit _)
      · exact ⟨by omega, by omega⟩
      · omega
    by_cases q2 : v97 = 2
    · subst q2
      obtain ⟨⟨x0, x1, x2, x3⟩, f0, f1, f2, f3⟩ := (unhide BX101).four
      obtain ⟨⟨z0, z1, z2, z3⟩, h0, h1, h2, h3⟩ := (unhide BR102).four
      go_wp2_with fail
      have BR139 := hide ((unhide BR102).far 2 (.int .i64 1) hbr)
      have R140 := hide (RdIn.turn (S := [bx]) (unhide R99) ((Turn.refl [bx] w98).setCell (g := bx) (by simp) 2 (.int .i64 1)) (by simpa using Ne.symm hgx) (by simpa using hbx))
      have T141 := hide (set_new (unhide T100) hbn 2 (.int .i64 1))
      refine ret_rec (unhide BR139) rfl ?_ ?_ ?_ ?_ ?_ ?_ (unhide R140) hgr.symm hrn hrb (unhide T141)
      · rfl
      · exact hnm
      · exact (by omega)
      · exact ⟨by omega, by omega⟩
      · exact ⟨by omega, by omega⟩
      · omega
    by_cases q3 : v97 = 3
    · subst q3
      obtain ⟨⟨x0, x1, x2, x3⟩, f0, f1, f2, f3⟩ := (unhide BX101).four
      obtain ⟨⟨z0, z1, z2, z3⟩, h0, h1, h2, h3⟩ := (unhide BR102).four
      go_wp2_with fail
      have BR142 := hide ((unhide BR102).far 3 (.string ⟨#[116]⟩) hbr)
      have R143 := hide (RdIn.turn (S := [bx]) (unhide R99) ((Turn.refl [bx] w98).setCell (g := bx) (by simp) 3 (.string ⟨#[116]⟩)) (by simpa using Ne.symm hgx) (by simpa using hbx))
      have T144 := hide (set_new (unhide T100) hbn 3 (.string ⟨#[116]⟩))
      refine ret_rec (unhide BR142) rfl ?_ ?_ ?_ ?_ ?_ ?_ (unhide R143) hgr.symm hrn hrb (unhide T144)
      · rfl
      · exact hnm
      · exact (by decide)
      · exact ⟨by omega, by omega⟩
      · exact ⟨by omega, by omega⟩
      · omega
    have e0 : (v97 == 0) = false := by rw [beq_eq_false_iff_ne]; exact q0
    have e1 : (v97 == 1) = false := by rw [beq_eq_false_iff_ne]; exact q1
    have e2 : (v97 == 2) = false := by rw [beq_eq_false_iff_ne]; exact q2
    have e3 : (v97 == 3) = false := by rw [beq_eq_false_iff_ne]; exact q3
    clear q0 q1 q2 q3
    obtain ⟨⟨x0, x1, x2, x3⟩, f0, f1, f2, f3⟩ := (unhide BX101).four
    obtain ⟨⟨z0, z1, z2, z3⟩, h0, h1, h2, h3⟩ := (unhide BR102).four
    go_wp2_with fail
    refine ret_rec (unhide BR102) rfl ?_ ?_ ?_ ?_ ?_ ?_ (unhide R99) hgr.symm hrn hrb (unhide T100)
    · rfl
    · exact hnm
    · exact (by omega)
    · exact ⟨by omega, by omega⟩
    · exact ⟨by omega, by omega⟩
    · omega
  by_cases k2 : v2 = 1
  · subst k2
    have BX0 := hide (boxF_new4 w14 (.int .i64 2) (.string nm) (.int .i64 0) (.string ⟨#[]⟩) 32)
    have ba := (Below.refl w14.heap.size w14).alloc (Nat.le_refl _) (.cells #[.int .i64 2, .string nm, .int .i64 0, .string ⟨#[]⟩] 32)
    have hgx : w14.heap.size ≠ g := by omega
    have hbr : w.heap.size ≠ w14.heap.size := by omega
    have hbn : w.heap.size ≤ w14.heap.size := by omega
    have hbx : base ≤ w14.heap.size := by omega
    have R145 := hide (RdIn.turn (S := []) (unhide R15) (Turn.of_below ba) (by simp) (by simp))
    have T146 := hide (Turn.trans (unhide T16) (Turn.of_below ba))
    have BR147 := hide ((unhide BR17).up ba)
    clear R15 T16 BR17
    clear ba
    obtain ⟨⟨x0, x1, x2, x3⟩, f0, f1, f2, f3⟩ := (unhide BX0).four
    go_wp2_with fail
    generalize w14.alloc (.cells #[.int .i64 2, .string nm, .int .i64 0, .string ⟨#[]⟩] 32) = w148 at *
    generalize w14.heap.size = bx at *
    clear x0 x1 x2 x3 f0 f1 f2 f3
    refine (pick_any w148 base g (p + 2) 60 (by omega) (by omega) (by omega) (unhide R145)).mono ?_
    rintro e w150 ⟨v149, rfl, v149a, v149b, hr, ht⟩
    have R151 := hide (hr)
    have T152 := hide (Turn.trans (unhide T146) ht)
    have BX153 := hide ((unhide BX0).turn ht (by simpa using hgx))
    have BR154 := hide ((unhide BR147).turn ht (by simpa using hgr))
    clear R145 T146 BX0 BR147
    clear hr ht
    by_cases q0 : v149 = 0
    · subst q0
      go_wp2_with fail
      have ba := (Below.refl w150.heap.size w150).alloc (Nat.le_refl _) (.cells #[.string ⟨#[]⟩, .string ⟨#[88]⟩, .string ⟨#[97, 98, 99, 100, 101, 102, 103, 104, 105]⟩, .string ⟨#[97, 32, 98]⟩] 9)
      have hc158 := hide (show ∀ j, j < 4 → (w150.alloc (.cells #[.string ⟨#[]⟩, .string ⟨#[88]⟩, .string ⟨#[97, 98, 99, 100, 101, 102, 103, 104, 105]⟩, .string ⟨#[97, 32, 98]⟩] 9)).cell? ⟨w150.heap.size, j, none⟩ = some (.string (badF j)) from fun j hj => by
        rw [World.cell?_alloc_at _ _ _ _ rfl]
        match j, hj with
        | 0, _ | 1, _ | 2, _ | 3, _ => rfl)
      have B157l : w150.heap.size < (w150.alloc (.cells #[.string ⟨#[]⟩, .string ⟨#[88]⟩, .string ⟨#[97, 98, 99, 100, 101, 102, 103, 104, 105]⟩, .string ⟨#[97, 32, 98]⟩] 9)).heap.size := by simp
      have hg159 : w150.heap.size ≠ g := by have := (unhide R151).lt; omega
      have R160 := hide (RdIn.turn (S := []) (unhide R151) (Turn.of_below ba) (by simp) (by simp))
      have T161 := hide (Turn.trans (unhide T152) (Turn.of_below ba))
      have BX162 := hide ((unhide BX153).up ba)
      have BR163 := hide ((unhide BR154).up ba)
      clear R151 T152 BX153 BR154
      clear ba
      generalize w150.alloc (.cells #[.string ⟨#[]⟩, .string ⟨#[88]⟩, .string ⟨#[97, 98, 99, 100, 101, 102, 103, 104, 105]⟩, .string ⟨#[97, 32, 98]⟩] 9) = w156 at *
      generalize w150.heap.size = B157 at *
      refine (pick_any w156 base g (p + 3) 4 (by omega) (by omega) (by omega) (unhide R160)).mono ?_
      rintro e w164 ⟨v155, rfl, v155a, v155b, hr, ht⟩
      have v155t : v155.toNat < 4 := by omega
      have c165 := (ht.cell B157l (by simpa using hg159)).trans (unhide hc158 v155.toNat v155t)
      have R166 := hide (hr)
      have T167 := hide (Turn.trans (unhide T161) ht)
      have BX168 := hide ((unhide BX162).turn ht (by simpa using hgx))
      have BR169 := hide ((unhide BR163).turn ht (by simpa using hgr))
      clear R160 T161 BX162 BR163
      clear hr ht hc158
      obtain ⟨⟨x0, x1, x2, x3⟩, f0, f1, f2, f3⟩ := (unhide BX168).four
      obtain ⟨⟨z0, z1, z2, z3⟩, h0, h1, h2, h3⟩ := (unhide BR169).four
      go_wp2_with fail
      have BR170 := hide ((unhide BR169).far 1 (.string (badF v155.toNat)) hbr)
      have R171 := hide (RdIn.turn (S := [bx]) (unhide R166) ((Turn.refl [bx] w164).setCell (g := bx) (by simp) 1 (.string (badF v155.toNat))) (by simpa using Ne.symm hgx) (by simpa using hbx))
      have T172 := hide (set_new (unhide T167) hbn 1 (.string (badF v155.toNat)))
      refine ret_rec (unhide BR170) rfl ?_ ?_ ?_ ?_ ?_ ?_ (unhide R171) hgr.symm hrn hrb (unhide T172)
      · rfl
      · exact (badF_size _)
      · exact (by decide)
      · exact ⟨by omega, by omega⟩
      · exact ⟨by omega, by omega⟩
      · omega
    by_cases q1 : v149 = 1
    · subst q1
      go_wp2_with fail
      have ba := (Below.refl w150.heap.size w150).alloc (Nat.le_refl _) (.cells #[.int .i64 0, .int .i64 5, .int .i64 (-1), .int .i64 257] 3)
      have hc176 := hide (show ∀ j, j < 4 → (w150.alloc (.cells #[.int .i64 0, .int .i64 5, .int .i64 (-1), .int .i64 257] 3)).cell? ⟨w150.heap.size, j, none⟩ = some (.int .i64 (kdF j)) from fun j hj => by
        rw [World.cell?_alloc_at _ _ _ _ rfl]
        match j, hj with
        | 0, _ | 1, _ | 2, _ | 3, _ => rfl)
      have B175l : w150.heap.size < (w150.alloc (.cells #[.int .i64 0, .int .i64 5, .int .i64 (-1), .int .i64 257] 3)).heap.size := by simp
      have hg177 : w150.heap.size ≠ g := by have := (unhide R151).lt; omega
      have R178 := hide (RdIn.turn (S := []) (unhide R151) (Turn.of_below ba) (by simp) (by simp))
      have T179 := hide (Turn.trans (unhide T152) (Turn.of_below ba))
      have BX180 := hide ((unhide BX153).up ba)
      have BR181 := hide ((unhide BR154).up ba)
      clear R151 T152 BX153 BR154
      clear ba
      generalize w150.alloc (.cells #[.int .i64 0, .int .i64 5, .int .i64 (-1), .int .i64 257] 3) = w174 at *
      generalize w150.heap.size = B175 at *
      refine (pick_any w174 base g (p + 3) 4 (by omega) (by omega) (by omega) (unhide R178)).mono ?_
      rintro e w182 ⟨v173, rfl, v173a, v173b, hr, ht⟩
      have v173t : v173.toNat < 4 := by omega
      have c183 := (ht.cell B175l (by simpa using hg177)).trans (unhide hc176 v173.toNat v173t)
      have R184 := hide (hr)
      have T185 := hide (Turn.trans (unhide T179) ht)
      have BX186 := hide ((unhide BX180).turn ht (by simpa using hgx))
      have BR187 := hide ((unhide BR181).turn ht (by simpa using hgr))
      clear R178 T179 BX180 BR181
      clear hr ht hc176
      obtain ⟨⟨x0, x1, x2, x3⟩, f0, f1, f2, f3⟩ := (unhide BX186).four
      obtain ⟨⟨z0, z1, z2, z3⟩, h0, h1, h2, h3⟩ := (unhide BR187).four
      go_wp2_with fail
      have BR188 := hide ((unhide BR187).far 0 (.int .i64 (kdF v173.toNat)) hbr)
      have R189 := hide (RdIn.turn (S := [bx]) (unhide R184) ((Turn.refl [bx] w182).setCell (g := bx) (by simp) 0 (.int .i64 (kdF v173.toNat))) (by simpa using Ne.symm hgx) (by simpa using hbx))
      have T190 := hide (set_new (unhide T185) hbn 0 (.int .i64 (kdF v173.toNat)))
      refine ret_rec (unhide BR188) rfl ?_ ?_ ?_ ?_ ?_ ?_ (unhide R189) hgr.symm hrn hrb (unhide T190)
      · rfl
      · exact hnm
      · exact (by decide)
      · exact (kdF_fit _)
      · exact ⟨by omega, by omega⟩
      · omega
    by_cases q2 : v149 = 2
    · subst q2
      obtain ⟨⟨x0, x1, x2, x3⟩, f0, f1, f2, f3⟩ := (unhide BX153).four
      obtain ⟨⟨z0, z1, z2, z3⟩, h0, h1, h2, h3⟩ := (unhide BR154).four
      go_wp2_with fail
      have BR191 := hide ((unhide BR154).far 2 (.int .i64 1) hbr)
      have R192 := hide (RdIn.turn (S := [bx]) (unhide R151) ((Turn.refl [bx] w150).setCell (g := bx) (by simp) 2 (.int .i64 1)) (by simpa using Ne.symm hgx) (by simpa using hbx))
      have T193 := hide (set_new (unhide T152) hbn 2 (.int .i64 1))
      refine ret_rec (unhide BR191) rfl ?_ ?_ ?_ ?_ ?_ ?_ (unhide R192) hgr.symm hrn hrb (unhide T193)
      · rfl
      · exact hnm
      · exact (by decide)
      · exact ⟨by omega, by omega⟩
      · exact ⟨by omega, by omega⟩
      · omega
    by_cases q3 : v149 = 3
    · subst q3
      obtain ⟨⟨x0, x1, x2, x3⟩, f0, f1, f2, f3⟩ := (unhide BX153).four
      obtain ⟨⟨z0, z1, z2, z3⟩, h0, h1, h2, h3⟩ := (unhide BR154).four
      go_wp2_with fail
      have BR194 := hide ((unhide BR154).far 3 (.string ⟨#[116]⟩) hbr)
      have R195 := hide (RdIn.turn (S := [bx]) (unhide R151) ((Turn.refl [bx] w150).setCell (g := bx) (by simp) 3 (.string ⟨#[116]⟩)) (by simpa using Ne.symm hgx) (by simpa using hbx))
      have T196 := hide (set_new (unhide T152) hbn 3 (.string ⟨#[116]⟩))
      refine ret_rec (unhide BR194) rfl ?_ ?_ ?_ ?_ ?_ ?_ (unhide R195) hgr.symm hrn hrb (unhide T196)
      · rfl
      · exact hnm
      · exact (by decide)
      · exact ⟨by omega, by omega⟩
      · exact ⟨by omega, by omega⟩
      · omega
    have e0 : (v149 == 0) = false := by rw [beq_eq_false_iff_ne]; exact q0
    have e1 : (v149 == 1) = false := by rw [beq_eq_false_iff_ne]; exact q1
    have e2 : (v149 == 2) = false := by rw [beq_eq_false_iff_ne]; exact q2
    have e3 : (v149 == 3) = false := by rw [beq_eq_false_iff_ne]; exact q3
    clear q0 q1 q2 q3
    obtain ⟨⟨x0, x1, x2, x3⟩, f0, f1, f2, f3⟩ := (unhide BX153).four
    obtain ⟨⟨z0, z1, z2, z3⟩, h0, h1, h2, h3⟩ := (unhide BR154).four
    go_wp2_with fail
    refine ret_rec (unhide BR154) rfl ?_ ?_ ?_ ?_ ?_ ?_ (unhide R151) hgr.symm hrn hrb (unhide T152)
    · rfl
    · exact hnm
    · exact (by decide)
    · exact ⟨by omega, by omega⟩
    · exact ⟨by omega, by omega⟩
    · omega
  by_cases k3 : v2 = 2
  · subst k3
    have BX0 := hide (boxF_new4 w14 (.int .i64 3) (.string nm) (.int .i64 0) (.string ⟨#[]⟩) 32)
    have ba := (Below.refl w14.heap.size w14).alloc (Nat.le_refl _) (.cells #[.int .i64 3, .string nm, .int .i64 0, .string ⟨#[]⟩] 32)
    have hgx : w14.heap.size ≠ g := by omega
    have hbr : w.heap.size ≠ w14.heap.size := by omega
    have hbn : w.heap.size ≤ w14.heap.size := by omega
    have hbx : base ≤ w14.heap.size := by omega
    have R197 := hide (RdIn.turn (S := []) (unhide R15) (Turn.of_below ba) (by simp) (by simp))
    have T198 := hide (Turn.trans (unhide T16) (Turn.of_below ba))
    have BR199 := hide ((unhide BR17).up ba)
    clear R15 T16 BR17
    clear ba
    obtain ⟨⟨x0, x1, x2, x3⟩, f0, f1, f2, f3⟩ := (unhide BX0).four
    go_wp2_with fail
    generalize w14.alloc (.cells #[.int .i64 3, .string nm, .int .i64 0, .string ⟨#[]⟩] 32) = w200 at *
    generalize w14.heap.size = bx at *
    clear x0 x1 x2 x3 f0 f1 f2 f3
    refine (pick_any w200 base g (p + 2) 300 (by omega) (by omega) (by omega) (unhide R197)).mono ?_
    rintro e w201 ⟨v3, rfl, v3a, v3b, hr, ht⟩
    have R202 := hide (hr)
    have T203 := hide (Turn.trans (unhide T198) ht)
    have BX204 := hide ((unhide BX0).turn ht (by simpa using hgx))
    have BR205 := hide ((unhide BR199).turn ht (by simpa using hgr))
    clear R197 T198 BX0 BR199
    clear hr ht
    obtain ⟨⟨x0, x1, x2, x3⟩, f0, f1, f2, f3⟩ := (unhide BX204).four
    go_wp2_with fail
    have BX207 := hide (show BoxF (w201.setCell ⟨bx, 2, none⟩ (.int .i64 (v3 - 100))) bx [.int .i64 3, .string nm, .int .i64 (v3 - 100), .string ⟨#[]⟩] from (unhide BX204).set 2 (.int .i64 (v3 - 100)) (by simp))
    have BR208 := hide ((unhide BR205).far 2 (.int .i64 (v3 - 100)) hbr)
    have R209 := hide (RdIn.turn (S := [bx]) (unhide R202) ((Turn.refl [bx] w201).setCell (g := bx) (by simp) 2 (.int .i64 (v3 - 100))) (by simpa using Ne.symm hgx) (by simpa using hbx))
    have T210 := hide (set_new (unhide T203) hbn 2 (.int .i64 (v3 - 100)))
    clear BX204 BR205 R202 T203
    clear x0 x1 x2 x3 f0 f1 f2 f3
    generalize w201.setCell ⟨bx, 2, none⟩ (.int .i64 (v3 - 100)) = w206 at *
    refine (pick_any w206 base g (p + 3) 10 (by omega) (by omega) (by omega) (unhide R209)).mono ?_
    rintro e w211 ⟨v4, rfl, v4a, v4b, hr, ht⟩
    have R212 := hide (hr)
    have T213 := hide (Turn.trans (unhide T210) ht)
    have BX214 := hide ((unhide BX207).turn ht (by simpa using hgx))
    have BR215 := hide ((unhide BR208).turn ht (by simpa using hgr))
    clear R209 T210 BX207 BR208
    clear hr ht
    by_cases y0 : v4 = 0
    · subst y0
      go_wp2_with fail
      have ba := (Below.refl w211.heap.size w211).alloc (Nat.le_refl _) (.cells #[.int .i64 (-9223372036854775808), .int .i64 9223372036854775807, .int .i64 (-1)] 3)
      have hc218 := hide (show ∀ j, j < 3 → (w211.alloc (.cells #[.int .i64 (-9223372036854775808), .int .i64 9223372036854775807, .int .i64 (-1)] 3)).cell? ⟨w211.heap.size, j, none⟩ = some (.int .i64 (n3F j)) from fun j hj => by
        rw [World.cell?_alloc_at _ _ _ _ rfl]
        match j, hj with
        | 0, _ | 1, _ | 2, _ => rfl)
      have B217l : w211.heap.size < (w211.alloc (.cells #[.int .i64 (-9223372036854775808), .int .i64 9223372036854775807, .int .i64 (-1)] 3)).heap.size := by simp
      have hg219 : w211.heap.size ≠ g := by have := (unhide R212).lt; omega
      have R220 := hide (RdIn.turn (S := []) (unhide R212) (Turn.of_below ba) (by simp) (by simp))
      have T221 := hide (Turn.trans (unhide T213) (Turn.of_below ba))
      have BX222 := hide ((unhide BX214).up ba)
      have BR223 := hide ((unhide BR215).up ba)
      clear R212 T213 BX214 BR215
      clear ba
      generalize w211.alloc (.cells #[.int .i64 (-9223372036854775808), .int .i64 9223372036854775807, .int .i64 (-1)] 3) = w216 at *
      generalize w211.heap.size = B217 at *
      refine (pick_any w216 base g (p + 4) 3 (by omega) (by omega) (by omega) (unhide R220)).mono ?_
      rintro e w224 ⟨v5, rfl, v5a, v5b, hr, ht⟩
      have v5t : v5.toNat < 3 := by omega
      have c225 := (ht.cell B217l (by simpa using hg219)).trans (unhide hc218 v5.toNat v5t)
      have R226 := hide (hr)
      have T227 := hide (Turn.trans (unhide T221) ht)
      have BX228 := hide ((unhide BX222).turn ht (by simpa using hgx))
      have BR229 := hide ((unhide BR223).turn ht (by simpa using hgr))
      clear R220 T221 BX222 BR223
      clear hr ht hc218
      obtain ⟨⟨x0, x1, x2, x3⟩, f0, f1, f2, f3⟩ := (unhide BX228).four
      go_wp2_with fail
      have BX231 := hide (show BoxF (w224.setCell ⟨bx, 2, none⟩ (.int .i64 (n3F v5.toNat))) bx [.int .i64 3, .string nm, .int .i64 (n3F v5.toNat), .string ⟨#[]⟩] from (unhide BX228).set 2 (.int .i64 (n3F v5.toNat)) (by simp))
      have BR232 := hide ((unhide BR229).far 2 (.int .i64 (n3F v5.toNat)) hbr)
      have R233 := hide (RdIn.turn (S := [bx]) (unhide R226) ((Turn.refl [bx] w224).setCell (g := bx) (by simp) 2 (.int .i64 (n3F v5.toNat))) (by simpa using Ne.symm hgx) (by simpa using hbx))
      have T234 := hide (set_new (unhide T227) hbn 2 (.int .i64 (n3F v5.toNat)))
      clear BX228 BR229 R226 T227
      clear x0 x1 x2 x3 f0 f1 f2 f3
      generalize w224.setCell ⟨bx, 2, none⟩ (.int .i64 (n3F v5.toNat)) = w230 at *
      refine (pick_any w230 base g (p + 5) 60 (by omega) (by omega) (by omega) (unhide R233)).mono ?_
      rintro e w236 ⟨v235, rfl, v235a, v235b, hr, ht⟩
      have R237 := hide (hr)
      have T238 := hide (Turn.trans (unhide T234) ht)
      have BX239 := hide ((unhide BX231).turn ht (by simpa using hgx))
      have BR240 := hide ((unhide BR232).turn ht (by simpa using hgr))
      clear R233 T234 BX231 BR232
      clear hr ht
      by_cases q0 : v235 = 0
      · subst q0
        go_wp2_with fail
        have ba := (Below.refl w236.heap.size w236).alloc (Nat.le_refl _) (.cells #[.string ⟨#[]⟩, .string ⟨#[88]⟩, .string ⟨#[97, 98, 99, 100, 101, 102, 103, 104, 105]⟩, .string ⟨#[97, 32, 98]⟩] 9)
        have hc244 := hide (show ∀ j, j < 4 → (w236.alloc (.cells #[.string ⟨#[]⟩, .string ⟨#[88]⟩, .string ⟨#[97, 98, 99, 100, 101, 102, 103, 104, 105]⟩, .string ⟨#[97, 32, 98]⟩] 9)).cell? ⟨w236.heap.size, j, none⟩ = some (.string (badF j)) from fun j hj => by
          rw [World.cell?_alloc_at _ _ _ _ rfl]
          match j, hj with
          | 0, _ | 1, _ | 2, _ | 3, _ => rfl)
        have B243l : w236.heap.size < (w236.alloc (.cells #[.string ⟨#[]⟩, .string ⟨#[88]⟩, .string ⟨#[97, 98, 99, 100, 101, 102, 103, 104, 105]⟩, .string ⟨#[97, 32, 98]⟩] 9)).heap.size := by simp
        have hg245 : w236.heap.size ≠ g := by have := (unhide R237).lt; omega
        have R246 := hide (RdIn.turn (S := []) (unhide R237) (Turn.of_below ba) (by simp) (by simp))
        have T247 := hide (Turn.trans (unhide T238) (Turn.of_below ba))
        have BX248 := hide ((unhide BX239).up ba)
        have BR249 := hide ((unhide BR240).up ba)
        clear R237 T238 BX239 BR240
        clear ba
        generalize w236.alloc (.cells #[.string ⟨#[]⟩, .string ⟨#[88]⟩, .string ⟨#[97, 98, 99, 100, 101, 102, 103, 104, 105]⟩, .string ⟨#[97, 32, 98]⟩] 9) = w242 at *
        generalize w236.heap.size = B243 at *
        refine (pick_any w242 base g (p + 6) 4 (by omega) (by omega) (by omega) (unhide R246)).mono ?_
        rintro e w250 ⟨v241, rfl, v241a, v241b, hr, ht⟩
        have v241t : v241.toNat < 4 := by omega
        have c251 := (ht.cell B243l (by simpa using hg245)).trans (unhide hc244 v241.toNat v241t)
        have R252 := hide (hr)
        have T253 := hide (Turn.trans (unhide T247) ht)
        have BX254 := hide ((unhide BX248).turn ht (by simpa using hgx))
        have BR255 := hide ((unhide BR249).turn ht (by simpa using hgr))
        clear R246 T247 BX248 BR249
        clear hr ht hc244
        obtain ⟨⟨x0, x1, x2, x3⟩, f0, f1, f2, f3⟩ := (unhide BX254).four
        obtain ⟨⟨z0, z1, z2, z3⟩, h0, h1, h2, h3⟩ := (unhide BR255).four
        go_wp2_with fail
        have BR256 := hide ((unhide BR255).far 1 (.string (badF v241.toNat)) hbr)
        have R257 := hide (RdIn.turn (S := [bx]) (unhide R252) ((Turn.refl [bx] w250).setCell (g := bx) (by simp) 1 (.string (badF v241.toNat))) (by simpa using Ne.symm hgx) (by simpa using hbx))
        have T258 := hide (set_new (unhide T253) hbn 1 (.string (badF v241.toNat)))
        refine ret_rec (unhide BR256) rfl ?_ ?_ ?_ ?_ ?_ ?_ (unhide R257) hgr.symm hrn hrb (unhide T258)
        · rfl
        · exact (badF_size _)
        · exact (by decide)
        · exact ⟨by omega, by omega⟩
        · exact (n3F_fit _)
        · omega
      by_cases q1 : v235 = 1
      · subst q1
        go_wp2_with fail
        have ba := (Below.refl w236.heap.size w236).alloc (Nat.le_refl _) (.cells #[.int .i64 0, .int .i64 5, .int .i64 (-1), .int .i64 257] 3)
        have hc262 := hide (show ∀ j, j < 4 → (w236.alloc (.cells #[.int .i64 0, .int .i64 5, .int .i64 (-1), .int .i64 257] 3)).cell? ⟨w236.heap.size, j, none⟩ = some (.int .i64 (kdF j)) from fun j hj => by
          rw [World.cell?_alloc_at _ _ _ _ rfl]
          match j, hj with
          | 0, _ | 1, _ | 2, _ | 3, _ => rfl)
        have B261l : w236.heap.size < (w236.alloc (.cells #[.int .i64 0, .int .i64 5, .int .i64 (-1), .int .i64 257] 3)).heap.size := by simp
        have hg263 : w236.heap.size ≠ g := by have := (unhide R237).lt; omega
        have R264 := hide (RdIn.turn (S := []) (unhide R237) (Turn.of_below ba) (by simp) (by simp))
        have T265 := hide (Turn.trans (unhide T238) (Turn.of_below ba))
        have BX266 := hide ((unhide BX239).up ba)
        have BR267 := hide ((unhide BR240).up ba)
        clear R237 T238 BX239 BR240
        clear ba
        generalize w236.alloc (.cells #[.int .i64 0, .int .i64 5, .int .i64 (-1), .int .i64 257] 3) = w260 at *
        generalize w236.heap.size = B261 at *
        refine (pick_any w260 base g (p + 6) 4 (by omega) (by omega) (by omega) (unhide R264)).mono ?_
        rintro e w268 ⟨v259, rfl, v259a, v259b, hr, ht⟩
        have v259t : v259.toNat < 4 := by omega
        have c269 := (ht.cell B261l (by simpa using hg263)).trans (unhide hc262 v259.toNat v259t)
        have R270 := hide (hr)
        have T271 := hide (Turn.trans (unhide T265) ht)
        have BX272 := hide ((unhide BX266).turn ht (by simpa using hgx))
        have BR273 := hide ((unhide BR267).turn ht (by simpa using hgr))
        clear R264 T265 BX266 BR267
        clear hr ht hc262
        obtain ⟨⟨x0, x1, x2, x3⟩, f0, f1, f2, f3⟩ := (unhide BX272).four
        obtain ⟨⟨z0, z1, z2, z3⟩, h0, h1, h2, h3⟩ := (unhide BR273).four
        go_wp2_with fail
        have BR274 := hide ((unhide BR273).far 0 (.int .i64 (kdF v259.toNat)) hbr)
        have R275 := hide (RdIn.turn (S := [bx]) (unhide R270) ((Turn.refl [bx] w268).setCell (g := bx) (by simp) 0 (.int .i64 (kdF v259.toNat))) (by simpa using Ne.symm hgx) (by simpa using hbx))
        have T276 := hide (set_new (unhide T271) hbn 0 (.int .i64 (kdF v259.toNat)))
        refine ret_rec (unhide BR274) rfl ?_ ?_ ?_ ?_ ?_ ?_ (unhide R275) hgr.symm hrn hrb (unhide T276)
        · rfl
        · exact hnm
        · exact (by decide)
        · exact (kdF_fit _)
        · exact (n3F_fit _)
        · omega
      by_cases q2 : v235 = 2
      · subst q2
        obtain ⟨⟨x0, x1, x2, x3⟩, f0, f1, f2, f3⟩ := (unhide BX239).four
        obtain ⟨⟨z0, z1, z2, z3⟩, h0, h1, h2, h3⟩ := (unhide BR240).four
        go_wp2_with fail
        have BR277 := hide ((unhide BR240).far 2 (.int .i64 1) hbr)
        have R278 := hide (RdIn.turn (S := [bx]) (unhide R237) ((Turn.refl [bx] w236).setCell (g := bx) (by simp) 2 (.int .i64 1)) (by simpa using Ne.symm hgx) (by simpa using hbx))
        have T279 := hide (set_new (unhide T238) hbn 2 (.int .i64 1))
        refine ret_rec (unhide BR277) rfl ?_ ?_ ?_ ?_ ?_ ?_ (unhide R278) hgr.symm hrn hrb (unhide T279)
        · rfl
        · exact hnm
        · exact (by decide)
        · exact ⟨by omega, by omega⟩
        · exact ⟨by omega, by omega⟩
        · omega
      by_cases q3 : v235 = 3
      · subst q3
        obtain ⟨⟨x0, x1, x2, x3⟩, f0, f1, f2, f3⟩ := (unhide BX239).four
        obtain ⟨⟨z0, z1, z2, z3⟩, h0, h1, h2, h3⟩ := (unhide BR240).four
        go_wp2_with fail
        have BR280 := hide ((unhide BR240).far 3 (.string ⟨#[116]⟩) hbr)
        have R281 := hide (RdIn.turn (S := [bx]) (unhide R237) ((Turn.refl [bx] w236).setCell (g := bx) (by simp) 3 (.string ⟨#[116]⟩)) (by simpa using Ne.symm hgx) (by simpa using hbx))
        have T282 := hide (set_new (unhide T238) hbn 3 (.string ⟨#[116]⟩))
        refine ret_rec (unhide BR280) rfl ?_ ?_ ?_ ?_ ?_ ?_ (unhide R281) hgr.symm hrn hrb (unhide T282)
        · rfl
        · exact hnm
        · exact (by decide)
        · exact ⟨by omega, by omega⟩
        · exact (n3F_fit _)
        · omega
      have e0 : (v235 == 0) = false := by rw [beq_eq_false_iff_ne]; exact q0
      have e1 : (v235 == 1) = false := by rw [beq_eq_false_iff_ne]; exact q1
      have e2 : (v235 == 2) = false := by rw [beq_eq_false_iff_ne]; exact q2
      have e3 : (v235 == 3) = false := by rw [beq_eq_false_iff_ne]; exact q3
      clear q0 q1 q2 q3
      obtain ⟨⟨x0, x1, x2, x3⟩, f0, f1, f2, f3⟩ := (unhide BX239).four
      obtain ⟨⟨z0, z1, z2, z3⟩, h0, h1, h2, h3⟩ := (unhide BR240).four
      go_wp2_with fail
      refine ret_rec (unhide BR240) rfl ?_ ?_ ?_ ?_ ?_ ?_ (unhide R237) hgr.symm hrn hrb (unhide T238)
      · rfl
      · exact hnm
      · exact (by decide)
      · exact ⟨by omega, by omega⟩
      · exact (n3F_fit _)
      · omega
    have y1 : (v4 == 0) = false := by rw [beq_eq_false_iff_ne]; exact y0
    clear y0
    go_wp2_with fail
    refine (pick_any w211 base g (p + 4) 60 (by omega) (by omega) (by omega) (unhide R212)).mono ?_
    rintro e w284 ⟨v283, rfl, v283a, v283b, hr, ht⟩
    have R285 := hide (hr)
    have T286 := hide (Turn.trans (unhide T213) ht)
    have BX287 := hide ((unhide BX214).turn ht (by simpa using hgx))
    have BR288 := hide ((unhide BR215).turn ht (by simpa using hgr))
    clear R212 T213 BX214 BR215
    clear hr ht
    by_cases q0 : v283 = 0
    · subst q0
      go_wp2_with fail
      have ba := (Below.refl w284.heap.size w284).alloc (Nat.le_refl _) (.cells #[.string ⟨#[]⟩, .string ⟨#[88]⟩, .string ⟨#[97, 98, 99, 100, 101, 102, 103, 104, 105]⟩, .string ⟨#[97, 32, 98]⟩] 9)
      have hc292 := hide (show ∀ j, j < 4 → (w284.alloc (.cells #[.string ⟨#[]⟩, .string ⟨#[88]⟩, .string ⟨#[97, 98, 99, 100, 101, 102, 103, 104, 105]⟩, .string ⟨#[97, 32, 98]⟩] 9)).cell? ⟨w284.heap.size, j, none⟩ = some (.string (badF j)) from fun j hj => by
        rw [World.cell?_alloc_at _ _ _ _ rfl]
        match j, hj with
        | 0, _ | 1, _ | 2, _ | 3, _ => rfl)
      have B291l : w284.heap.size < (w284.alloc (.cells #[.string ⟨#[]⟩, .string ⟨#[88]⟩, .string ⟨#[97, 98, 99, 100, 101, 102, 103, 104, 105]⟩, .string ⟨#[97, 32, 98]⟩] 9)).heap.size := by simp
      have hg293 : w284.heap.size ≠ g := by have := (unhide R285).lt; omega
      have R294 := hide (RdIn.turn (S := []) (unhide R285) (Turn.of_below ba) (by simp) (by simp))
      have T295 := hide (Turn.trans (unhide T286) (Turn.of_below ba))
      have BX296 := hide ((unhide BX287).up ba)
      have BR297 := hide ((unhide BR288).up ba)
      clear R285 T286 BX287 BR288
      clear ba
      generalize w284.alloc (.cells #[.string ⟨#[]⟩, .string ⟨#[88]⟩, .string ⟨#[97, 98, 99, 100, 101, 102, 103, 104, 105]⟩, .string ⟨#[97, 32, 98]⟩] 9) = w290 at *
      generalize w284.heap.size = B291 at *
      refine (pick_any w290 base g (p + 5) 4 (by omega) (by omega) (by omega) (unhide R294)).mono ?_
      rintro e w298 ⟨v289, rfl, v289a, v289b, hr, ht⟩
      have v289t : v289.toNat < 4 := by omega
      have c299 := (ht.cell B291l (by simpa using hg293)).trans (unhide hc292 v289.toNat v289t)
      have R300 := hide (hr)
      have T301 := hide (Turn.trans (unhide T295) ht)
      have BX302 := hide ((unhide BX296).turn ht (by simpa using hgx))
      have BR303 := hide ((unhide BR297).turn ht (by simpa using hgr))
      clear R294 T295 BX296 BR297
      clear hr ht hc292
      obtain ⟨⟨x0, x1, x2, x3⟩, f0, f1, f2, f3⟩ := (unhide BX302).four
      obtain ⟨⟨z0, z1, z2, z3⟩, h0, h1, h2, h3⟩ := (unhide BR303).four
      go_wp2_with fail
      have BR304 := hide ((unhide BR303).far 1 (.string (badF v289.toNat)) hbr)
      have R305 := hide (RdIn.turn (S := [bx]) (unhide R300) ((Turn.refl [bx] w298).setCell (g := bx) (by simp) 1 (.string (badF v289.toNat))) (by simpa using Ne.symm hgx) (by simpa using hbx))
      have T306 := hide (set_new (unhide T301) hbn 1 (.string (badF v289.toNat)))
      refine ret_rec (unhide BR304) rfl ?_ ?_ ?_ ?_ ?_ ?_ (unhide R305) hgr.symm hrn hrb (unhide T306)
      · rfl
      · exact (badF_size _)
      · exact (by decide)
      · exact ⟨by omega, by omega⟩
      · exact ⟨by omega, by omega⟩
      · omega
    by_cases q1 : v283 = 1
    · subst q1
      go_wp2_with fail
      have ba := (Below.refl w284.heap.size w284).alloc (Nat.le_refl _) (.cells #[.int .i64 0, .int .i64 5, .int .i64 (-1), .int .i64 257] 3)
      have hc310 := hide (show ∀ j, j < 4 → (w284.alloc (.cells #[.int .i64 0, .int .i64 5, .int .i64 (-1), .int .i64 257] 3)).cell? ⟨w284.heap.size, j, none⟩ = some (.int .i64 (kdF j)) from fun j hj => by
        rw [World.cell?_alloc_at _ _ _ _ rfl]
        match j, hj with
        | 0, _ | 1, _ | 2, _ | 3, _ => rfl)
      have B309l : w284.heap.size < (w284.alloc (.cells #[.int .i64 0, .int .i64 5, .int .i64 (-1), .int .i64 257] 3)).heap.size := by simp
      have hg311 : w284.heap.size ≠ g := by have := (unhide R285).lt; omega
      have R312 := hide (RdIn.turn (S := []) (unhide R285) (Turn.of_below ba) (by simp) (by simp))
      have T313 := hide (Turn.trans (unhide T286) (Turn.of_below ba))
      have BX314 := hide ((unhide BX287).up ba)
      have BR315 := hide ((unhide BR288).up ba)
      clear R285 T286 BX287 BR288
      clear ba
      generalize w284.alloc (.cells #[.int .i64 0, .int .i64 5, .int .i64 (-1), .int .i64 257] 3) = w308 at *
      generalize w284.heap.size = B309 at *
      refine (pick_any w308 base g (p + 5) 4 (by omega) (by omega) (by omega) (unhide R312)).mono ?_
      rintro e w316 ⟨v307, rfl, v307a, v307b, hr, ht⟩
      have v307t : v307.toNat < 4 := by omega
      have c317 := (ht.cell B309l (by simpa using hg311)).trans (unhide hc310 v307.toNat v307t)
      have R318 := hide (hr)
      have T319 := hide (Turn.trans (unhide T313) ht)
      have BX320 := hide ((unhide BX314).turn ht (by simpa using hgx))
      have BR321 := hide ((unhide BR315).turn ht (by simpa using hgr))
      clear R312 T313 BX314 BR315
      clear hr ht hc310
      obtain ⟨⟨x0, x1, x2, x3⟩, f0, f1, f2, f3⟩ := (unhide BX320).four
      obtain ⟨⟨z0, z1, z2, z3⟩, h0, h1, h2, h3⟩ := (unhide BR321).four
      go_wp2_with fail
      have BR322 := hide ((unhide BR321).far 0 (.int .i64 (kdF v307.toNat)) hbr)
      have R323 := hide (RdIn.turn (S := [bx]) (unhide R318) ((Turn.refl [bx] w316).setCell (g := bx) (by simp) 0 (.int .i64 (kdF v307.toNat))) (by simpa using Ne.symm hgx) (by simpa using hbx))
      have T324 := hide (set_new (unhide T319) hbn 0 (.int .i64 (kdF v307.toNat)))
      refine ret_rec (unhide BR322) rfl ?_ ?_ ?_ ?_ ?_ ?_ (unhide R323) hgr.symm hrn hrb (unhide T324)
      · rfl
      · exact hnm
      · exact (by decide)
      · exact (kdF_fit _)
      · exact ⟨by omega, by omega⟩
      · omega
    by_cases q2 : v283 = 2
    · subst q2
      obtain ⟨⟨x0, x1, x2, x3⟩, f0, f1, f2, f3⟩ := (unhide BX287).four
      obtain ⟨⟨z0, z1, z2, z3⟩, h0, h1, h2, h3⟩ := (unhide BR288).four
      go_wp2_with fail
      have BR325 := hide ((unhide BR288).far 2 (.int .i64 1) hbr)
      have R326 := hide (RdIn.turn (S := [bx]) (unhide R285) ((Turn.refl [bx] w284).setCell (g := bx) (by simp) 2 (.int .i64 1)) (by simpa using Ne.symm hgx) (by simpa using hbx))
      have T327 := hide (set_new (unhide T286) hbn 2 (.int .i64 1))
      refine ret_rec (unhide BR325) rfl ?_ ?_ ?_ ?_ ?_ ?_ (unhide R326) hgr.symm hrn hrb (unhide T327)
      · rfl
      · exact hnm
      · exact (by decide)
      · exact ⟨by omega, by omega⟩
      · exact ⟨by omega, by omega⟩
      · omega
    by_cases q3 : v283 = 3
    · subst q3
      obtain ⟨⟨x0, x1, x2, x3⟩, f0, f1, f2, f3⟩ := (unhide BX287).four
      obtain ⟨⟨z0, z1, z2, z3⟩, h0, h1, h2, h3⟩ := (unhide BR288).four
      go_wp2_with fail
      have BR328 := hide ((unhide BR288).far 3 (.string ⟨#[116]⟩) hbr)
      have R329 := hide (RdIn.turn (S := [bx]) (unhide R285) ((Turn.refl [bx] w284).setCell (g := bx) (by simp) 3 (.string ⟨#[116]⟩)) (by simpa using Ne.symm hgx) (by simpa using hbx))
      have T330 := hide (set_new (unhide T286) hbn 3 (.string ⟨#[116]⟩))
      refine ret_rec (unhide BR328) rfl ?_ ?_ ?_ ?_ ?_ ?_ (unhide R329) hgr.symm hrn hrb (unhide T330)
      · rfl
      · exact hnm
      · exact (by decide)
      · exact ⟨by omega, by omega⟩
      · exact ⟨by omega, by omega⟩
      · omega
    have e0 : (v283 == 0) = false := by rw [beq_eq_false_iff_ne]; exact q0
    have e1 : (v283 == 1) = false := by rw [beq_eq_false_iff_ne]; exact q1
    have e2 : (v283 == 2) = false := by rw [beq_eq_false_iff_ne]; exact q2
    have e3 : (v283 == 3) = false := by rw [beq_eq_false_iff_ne]; exact q3
    clear q0 q1 q2 q3
    obtain ⟨⟨x0, x1, x2, x3⟩, f0, f1, f2, f3⟩ := (unhide BX287).four
    obtain ⟨⟨z0, z1, z2, z3⟩, h0, h1, h2, h3⟩ := (unhide BR288).four
    go_wp2_with fail
    refine ret_rec (unhide BR288) rfl ?_ ?_ ?_ ?_ ?_ ?_ (unhide R285) hgr.symm hrn hrb (unhide T286)
    · rfl
    · exact hnm
    · exact (by decide)
    · exact ⟨by omega, by omega⟩
    · exact ⟨by omega, by omega⟩
    · omega
  obtain rfl : v2 = 3 := by omega
  have BX0 := hide (boxF_new4 w14 (.int .i64 4) (.string nm) (.int .i64 0) (.string ⟨#[]⟩) 32)
  have ba := (Below.refl w14.heap.size w14).alloc (Nat.le_refl _) (.cells #[.int .i64 4, .string nm, .int .i64 0, .string ⟨#[]⟩] 32)
  have hgx : w14.heap.size ≠ g := by omega
  have hbr : w.heap.size ≠ w14.heap.size := by omega
  have hbn : w.heap.size ≤ w14.heap.size := by omega
  have hbx : base ≤ w14.heap.size := by omega
  have R331 := hide (RdIn.turn (S := []) (unhide R15) (Turn.of_below ba) (by simp) (by simp))
  have T332 := hide (Turn.trans (unhide T16) (Turn.of_below ba))
  have BR333 := hide ((unhide BR17).up ba)
  clear R15 T16 BR17
  clear ba
  obtain ⟨⟨x0, x1, x2, x3⟩, f0, f1, f2, f3⟩ := (unhide BX0).four
  go_wp2_with fail
  generalize w14.alloc (.cells #[.int .i64 4, .string nm, .int .i64 0, .string ⟨#[]⟩] 32) = w334 at *
  generalize w14.heap.size = bx at *
  clear x0 x1 x2 x3 f0 f1 f2 f3
  refine (pick_any w334 base g (p + 2) 1000 (by omega) (by omega) (by omega) (unhide R331)).mono ?_
  rintro e w335 ⟨v3, rfl, v3a, v3b, hr, ht⟩
  have R336 := hide (hr)
  have T337 := hide (Turn.trans (unhide T332) ht)
  have BX338 := hide ((unhide BX0).turn ht (by simpa using hgx))
  have BR339 := hide ((unhide BR333).turn ht (by simpa using hgr))
  clear R331 T332 BX0 BR333
  clear hr ht
  obtain ⟨⟨x0, x1, x2, x3⟩, f0, f1, f2, f3⟩ := (unhide BX338).four
  go_wp2_with fail
  have BX341 := hide (show BoxF (w335.setCell ⟨bx, 2, none⟩ (.int .i64 (1 + v3))) bx [.int .i64 4, .string nm, .int .i64 (1 + v3), .string ⟨#[]⟩] from (unhide BX338).set 2 (.int .i64 (1 + v3)) (by simp))
  have BR342 := hide ((unhide BR339).far 2 (.int .i64 (1 + v3)) hbr)
  have R343 := hide (RdIn.turn (S := [bx]) (unhide R336) ((Turn.refl [bx] w335).setCell (g := bx) (by simp) 2 (.int .i64 (1 + v3))) (by simpa using Ne.symm hgx) (by simpa using hbx))
  have T344 := hide (set_new (unhide T337) hbn 2 (.int .i64 (1 + v3)))
  clear BX338 BR339 R336 T337
  clear x0 x1 x2 x3 f0 f1 f2 f3
  generalize w335.setCell ⟨bx, 2, none⟩ (.int .i64 (1 + v3)) = w340 at *
  refine (pick_any w340 base g (p + 3) 10 (by omega) (by omega) (by omega) (unhide R343)).mono ?_
  rintro e w345 ⟨v4, rfl, v4a, v4b, hr, ht⟩
  have R346 := hide (hr)
  have T347 := hide (Turn.trans (unhide T344) ht)
  have BX348 := hide ((unhide BX341).turn ht (by simpa using hgx))
  have BR349 := hide ((unhide BR342).turn ht (by simpa using hgr))
  clear R343 T344 BX341 BR342
  clear hr ht
  by_cases y0 : v4 = 0
  · subst y0
    go_wp2_with fail
    have ba := (Below.refl w345.heap.size w345).alloc (Nat.le_refl _) (.cells #[.int .i64 1125899906842624, .int .i64 1125899906842625, .int .i64 0] 3)
    have hc352 := hide (show ∀ j, j < 3 → (w345.alloc (.cells #[.int .i64 1125899906842624, .int .i64 1125899906842625, .int .i64 0] 3)).cell? ⟨w345.heap.size, j, none⟩ = some (.int .i64 (n4F j)) from fun j hj => by
      rw [World.cell?_alloc_at _ _ _ _ rfl]
      match j, hj with
      | 0, _ | 1, _ | 2, _ => rfl)
    have B351l : w345.heap.size < (w345.alloc (.cells #[.int .i64 1125899906842624, .int .i64 1125899906842625, .int .i64 0] 3)).heap.size := by simp
    have hg353 : w345.heap.size ≠ g := by have := (unhide R346).lt; omega
    have R354 := hide (RdIn.turn (S := []) (unhide R346) (Turn.of_below ba) (by simp) (by simp))
    have T355 := hide (Turn.trans (unhide T347) (Turn.of_below ba))
    have BX356 := hide ((unhide BX348).up ba)
    have BR357 := hide ((unhide BR349).up ba)
    clear R346 T347 BX348 BR349
    clear ba
    generalize w345.alloc (.cells #[.int .i64 1125899906842624, .int .i64 1125899906842625, .int .i64 0] 3) = w350 at *
    generalize w345.heap.size = B351 at *
    refine (pick_any w350 base g (p + 4) 3 (by omega) (by omega) (by omega) (unhide R354)).mono ?_
    rintro e w358 ⟨v5, rfl, v5a, v5b, hr, ht⟩
    have v5t : v5.toNat < 3 := by omega
    have c359 := (ht.cell B351l (by simpa using hg353)).trans (unhide hc352 v5.toNat v5t)
    have R360 := hide (hr)
    have T361 := hide (Turn.trans (unhide T355) ht)
    have BX362 := hide ((unhide BX356).turn ht (by simpa using hgx))
    have BR363 := hide ((unhide BR357).turn ht (by simpa using hgr))
    clear R354 T355 BX356 BR357
    clear hr ht hc352
    obtain ⟨⟨x0, x1, x2, x3⟩, f0, f1, f2, f3⟩ := (unhide BX362).four
    go_wp2_with fail
    have BX365 := hide (show BoxF (w358.setCell ⟨bx, 2, none⟩ (.int .i64 (n4F v5.toNat))) bx [.int .i64 4, .string nm, .int .i64 (n4F v5.toNat), .string ⟨#[]⟩] from (unhide BX362).set 2 (.int .i64 (n4F v5.toNat)) (by simp))
    have BR366 := hide ((unhide BR363).far 2 (.int .i64 (n4F v5.toNat)) hbr)
    have R367 := hide (RdIn.turn (S := [bx]) (unhide R360) ((Turn.refl [bx] w358).setCell (g := bx) (by simp) 2 (.int .i64 (n4F v5.toNat))) (by simpa using Ne.symm hgx) (by simpa using hbx))
    have T368 := hide (set_new (unhide T361) hbn 2 (.int .i64 (n4F v5.toNat)))
    clear BX362 BR363 R360 T361
    clear x0 x1 x2 x3 f0 f1 f2 f3
    generalize w358.setCell ⟨bx, 2, none⟩ (.int .i64 (n4F v5.toNat)) = w364 at *
    refine (pick_any w364 base g (p + 5) 60 (by omega) (by omega) (by omega) (unhide R367)).mono ?_
    rintro e w370 ⟨v369, rfl, v369a, v369b, hr, ht⟩
    have R371 := hide (hr)
    have T372 := hide (Turn.trans (unhide T368) ht)
    have BX373 := hide ((unhide BX365).turn ht (by simpa using hgx))
    have BR374 := hide ((unhide BR366).turn ht (by simpa using hgr))
    clear R367 T368 BX365 BR366
    clear hr ht
    by_cases q0 : v369 = 0
    · subst q0
      go_wp2_with fail
      have ba := (Below.refl w370.heap.size w370).alloc (Nat.le_refl _) (.cells #[.string ⟨#[]⟩, .string ⟨#[88]⟩, .string ⟨#[97, 98, 99, 100, 101, 102, 103, 104, 105]⟩, .string ⟨#[97, 32, 98]⟩] 9)
      have hc378 := hide (show ∀ j, j < 4 → (w370.alloc (.cells #[.string ⟨#[]⟩, .string ⟨#[88]⟩, .string ⟨#[97, 98, 99, 100, 101, 102, 103, 104, 105]⟩, .string ⟨#[97, 32, 98]⟩] 9)).cell? ⟨w370.heap.size, j, none⟩ = some (.string (badF j)) from fun j hj => by
        rw [World.cell?_alloc_at _ _ _ _ rfl]
        match j, hj with
        | 0, _ | 1, _ | 2, _ | 3, _ => rfl)
      have B377l : w370.heap.size < (w370.alloc (.cells #[.string ⟨#[]⟩, .string ⟨#[88]⟩, .string ⟨#[97, 98, 99, 100, 101, 102, 103, 104, 105]⟩, .string ⟨#[97, 32, 98]⟩] 9)).heap.size := by simp
      have hg379 : w370.heap.size ≠ g := by have := (unhide R371).lt; omega
      have R380 := hide (RdIn.turn (S := []) (unhide R371) (Turn.of_below ba) (by simp) (by simp))
      have T381 := hide (Turn.trans (unhide T372) (Turn.of_below ba))
      have BX382 := hide ((unhide BX373).up ba)
      have BR383 := hide ((unhide BR374).up ba)
      clear R371 T372 BX373 BR374
      clear ba
      generalize w370.alloc (.cells #[.string ⟨#[]⟩, .string ⟨#[88]⟩, .string ⟨#[97, 98, 99, 100, 101, 102, 103, 104, 105]⟩, .string ⟨#[97, 32, 98]⟩] 9) = w376 at *
      generalize w370.heap.size = B377 at *
      refine (pick_any w376 base g (p + 6) 4 (by omega) (by omega) (by omega) (unhide R380)).mono ?_
      rintro e w384 ⟨v375, rfl, v375a, v375b, hr, ht⟩
      have v375t : v375.toNat < 4 := by omega
      have c385 := (ht.cell B377l (by simpa using hg379)).trans (unhide hc378 v375.toNat v375t)
      have R386 := hide (hr)
      have T387 := hide (Turn.trans (unhide T381) ht)
      have BX388 := hide ((unhide BX382).turn ht (by simpa using hgx))
      have BR389 := hide ((unhide BR383).turn ht (by simpa using hgr))
      clear R380 T381 BX382 BR383
      clear hr ht hc378
      obtain ⟨⟨x0, x1, x2, x3⟩, f0, f1, f2, f3⟩ := (unhide BX388).four
      obtain ⟨⟨z0, z1, z2, z3⟩, h0, h1, h2, h3⟩ := (unhide BR389).four
      go_wp2_with fail
      have BR390 := hide ((unhide BR389).far 1 (.string (badF v375.toNat)) hbr)
      have R391 := hide (RdIn.turn (S := [bx]) (unhide R386) ((Turn.refl [bx] w384).setCell (g := bx) (by simp) 1 (.string (badF v375.toNat))) (by simpa using Ne.symm hgx) (by simpa using hbx))
      have T392 := hide (set_new (unhide T387) hbn 1 (.string (badF v375.toNat)))
      refine ret_rec (unhide BR390) rfl ?_ ?_ ?_ ?_ ?_ ?_ (unhide R391) hgr.symm hrn hrb (unhide T392)
      · rfl
      · exact (badF_size _)
      · exact (by decide)
      · exact ⟨by omega, by omega⟩
      · exact (n4F_fit _)
      · omega
    by_cases q1 : v369 = 1
    · subst q1
      go_wp2_with fail
      have ba := (Below.refl w370.heap.size w370).alloc (Nat.le_refl _) (.cells #[.int .i64 0, .int .i64 5, .int .i64 (-1), .int .i64 257] 3)
      have hc396 := hide (show ∀ j, j < 4 → (w370.alloc (.cells #[.int .i64 0, .int .i64 5, .int .i64 (-1), .int .i64 257] 3)).cell? ⟨w370.heap.size, j, none⟩ = some (.int .i64 (kdF j)) from fun j hj => by
        rw [World.cell?_alloc_at _ _ _ _ rfl]
        match j, hj with
        | 0, _ | 1, _ | 2, _ | 3, _ => rfl)
      have B395l : w370.heap.size < (w370.alloc (.cells #[.int .i64 0, .int .i64 5, .int .i64 (-1), .int .i64 257] 3)).heap.size := by simp
      have hg397 : w370.heap.size ≠ g := by have := (unhide R371).lt; omega
      have R398 := hide (RdIn.turn (S := []) (unhide R371) (Turn.of_below ba) (by simp) (by simp))
      have T399 := hide (Turn.trans (unhide T372) (Turn.of_below ba))
      have BX400 := hide ((unhide BX373).up ba)
      have BR401 := hide ((unhide BR374).up ba)
      clear R371 T372 BX373 BR374
      clear ba
      generalize w370.alloc (.cells #[.int .i64 0, .int .i64 5, .int .i64 (-1), .int .i64 257] 3) = w394 at *
      generalize w370.heap.size = B395 at *
      refine (pick_any w394 base g (p + 6) 4 (by omega) (by omega) (by omega) (unhide R398)).mono ?_
      rintro e w402 ⟨v393, rfl, v393a, v393b, hr, ht⟩
      have v393t : v393.toNat < 4 := by omega
      have c403 := (ht.cell B395l (by simpa using hg397)).trans (unhide hc396 v393.toNat v393t)
      have R404 := hide (hr)
      have T405 := hide (Turn.trans (unhide T399) ht)
      have BX406 := hide ((unhide BX400).turn ht (by simpa using hgx))
      have BR407 := hide ((unhide BR401).turn ht (by simpa using hgr))
      clear R398 T399 BX400 BR401
      clear hr ht hc396
      obtain ⟨⟨x0, x1, x2, x3⟩, f0, f1, f2, f3⟩ := (unhide BX406).four
      obtain ⟨⟨z0, z1, z2, z3⟩, h0, h1, h2, h3⟩ := (unhide BR407).four
      go_wp2_with fail
      have BR408 := hide ((unhide BR407).far 0 (.int .i64 (kdF v393.toNat)) hbr)
      have R409 := hide (RdIn.turn (S := [bx]) (unhide R404) ((Turn.refl [bx] w402).setCell (g := bx) (by simp) 0 (.int .i64 (kdF v393.toNat))) (by simpa using Ne.symm hgx) (by simpa using hbx))
      have T410 := hide (set_new (unhide T405) hbn 0 (.int .i64 (kdF v393.toNat)))
      refine ret_rec (unhide BR408) rfl ?_ ?_ ?_ ?_ ?_ ?_ (unhide R409) hgr.symm hrn hrb (unhide T410)
      · rfl
      · exact hnm
      · exact (by decide)
      · exact (kdF_fit _)
      · exact (n4F_fit _)
      · omega
    by_cases q2 : v369 = 2
    · subst q2
      obtain ⟨⟨x0, x1, x2, x3⟩, f0, f1, f2, f3⟩ := (unhide BX373).four
      obtain ⟨⟨z0, z1, z2, z3⟩, h0, h1, h2, h3⟩ := (unhide BR374).four
      go_wp2_with fail
      have BR411 := hide ((unhide BR374).far 2 (.int .i64 1) hbr)
      have R412 := hide (RdIn.turn (S := [bx]) (unhide R371) ((Turn.refl [bx] w370).setCell (g := bx) (by simp) 2 (.int .i64 1)) (by simpa using Ne.symm hgx) (by simpa using hbx))
      have T413 := hide (set_new (unhide T372) hbn 2 (.int .i64 1))
      refine ret_rec (unhide BR411) rfl ?_ ?_ ?_ ?_ ?_ ?_ (unhide R412) hgr.symm hrn hrb (unhide T413)
      · rfl
      · exact hnm
      · exact (by decide)
      · exact ⟨by omega, by omega⟩
      · exact ⟨by omega, by omega⟩
      · omega
    by_cases q3 : v369 = 3
    · subst q3
      obtain ⟨⟨x0, x1, x2, x3⟩, f0, f1, f2, f3⟩ := (unhide BX373).four
      obtain ⟨⟨z0, z1, z2, z3⟩, h0, h1, h2, h3⟩ := (unhide BR374).four
      go_wp2_with fail
      have BR414 := hide ((unhide BR374).far 3 (.string ⟨#[116]⟩) hbr)
      have R415 := hide (RdIn.turn (S := [bx]) (unhide R371) ((Turn.refl [bx] w370).setCell (g := bx) (by simp) 3 (.string ⟨#[116]⟩)) (by simpa using Ne.symm hgx) (by simpa using hbx))
      have T416 := hide (set_new (unhide T372) hbn 3 (.string ⟨#[116]⟩))
      refine ret_rec (unhide BR414) rfl ?_ ?_ ?_ ?_ ?_ ?_ (unhide R415) hgr.symm hrn hrb (unhide T416)
      · rfl
      · exact hnm
      · exact (by decide)
      · exact ⟨by omega, by omega⟩
      · exact (n4F_fit _)
      · omega
    have e0 : (v369 == 0) = false := by rw [beq_eq_false_iff_ne]; exact q0
    have e1 : (v369 == 1) = false := by rw [beq_eq_false_iff_ne]; exact q1
    have e2 : (v369 == 2) = false := by rw [beq_eq_false_iff_ne]; exact q2
    have e3 : (v369 == 3) = false := by rw [beq_eq_false_iff_ne]; exact q3
    clear q0 q1 q2 q3
    obtain ⟨⟨x0, x1, x2, x3⟩, f0, f1, f2, f3⟩ := (unhide BX373).four
    obtain ⟨⟨z0, z1, z2, z3⟩, h0, h1, h2, h3⟩ := (unhide BR374).four
    go_wp2_with fail
    refine ret_rec (unhide BR374) rfl ?_ ?_ ?_ ?_ ?_ ?_ (unhide R371) hgr.symm hrn hrb (unhide T372)
    · rfl
    · exact hnm
    · exact (by decide)
    · exact ⟨by omega, by omega⟩
    · exact (n4F_fit _)
    · omega
  have y1 : (v4 == 0) = false := by rw [beq_eq_false_iff_ne]; exact y0
  clear y0
  go_wp2_with fail
  refine (pick_any w345 base g (p + 4) 60 (by omega) (by omega) (by omega) (unhide R346)).mono ?_
  rintro e w418 ⟨v417, rfl, v417a, v417b, hr, ht⟩
  have R419 := hide (hr)
  have T420 := hide (Turn.trans (unhide T347) ht)
  have BX421 := hide ((unhide BX348).turn ht (by simpa using hgx))
  have BR422 := hide ((unhide BR349).turn ht (by simpa using hgr))
  clear R346 T347 BX348 BR349
  clear hr ht
  by_cases q0 : v417 = 0
  · subst q0
    go_wp2_with fail
    have ba := (Below.refl w418.heap.size w418).alloc (Nat.le_refl _) (.cells #[.string ⟨#[]⟩, .string ⟨#[88]⟩, .string ⟨#[97, 98, 99, 100, 101, 102, 103, 104, 105]⟩, .string ⟨#[97, 32, 98]⟩] 9)
    have hc426 := hide (show ∀ j, j < 4 → (w418.alloc (.cells #[.string ⟨#[]⟩, .string ⟨#[88]⟩, .string ⟨#[97, 98, 99, 100, 101, 102, 103, 104, 105]⟩, .string ⟨#[97, 32, 98]⟩] 9)).cell? ⟨w418.heap.size, j, none⟩ = some (.string (badF j)) from fun j hj => by
      rw [World.cell?_alloc_at _ _ _ _ rfl]
      match j, hj with
      | 0, _ | 1, _ | 2, _ | 3, _ => rfl)
    have B425l : w418.heap.size < (w418.alloc (.cells #[.string ⟨#[]⟩, .string ⟨#[88]⟩, .string ⟨#[97, 98, 99, 100, 101, 102, 103, 104, 105]⟩, .string ⟨#[97, 32, 98]⟩] 9)).heap.size := by simp
    have hg427 : w418.heap.size ≠ g := by have := (unhide R419).lt; omega
    have R428 := hide (RdIn.turn (S := []) (unhide R419) (Turn.of_below ba) (by simp) (by simp))
    have T429 := hide (Turn.trans (unhide T420) (Turn.of_below ba))
    have BX430 := hide ((unhide BX421).up ba)
    have BR431 := hide ((unhide BR422).up ba)
    clear R419 T420 BX421 BR422
    clear ba
    generalize w418.alloc (.cells #[.string ⟨#[]⟩, .string ⟨#[88]⟩, .string ⟨#[97, 98, 99, 100, 101, 102, 103, 104, 105]⟩, .string ⟨#[97, 32, 98]⟩] 9) = w424 at *
    generalize w418.heap.size = B425 at *
    refine (pick_any w424 base g (p + 5) 4 (by omega) (by omega) (by omega) (unhide R428)).mono ?_
    rintro e w432 ⟨v423, rfl, v423a, v423b, hr, ht⟩
    have v423t : v423.toNat < 4 := by omega
    have c433 := (ht.cell B425l (by simpa using hg427)).trans (unhide hc426 v423.toNat v423t)
    have R434 := hide (hr)
    have T435 := hide (Turn.trans (unhide T429) ht)
    have BX436 := hide ((unhide BX430).turn ht (by simpa using hgx))
    have BR437 := hide ((unhide BR431).turn ht (by simpa using hgr))
    clear R428 T429 BX430 BR431
    clear hr ht hc426
    obtain ⟨⟨x0, x1, x2, x3⟩, f0, f1, f2, f3⟩ := (unhide BX436).four
    obtain ⟨⟨z0, z1, z2, z3⟩, h0, h1, h2, h3⟩ := (unhide BR437).four
    go_wp2_with fail
    have BR438 := hide ((unhide BR437).far 1 (.string (badF v423.toNat)) hbr)
    have R439 := hide (RdIn.turn (S := [bx]) (unhide R434) ((Turn.refl [bx] w432).setCell (g := bx) (by simp) 1 (.string (badF v423.toNat))) (by simpa using Ne.symm hgx) (by simpa using hbx))
    have T440 := hide (set_new (unhide T435) hbn 1 (.string (badF v423.toNat)))
    refine ret_rec (unhide BR438) rfl ?_ ?_ ?_ ?_ ?_ ?_ (unhide R439) hgr.symm hrn hrb (unhide T440)
    · rfl
    · exact (badF_size _)
    · exact (by decide)
    · exact ⟨by omega, by omega⟩
    · exact ⟨by omega, by omega⟩
    · omega
  by_cases q1 : v417 = 1
  · subst q1
    go_wp2_with fail
    have ba := (Below.refl w418.heap.size w418).alloc (Nat.le_refl _) (.cells #[.int .i64 0, .int .i64 5, .int .i64 (-1), .int .i64 257] 3)
    have hc444 := hide (show ∀ j, j < 4 → (w418.alloc (.cells #[.int .i64 0, .int .i64 5, .int .i64 (-1), .int .i64 257] 3)).cell? ⟨w418.heap.size, j, none⟩ = some (.int .i64 (kdF j)) from fun j hj => by
      rw [World.cell?_alloc_at _ _ _ _ rfl]
      match j, hj with
      | 0, _ | 1, _ | 2, _ | 3, _ => rfl)
    have B443l : w418.heap.size < (w418.alloc (.cells #[.int .i64 0, .int .i64 5, .int .i64 (-1), .int .i64 257] 3)).heap.size := by simp
    have hg445 : w418.heap.size ≠ g := by have := (unhide R419).lt; omega
    have R446 := hide (RdIn.turn (S := []) (unhide R419) (Turn.of_below ba) (by simp) (by simp))
    have T447 := hide (Turn.trans (unhide T420) (Turn.of_below ba))
    have BX448 := hide ((unhide BX421).up ba)
    have BR449 := hide ((unhide BR422).up ba)
    clear R419 T420 BX421 BR422
    clear ba
    generalize w418.alloc (.cells #[.int .i64 0, .int .i64 5, .int .i64 (-1), .int .i64 257] 3) = w442 at *
    generalize w418.heap.size = B443 at *
    refine (pick_any w442 base g (p + 5) 4 (by omega) (by omega) (by omega) (unhide R446)).mono ?_
    rintro e w450 ⟨v441, rfl, v441a, v441b, hr, ht⟩
    have v441t : v441.toNat < 4 := by omega
    have c451 := (ht.cell B443l (by simpa using hg445)).trans (unhide hc444 v441.toNat v441t)
    have R452 := hide (hr)
    have T453 := hide (Turn.trans (unhide T447) ht)
    have BX454 := hide ((unhide BX448).turn ht (by simpa using hgx))
    have BR455 := hide ((unhide BR449).turn ht (by simpa using hgr))
    clear R446 T447 BX448 BR449
    clear hr ht hc444
    obtain ⟨⟨x0, x1, x2, x3⟩, f0, f1, f2, f3⟩ := (unhide BX454).four
    obtain ⟨⟨z0, z1, z2, z3⟩, h0, h1, h2, h3⟩ := (unhide BR455).four
    go_wp2_with fail
    have BR456 := hide ((unhide BR455).far 0 (.int .i64 (kdF v441.toNat)) hbr)
    have R457 := hide (RdIn.turn (S := [bx]) (unhide R452) ((Turn.refl [bx] w450).setCell (g := bx) (by simp) 0 (.int .i64 (kdF v441.toNat))) (by simpa using Ne.symm hgx) (by simpa using hbx))
    have T458 := hide (set_new (unhide T453) hbn 0 (.int .i64 (kdF v441.toNat)))
    refine ret_rec (unhide BR456) rfl ?_ ?_ ?_ ?_ ?_ ?_ (unhide R457) hgr.symm hrn hrb (unhide T458)
    · rfl
    · exact hnm
    · exact (by decide)
    · exact (kdF_fit _)
    · exact ⟨by omega, by omega⟩
    · omega
  by_cases q2 : v417 = 2
  · subst q2
    obtain ⟨⟨x0, x1, x2, x3⟩, f0, f1, f2, f3⟩ := (unhide BX421).four
    obtain ⟨⟨z0, z1, z2, z3⟩, h0, h1, h2, h3⟩ := (unhide BR422).four
    go_wp2_with fail
    have BR459 := hide ((unhide BR422).far 2 (.int .i64 1) hbr)
    have R460 := hide (RdIn.turn (S := [bx]) (unhide R419) ((Turn.refl [bx] w418).setCell (g := bx) (by simp) 2 (.int .i64 1)) (by simpa using Ne.symm hgx) (by simpa using hbx))
    have T461 := hide (set_new (unhide T420) hbn 2 (.int .i64 1))
    refine ret_rec (unhide BR459) rfl ?_ ?_ ?_ ?_ ?_ ?_ (unhide R460) hgr.symm hrn hrb (unhide T461)
    · rfl
    · exact hnm
    · exact (by decide)
    · exact ⟨by omega, by omega⟩
    · exact ⟨by omega, by omega⟩
    · omega
  by_cases q3 : v417 = 3
  · subst q3
    obtain ⟨⟨x0, x1, x2, x3⟩, f0, f1, f2, f3⟩ := (unhide BX421).four
    obtain ⟨⟨z0, z1, z2, z3⟩, h0, h1, h2, h3⟩ := (unhide BR422).four
    go_wp2_with fail
    have BR462 := hide ((unhide BR422).far 3 (.string ⟨#[116]⟩) hbr)
    have R463 := hide (RdIn.turn (S := [bx]) (unhide R419) ((Turn.refl [bx] w418).setCell (g := bx) (by simp) 3 (.string ⟨#[116]⟩)) (by simpa using Ne.symm hgx) (by simpa using hbx))
    have T464 := hide (set_new (unhide T420) hbn 3 (.string ⟨#[116]⟩))
    refine ret_rec (unhide BR462) rfl ?_ ?_ ?_ ?_ ?_ ?_ (unhide R463) hgr.symm hrn hrb (unhide T464)
    · rfl
    · exact hnm
    · exact (by decide)
    · exact ⟨by omega, by omega⟩
    · exact ⟨by omega, by omega⟩
    · omega
  have e0 : (v417 == 0) = false := by rw [beq_eq_false_iff_ne]; exact q0
  have e1 : (v417 == 1) = false := by rw [beq_eq_false_iff_ne]; exact q1
  have e2 : (v417 == 2) = false := by rw [beq_eq_false_iff_ne]; exact q2
  have e3 : (v417 == 3) = false := by rw [beq_eq_false_iff_ne]; exact q3
  clear q0 q1 q2 q3
  obtain ⟨⟨x0, x1, x2, x3⟩, f0, f1, f2, f3⟩ := (unhide BX421).four
  obtain ⟨⟨z0, z1, z2, z3⟩, h0, h1, h2, h3⟩ := (unhide BR422).four
  go_wp2_with fail
  refine ret_rec (unhide BR422) rfl ?_ ?_ ?_ ?_ ?_ ?_ (unhide R419) hgr.symm hrn hrb (unhide T420)
  · rfl
  · exact hnm
  · exact (by decide)
  · exact ⟨by omega, by omega⟩
  · exact ⟨by omega, by omega⟩
  · omega
end Go.Proofs.Ytcpjcdbhcllbiaa
