/-
  The walk of the law: a stream is heard the same in pieces as at once. (Made by wip/mksplitpieces.py.)
-/
import Derived.Test.YtlgmmibncoedgaaSplPiecesK
set_option linter.unusedVariables false
namespace Go.Proofs.Ytlgmmibncoedgaa
open Go.RowKit Go.Maps Go.Deep

set_option maxRecDepth 20000 in
set_option maxHeartbeats 12800000 in
theorem splPieces_walk (a a2 : Option Addr) (cap cap2 : Nat) (bs ms : List UInt8) (w : World) (hl : bs.length ≤ maxLen) (hc : bs.length ≤ cap) (hb : ByIn w a bs) (hl2 : ms.length ≤ maxLen) (hc2 : ms.length ≤ cap2) (hb2 : ByIn w a2 ms) :
    Calls Try.prog 4 #[.slice a bs.length cap, .slice a2 ms.length cap2] w fun e w' => e = .returned (.bool true) ∧ Below w.heap.size w w' := by
  by_cases hbs : (bs.length : Int) ≤ 1048576
  rotate_left
  · unfold maxLen at hl hl2
    go_enter Try.func4, Try.ntmps4
    go_wp2_with fail
    go_ret
    exact ⟨rfl, Below.refl _ _⟩
  by_cases hms : (ms.length : Int) ≤ 1048576
  rotate_left
  · unfold maxLen at hl hl2
    go_enter Try.func4, Try.ntmps4
    go_wp2_with fail
    go_ret
    exact ⟨rfl, Below.refl _ _⟩
  have HD := hide (drawFeed_any w a cap bs hl hc hb)
  clear hb hc hl hb2 hc2 hl2
  go_enter Try.func4, Try.ntmps4
  go_wp2_with fail
  refine (unhide HD).mono ?_
  rintro e w1 ⟨sa, sn, sc, sl, sb, ya, yn, yc, ys, rfl, RS0, HSL, RY, HYL, b⟩
  have RS := hide (show SplitRd w1 (.agg #[.slice sa sn sc, .int .i64 sl]) ⟨sb, sl⟩ from ⟨_, rfl, unhide RS0⟩)
  clear RS0
  have B2 := hide b
  clear b
  clear HD
  have HS := hide (show SmallSplit ⟨sb, sl⟩ from by have := unhide HSL; unfold SmallSplit; simp only; omega)
  have HSY := hide (show SmallByteS ys from by have := unhide HYL; unfold SmallByteS; omega)
  have HYN := hide (by_len (unhide RY)).1
  have x3 := boxF_new2 w1 (.slice sa sn sc) (.int .i64 sl) 35
  have b4 := (Below.refl w1.heap.size w1).alloc (Nat.le_refl _) (.cells #[.slice sa sn sc, .int .i64 sl] 35)
  have B5 := hide ((unhide B2).trans (b4.mono (unhide B2).size))
  clear B2
  have F6 := hide ((unhide RS).up b4)
  clear RS
  have F7 := hide ((unhide RY).up b4)
  clear RY
  have X8 := hide x3
  clear x3 b4
  obtain ⟨⟨c9, c10⟩, z11, z12⟩ := (unhide X8).pr
  go_wp2_with fail
  generalize w1.alloc (.cells #[.slice sa sn sc, .int .i64 sl] 35) = W13 at *
  generalize w1.heap.size = g14 at *
  clear c9 c10 z11 z12
  refine (implFeed_any ⟨sb, sl⟩ _ ys _ W13 (unhide HS) (unhide HSY) (unhide F6) (unhide F7)).mono ?_
  rintro e w15 ⟨vt, St, vl, Ql, rfl, Ot, _, Hl, _, _, b⟩
  obtain ⟨ta, tn, tc, rfl⟩ := sp_form (unhide Ot).rd
  obtain ⟨la, ln, lc, rfl⟩ := (unhide Hl).rd.form
  have B16 := hide ((unhide B5).trans (b.mono (unhide B5).size))
  clear B5
  have F17 := hide ((unhide F6).up b)
  clear F6
  have F18 := hide ((unhide F7).up b)
  clear F7
  have X19 := hide ((unhide X8).up b)
  clear X8
  clear b
  have F20 := hide ((unhide Ot).rd)
  have F21 := hide ((unhide Hl).rd)
  clear Ot Hl
  have x22 := boxF_new2 w15 (.slice ta tn tc) (.int .i64 (feedS ⟨sb, sl⟩ ys).lost) 35
  have b23 := (Below.refl w15.heap.size w15).alloc (Nat.le_refl _) (.cells #[.slice ta tn tc, .int .i64 (feedS ⟨sb, sl⟩ ys).lost] 35)
  have B24 := hide ((unhide B16).trans (b23.mono (unhide B16).size))
  clear B16
  have F25 := hide ((unhide F17).up b23)
  clear F17
  have F26 := hide ((unhide F18).up b23)
  clear F18
  have F27 := hide ((unhide F20).up b23)
  clear F20
  have F28 := hide ((unhide F21).up b23)
  clear F21
  have X29 := hide ((unhide X19).up b23)
  clear X19
  have X30 := hide x22
  clear x22 b23
  obtain ⟨⟨c31, c32⟩, z33, z34⟩ := (unhide X29).pr
  go_wp2_with fail
  generalize w15.alloc (.cells #[.slice ta tn tc, .int .i64 (feedS ⟨sb, sl⟩ ys).lost] 35) = W35 at *
  generalize w15.heap.size = g36 at *
  clear c31 c32 z33 z34
  refine (specFeed_any ⟨sb, sl⟩ _ ys _ W35 (unhide HS) (unhide HSY) (unhide F25) (unhide F26)).mono ?_
  rintro e w37 ⟨vu, vm, rfl, Ru, Rm, b⟩
  obtain ⟨ua, un, uc, rfl⟩ := sp_form (unhide Ru)
  obtain ⟨ma, mn, mc, rfl⟩ := (unhide Rm).form
  have B38 := hide ((unhide B24).trans (b.mono (unhide B24).size))
  clear B24
  have F39 := hide ((unhide F25).up b)
  clear F25
  have F40 := hide ((unhide F26).up b)
  clear F26
  have F41 := hide ((unhide F27).up b)
  clear F27
  have F42 := hide ((unhide F28).up b)
  clear F28
  have X43 := hide ((unhide X29).up b)
  clear X29
  have X44 := hide ((unhide X30).up b)
  clear X30
  clear b
  have F45 := hide (unhide Ru)
  have F46 := hide (unhide Rm)
  clear Ru Rm
  have x47 := boxF_new2 w37 (.slice ua un uc) (.int .i64 (feedS ⟨sb, sl⟩ ys).lost) 35
  have b48 := (Below.refl w37.heap.size w37).alloc (Nat.le_refl _) (.cells #[.slice ua un uc, .int .i64 (feedS ⟨sb, sl⟩ ys).lost] 35)
  have B49 := hide ((unhide B38).trans (b48.mono (unhide B38).size))
  clear B38
  have F50 := hide ((unhide F39).up b48)
  clear F39
  have F51 := hide ((unhide F40).up b48)
  clear F40
  have F52 := hide ((unhide F41).up b48)
  clear F41
  have F53 := hide ((unhide F42).up b48)
  clear F42
  have F54 := hide ((unhide F45).up b48)
  clear F45
  have F55 := hide ((unhide F46).up b48)
  clear F46
  have X56 := hide ((unhide X43).up b48)
  clear X43
  have X57 := hide ((unhide X44).up b48)
  clear X44
  have X58 := hide x47
  clear x47 b48
  obtain ⟨⟨c59, c60⟩, z61, z62⟩ := (unhide X57).pr
  obtain ⟨⟨c63, c64⟩, z65, z66⟩ := (unhide X58).pr
  go_wp2_with fail
  generalize w37.alloc (.cells #[.slice ua un uc, .int .i64 (feedS ⟨sb, sl⟩ ys).lost] 35) = W67 at *
  generalize w37.heap.size = g68 at *
  clear c59 c60 z61 z62 c63 c64 z65 z66
  refine (leSplit_same (feedS ⟨sb, sl⟩ ys) _ _ W67 (small_feedS _ _) (unhide F52) (unhide F54)).mono ?_
  rintro e w69 ⟨rfl, b⟩
  have B70 := hide ((unhide B49).trans (b.mono (unhide B49).size))
  clear B49
  have F71 := hide ((unhide F50).up b)
  clear F50
  have F72 := hide ((unhide F51).up b)
  clear F51
  have F73 := hide ((unhide F52).up b)
  clear F52
  have F74 := hide ((unhide F53).up b)
  clear F53
  have F75 := hide ((unhide F54).up b)
  clear F54
  have F76 := hide ((unhide F55).up b)
  clear F55
  have X77 := hide ((unhide X56).up b)
  clear X56
  have X78 := hide ((unhide X57).up b)
  clear X57
  have X79 := hide ((unhide X58).up b)
  clear X58
  clear b
  go_wp2_with fail
  refine (leBodies_same (feedH ⟨sb, sl⟩ ys) _ _ w69 (small_feedH _ _) (unhide F74) (unhide F76)).mono ?_
  rintro e w80 ⟨rfl, b⟩
  have B81 := hide ((unhide B70).trans (b.mono (unhide B70).size))
  clear B70
  have F82 := hide ((unhide F71).up b)
  clear F71
  have F83 := hide ((unhide F72).up b)
  clear F72
  have F84 := hide ((unhide F73).up b)
  clear F73
  have F85 := hide ((unhide F74).up b)
  clear F74
  have F86 := hide ((unhide F75).up b)
  clear F75
  have F87 := hide ((unhide F76).up b)
  clear F76
  have X88 := hide ((unhide X77).up b)
  clear X77
  have X89 := hide ((unhide X78).up b)
  clear X78
  have X90 := hide ((unhide X79).up b)
  clear X79
  clear b
  clear F87
  clear F86 X90
  have HLN := hide (bss_n (unhide F85))
  cases hfb : feedB ⟨sb, sl⟩ ys
  · have hln : ln = 0 := by rw [unhide HLN]; unfold feedH; rw [hfb]; rfl
    subst hln
    clear hfb
    go_wp2_with fail
    go_ret
    exact ⟨rfl, unhide B81⟩
  have HYES := hide hfb
  clear hfb
  have hyn : yn ≤ 5000 := by have := unhide HYL; have := unhide HYN; omega
  go_upto_region 10 with fail
  go_cut [13] (fun s13 wx => (∃ K : Nat, s13 = .int .i64 (K : Int) ∧ K ≤ yn) ∧ wx = w80)
  case first =>
    go_wp2_with fail
    go_meet
    refine ⟨⟨ms.length * 37 % (yn + 1), ?_, by have := Nat.mod_lt (ms.length * 37) (show 0 < yn + 1 by omega); omega⟩, rfl⟩
    go_num
  case rest =>
  obtain ⟨⟨k, rfl, hk⟩, hwc⟩ := hcut
  have hwc2 := hwc.symm
  clear hwc
  subst hwc2
  have HK := hide (show k ≤ ys.length by have := unhide HYN; omega)
  have HTWO := hide (feed_two (unhide HYES) k (unhide HK))
  have hkc : (k : Int) ≤ (yc : Int) := by have := (by_len (unhide F83)).2; omega
  have hky : (k : Int) ≤ (yn : Int) := by omega
  have HSX := hide (small_feedS ⟨sb, sl⟩ (ys.take k))
  obtain ⟨⟨c91, c92⟩, z93, z94⟩ := (unhide X88).pr
  go_upto_region 11 with fail
  go_cut [14, 15, 16] (fun ka kb kc wx => ∃ gx q0 q1 q2 h0 h1 h2 Q, ka = .pointer (some ⟨gx, 0, none⟩) ∧ kb = .slice h0 h1 h2 ∧ kc = .bool (feedB ⟨sb, sl⟩ (ys.take k)) ∧ Hid (BoxF wx gx [.slice q0 q1 q2, .int .i64 (feedS ⟨sb, sl⟩ (ys.take k)).lost]) ∧ Hid (SplitRd wx (.agg #[.slice q0 q1 q2, .int .i64 (feedS ⟨sb, sl⟩ (ys.take k)).lost]) (feedS ⟨sb, sl⟩ (ys.take k))) ∧ Hid (ByteSSOwn Q wx (.slice h0 h1 h2) (feedH ⟨sb, sl⟩ (ys.take k))) ∧ Hid (Below w80.heap.size w80 wx))
  case first =>
    have BD := hide (show Below w80.heap.size w80 w80.drew from (Below.refl _ _).drew)
    have BE := hide (show Below w80.heap.size w80 (w80.alloc (.cells #[.slice none 0 0, .int .i64 0] 35)).drew from ((Below.refl _ _).alloc (Nat.le_refl _) _).drew)
    have NB := hide ((boxF_new2 w80 (.slice none 0 0) (.int .i64 0) 35).up ((Below.refl _ _).drew))
    have KP := hide (show ∀ X : World, Below w80.heap.size w80 X → (fun (X : World) => (X.cell? ⟨g14, 0, none⟩ = some (.slice sa sn sc) ∧ X.cell? ⟨g14, 1, none⟩ = some (.int .i64 sl)) ∧ Hid (Below w80.heap.size w80 X)) X from fun X b => ⟨((unhide X88).up b).pr.1, hide b⟩)
    go_region_held3 (fun (X : World) => (X.cell? ⟨g14, 0, none⟩ = some (.slice sa sn sc) ∧ X.cell? ⟨g14, 1, none⟩ = some (.int .i64 sl)) ∧ Hid (Below w80.heap.size w80 X)) ((first | (refine unhide KP _ ?_; exact unhide (by assumption)) | (refine unhide KP _ ?_; exact (unhide BB3).alloc (unhide BB3).size _) | (refine unhide KP _ ?_; exact (unhide BD).alloc (unhide BD).size _) | (refine unhide KP _ ?_; exact below_s2 (unhide BB3) (by first | exact Nat.le_refl _ | exact (unhide BB3).size) _ _) | (refine unhide KP _ ?_; exact below_s2 ((unhide BB3).alloc (unhide BB3).size _) (by first | exact Nat.le_refl _ | exact (unhide BB3).size) _ _)))
      (first
      | (go_at_call 13; (with_reducible show Calls _ _ _ w80.drew _); refine (implFeed_any ⟨sb, sl⟩ _ (ys.take k) _ _ (unhide HS) (by have := unhide HYL; unfold SmallByteS; simp; omega) ((unhide F82).up (unhide BD)) (by_take ((unhide F83).up (unhide BD)) k (unhide HK))).mono ?_; rintro e w4 ⟨v4, S4, vh4, Q4, rfl, O4, L4, OH4, LH4, _, b4⟩; obtain ⟨q0, q1, q2, rfl⟩ := sp_form (unhide O4).rd; obtain ⟨h0, h1, h2, rfl⟩ := (unhide OH4).rd.form; have BB3 := hide ((unhide BD).trans (b4.mono (unhide BD).size)); have KA := hide (ended_a2 (unhide BB3) (unhide O4).rd (unhide OH4)); clear b4 O4 L4 OH4 LH4 NB)
      | (go_at_call 13; (with_reducible show Calls _ _ _ (w80.alloc _).drew _); refine (implFeed_any ⟨sb, sl⟩ _ (ys.take k) _ _ (unhide HS) (by have := unhide HYL; unfold SmallByteS; simp; omega) ((unhide F82).up (unhide BE)) (by_take ((unhide F83).up (unhide BE)) k (unhide HK))).mono ?_; rintro e w4 ⟨v4, S4, vh4, Q4, rfl, O4, L4, OH4, LH4, _, b4⟩; obtain ⟨q0, q1, q2, rfl⟩ := sp_form (unhide O4).rd; obtain ⟨h0, h1, h2, rfl⟩ := (unhide OH4).rd.form; have NB4 := hide ((unhide NB).up b4); have BB3 := hide ((unhide BE).trans (b4.mono (unhide BE).size)); have KA := hide (ended_b2 (unhide BB3) (unhide NB4) (Nat.le_refl _) (fun k hk => by have := unhide L4 k hk; have := (unhide NB).1.1; omega) (fun k hk => by have := unhide LH4 k hk; have := (unhide NB).1.1; omega) (unhide O4) (unhide OH4)); obtain ⟨⟨nc0, nc1⟩, nf0, nf1⟩ := (unhide NB4).pr; clear b4 O4 L4 OH4 LH4)
      | fail)
    all_goals
      go_wp2_with fail
      go_meet
      exact ⟨_, q0, q1, q2, h0, h1, h2, Q4, rfl, rfl, rfl, hide (unhide KA).1, hide (unhide KA).2.1, hide (unhide KA).2.2.1, hide (unhide KA).2.2.2⟩
  case rest =>
  obtain ⟨g95, rx0, rx1, rx2, hx0, hx1, hx2, Qp, rfl, rfl, rfl, BXx, RXx, OHx, HBC⟩ := hcut
  clear c91 c92 z93 z94
  have bc := unhide HBC
  clear HBC
  generalize wc = w96 at *
  have B97 := hide ((unhide B81).trans (bc.mono (unhide B81).size))
  clear B81
  have F98 := hide ((unhide F82).up bc)
  clear F82
  have F99 := hide ((unhide F83).up bc)
  clear F83
  have F100 := hide ((unhide F84).up bc)
  clear F84
  have F101 := hide ((unhide F85).up bc)
  clear F85
  have X102 := hide ((unhide X88).up bc)
  clear X88
  have X103 := hide ((unhide X89).up bc)
  clear X89
  clear bc
  obtain ⟨⟨c104, c105⟩, z106, z107⟩ := (unhide BXx).pr
  go_upto_region 12 with fail
  go_cut [17, 18, 19] (fun ka kb kc wx => ∃ gx q0 q1 q2 h0 h1 h2 Q, ka = .pointer (some ⟨gx, 0, none⟩) ∧ kb = .slice h0 h1 h2 ∧ kc = .bool (feedB (feedS ⟨sb, sl⟩ (ys.take k)) (ys.drop k)) ∧ Hid (BoxF wx gx [.slice q0 q1 q2, .int .i64 (feedS (feedS ⟨sb, sl⟩ (ys.take k)) (ys.drop k)).lost]) ∧ Hid (SplitRd wx (.agg #[.slice q0 q1 q2, .int .i64 (feedS (feedS ⟨sb, sl⟩ (ys.take k)) (ys.drop k)).lost]) (feedS (feedS ⟨sb, sl⟩ (ys.take k)) (ys.drop k))) ∧ Hid (ByteSSOwn Q wx (.slice h0 h1 h2) (feedH (feedS ⟨sb, sl⟩ (ys.take k)) (ys.drop k))) ∧ Hid (Below w96.heap.size w96 wx))
  case first =>
    have BD := hide (show Below w96.heap.size w96 w96.drew from (Below.refl _ _).drew)
    have BE := hide (show Below w96.heap.size w96 (w96.alloc (.cells #[.slice none 0 0, .int .i64 0] 35)).drew from ((Below.refl _ _).alloc (Nat.le_refl _) _).drew)
    have NB := hide ((boxF_new2 w96 (.slice none 0 0) (.int .i64 0) 35).up ((Below.refl _ _).drew))
    by_cases hck : yc = k
    · have hck2 := hck.symm
      clear hck
      subst hck2
      have KP := hide (show ∀ X : World, Below w96.heap.size w96 X → (fun (X : World) => (X.cell? ⟨g95, 0, none⟩ = some (.slice rx0 rx1 rx2) ∧ X.cell? ⟨g95, 1, none⟩ = some (.int .i64 (feedS ⟨sb, sl⟩ (ys.take k)).lost)) ∧ Hid (Below w96.heap.size w96 X)) X from fun X b => ⟨((unhide BXx).up b).pr.1, hide b⟩)
      go_region_held3 (fun (X : World) => (X.cell? ⟨g95, 0, none⟩ = some (.slice rx0 rx1 rx2) ∧ X.cell? ⟨g95, 1, none⟩ = some (.int .i64 (feedS ⟨sb, sl⟩ (ys.take k)).lost)) ∧ Hid (Below w96.heap.size w96 X)) ((first | (refine unhide KP _ ?_; exact unhide (by assumption)) | (refine unhide KP _ ?_; exact (unhide BB3).alloc (unhide BB3).size _) | (refine unhide KP _ ?_; exact (unhide BD).alloc (unhide BD).size _) | (refine unhide KP _ ?_; exact below_s2 (unhide BB3) (by first | exact Nat.le_refl _ | exact (unhide BB3).size) _ _) | (refine unhide KP _ ?_; exact below_s2 ((unhide BB3).alloc (unhide BB3).size _) (by first | exact Nat.le_refl _ | exact (unhide BB3).size) _ _)))
        (first
        | (go_at_call 13; (with_reducible show Calls _ _ _ w96.drew _); refine (implFeed_any (feedS ⟨sb, sl⟩ (ys.take k)) _ (ys.drop k) _ _ (unhide HSX) (by have := unhide HYL; unfold SmallByteS; simp; omega) ((unhide RXx).up (unhide BD)) (by first | exact by_drop ((unhide F99).up (unhide BD)) k (unhide HK) | simpa [*] using by_drop ((unhide F99).up (unhide BD)) k (unhide HK) | (have q := by_drop ((unhide F99).up (unhide BD)) k (unhide HK); rw [if_pos rfl] at q; simpa using q) | (have q := by_drop ((unhide F99).up (unhide BD)) k (unhide HK); rw [if_neg (by assumption)] at q; exact q))).mono ?_; rintro e w4 ⟨v4, S4, vh4, Q4, rfl, O4, L4, OH4, LH4, _, b4⟩; obtain ⟨q0, q1, q2, rfl⟩ := sp_form (unhide O4).rd; obtain ⟨h0, h1, h2, rfl⟩ := (unhide OH4).rd.form; have BB3 := hide ((unhide BD).trans (b4.mono (unhide BD).size)); have KA := hide (ended_a2 (unhide BB3) (unhide O4).rd (unhide OH4)); clear b4 O4 L4 OH4 LH4 NB)
        | (go_at_call 13; (with_reducible show Calls _ _ _ (w96.alloc _).drew _); refine (implFeed_any (feedS ⟨sb, sl⟩ (ys.take k)) _ (ys.drop k) _ _ (unhide HSX) (by have := unhide HYL; unfold SmallByteS; simp; omega) ((unhide RXx).up (unhide BE)) (by first | exact by_drop ((unhide F99).up (unhide BE)) k (unhide HK) | simpa [*] using by_drop ((unhide F99).up (unhide BE)) k (unhide HK) | (have q := by_drop ((unhide F99).up (unhide BE)) k (unhide HK); rw [if_pos rfl] at q; simpa using q) | (have q := by_drop ((unhide F99).up (unhide BE)) k (unhide HK); rw [if_neg (by assumption)] at q; exact q))).mono ?_; rintro e w4 ⟨v4, S4, vh4, Q4, rfl, O4, L4, OH4, LH4, _, b4⟩; obtain ⟨q0, q1, q2, rfl⟩ := sp_form (unhide O4).rd; obtain ⟨h0, h1, h2, rfl⟩ := (unhide OH4).rd.form; have NB4 := hide ((unhide NB).up b4); have BB3 := hide ((unhide BE).trans (b4.mono (unhide BE).size)); have KA := hide (ended_b2 (unhide BB3) (unhide NB4) (Nat.le_refl _) (fun k hk => by have := unhide L4 k hk; have := (unhide NB).1.1; omega) (fun k hk => by have := unhide LH4 k hk; have := (unhide NB).1.1; omega) (unhide O4) (unhide OH4)); obtain ⟨⟨nc0, nc1⟩, nf0, nf1⟩ := (unhide NB4).pr; clear b4 O4 L4 OH4 LH4)
        | fail)
      all_goals
        go_wp2_with fail
        go_meet
        exact ⟨_, q0, q1, q2, h0, h1, h2, Q4, rfl, rfl, rfl, hide (unhide KA).1, hide (unhide KA).2.1, hide (unhide KA).2.2.1, hide (unhide KA).2.2.2⟩
    · skip
      have KP := hide (show ∀ X : World, Below w96.heap.size w96 X → (fun (X : World) => (X.cell? ⟨g95, 0, none⟩ = some (.slice rx0 rx1 rx2) ∧ X.cell? ⟨g95, 1, none⟩ = some (.int .i64 (feedS ⟨sb, sl⟩ (ys.take k)).lost)) ∧ Hid (Below w96.heap.size w96 X)) X from fun X b => ⟨((unhide BXx).up b).pr.1, hide b⟩)
      go_region_held3 (fun (X : World) => (X.cell? ⟨g95, 0, none⟩ = some (.slice rx0 rx1 rx2) ∧ X.cell? ⟨g95, 1, none⟩ = some (.int .i64 (feedS ⟨sb, sl⟩ (ys.take k)).lost)) ∧ Hid (Below w96.heap.size w96 X)) ((first | (refine unhide KP _ ?_; exact unhide (by assumption)) | (refine unhide KP _ ?_; exact (unhide BB3).alloc (unhide BB3).size _) | (refine unhide KP _ ?_; exact (unhide BD).alloc (unhide BD).size _) | (refine unhide KP _ ?_; exact below_s2 (unhide BB3) (by first | exact Nat.le_refl _ | exact (unhide BB3).size) _ _) | (refine unhide KP _ ?_; exact below_s2 ((unhide BB3).alloc (unhide BB3).size _) (by first | exact Nat.le_refl _ | exact (unhide BB3).size) _ _)))
        (first
        | (go_at_call 13; (with_reducible show Calls _ _ _ w96.drew _); refine (implFeed_any (feedS ⟨sb, sl⟩ (ys.take k)) _ (ys.drop k) _ _ (unhide HSX) (by have := unhide HYL; unfold SmallByteS; simp; omega) ((unhide RXx).up (unhide BD)) (by first | exact by_drop ((unhide F99).up (unhide BD)) k (unhide HK) | simpa [*] using by_drop ((unhide F99).up (unhide BD)) k (unhide HK) | (have q := by_drop ((unhide F99).up (unhide BD)) k (unhide HK); rw [if_pos rfl] at q; simpa using q) | (have q := by_drop ((unhide F99).up (unhide BD)) k (unhide HK); rw [if_neg (by assumption)] at q; exact q))).mono ?_; rintro e w4 ⟨v4, S4, vh4, Q4, rfl, O4, L4, OH4, LH4, _, b4⟩; obtain ⟨q0, q1, q2, rfl⟩ := sp_form (unhide O4).rd; obtain ⟨h0, h1, h2, rfl⟩ := (unhide OH4).rd.form; have BB3 := hide ((unhide BD).trans (b4.mono (unhide BD).size)); have KA := hide (ended_a2 (unhide BB3) (unhide O4).rd (unhide OH4)); clear b4 O4 L4 OH4 LH4 NB)
        | (go_at_call 13; (with_reducible show Calls _ _ _ (w96.alloc _).drew _); refine (implFeed_any (feedS ⟨sb, sl⟩ (ys.take k)) _ (ys.drop k) _ _ (unhide HSX) (by have := unhide HYL; unfold SmallByteS; simp; omega) ((unhide RXx).up (unhide BE)) (by first | exact by_drop ((unhide F99).up (unhide BE)) k (unhide HK) | simpa [*] using by_drop ((unhide F99).up (unhide BE)) k (unhide HK) | (have q := by_drop ((unhide F99).up (unhide BE)) k (unhide HK); rw [if_pos rfl] at q; simpa using q) | (have q := by_drop ((unhide F99).up (unhide BE)) k (unhide HK); rw [if_neg (by assumption)] at q; exact q))).mono ?_; rintro e w4 ⟨v4, S4, vh4, Q4, rfl, O4, L4, OH4, LH4, _, b4⟩; obtain ⟨q0, q1, q2, rfl⟩ := sp_form (unhide O4).rd; obtain ⟨h0, h1, h2, rfl⟩ := (unhide OH4).rd.form; have NB4 := hide ((unhide NB).up b4); have BB3 := hide ((unhide BE).trans (b4.mono (unhide BE).size)); have KA := hide (ended_b2 (unhide BB3) (unhide NB4) (Nat.le_refl _) (fun k hk => by have := unhide L4 k hk; have := (unhide NB).1.1; omega) (fun k hk => by have := unhide LH4 k hk; have := (unhide NB).1.1; omega) (unhide O4) (unhide OH4)); obtain ⟨⟨nc0, nc1⟩, nf0, nf1⟩ := (unhide NB4).pr; clear b4 O4 L4 OH4 LH4)
        | fail)
      all_goals
        go_wp2_with fail
        go_meet
        exact ⟨_, q0, q1, q2, h0, h1, h2, Q4, rfl, rfl, rfl, hide (unhide KA).1, hide (unhide KA).2.1, hide (unhide KA).2.2.1, hide (unhide KA).2.2.2⟩
  case rest =>
  obtain ⟨g108, rz0, rz1, rz2, hz0, hz1, hz2, Qq, rfl, rfl, rfl, BXz, RXz, OHz, HBC⟩ := hcut
  clear c104 c105 z106 z107
  have bc := unhide HBC
  clear HBC
  generalize wc = w109 at *
  have B110 := hide ((unhide B97).trans (bc.mono (unhide B97).size))
  clear B97
  have F111 := hide ((unhide F98).up bc)
  clear F98
  have F112 := hide ((unhide F99).up bc)
  clear F99
  have F113 := hide ((unhide F100).up bc)
  clear F100
  have F114 := hide ((unhide F101).up bc)
  clear F101
  have F115 := hide ((unhide RXx).up bc)
  clear RXx
  have F116 := hide ((unhide OHx).up bc)
  clear OHx
  have X117 := hide ((unhide X102).up bc)
  clear X102
  have X118 := hide ((unhide X103).up bc)
  clear X103
  have X119 := hide ((unhide BXx).up bc)
  clear BXx
  clear bc
  obtain ⟨f1, f2, f3, f4, f5⟩ := unhide HTWO
  have HF3 := hide f3
  have HF4 := hide f4
  have HF5 := hide f5
  rw [f1, f2]
  clear f1 f2 f3 f4 f5 HTWO
  obtain ⟨⟨c120, c121⟩, z122, z123⟩ := (unhide X118).pr
  obtain ⟨⟨c124, c125⟩, z126, z127⟩ := (unhide BXz).pr
  go_wp2_with fail
  clear c120 c121 z122 z123 c124 c125 z126 z127
  have HZT := hide (show SplitRd w109 (.agg #[.slice rz0 rz1 rz2, .int .i64 (feedS (feedS ⟨sb, sl⟩ (ys.take k)) (ys.drop k)).lost]) (feedS ⟨sb, sl⟩ ys) from by have q := (unhide RXz); rw [unhide HF3] at q; rw [unhide HF3]; exact q)
  refine (leSplit_same (feedS ⟨sb, sl⟩ ys) _ _ w109 (small_feedS _ _) (unhide HZT) (unhide F113)).mono ?_
  rintro e w128 ⟨rfl, b⟩
  have B129 := hide ((unhide B110).trans (b.mono (unhide B110).size))
  clear B110
  have F130 := hide ((unhide F111).up b)
  clear F111
  have F131 := hide ((unhide F112).up b)
  clear F112
  have F132 := hide ((unhide F113).up b)
  clear F113
  have F133 := hide ((unhide F114).up b)
  clear F114
  have F134 := hide ((unhide F115).up b)
  clear F115
  have F135 := hide ((unhide F116).up b)
  clear F116
  have F136 := hide ((unhide RXz).up b)
  clear RXz
  have F137 := hide ((unhide OHz).up b)
  clear OHz
  have X138 := hide ((unhide X117).up b)
  clear X117
  have X139 := hide ((unhide X118).up b)
  clear X118
  have X140 := hide ((unhide X119).up b)
  clear X119
  have X141 := hide ((unhide BXz).up b)
  clear BXz
  clear b
  clear HZT
  have A0 := hide ((Below.refl w128.heap.size w128).alloc (Nat.le_refl _) (.cells #[] 22))
  have R0 := hide (bvLit w128 w128.heap.size (Nat.le_refl _))
  have P0 := hide ((unhide F135).up (unhide A0))
  have HL0 := hide (show LenQ [] (feedH ⟨sb, sl⟩ (ys.take k)) from by have := (small_feedH ⟨sb, sl⟩ (ys.take k)).1; unfold LenQ; simp; omega)
  have HL1 := hide (show ∀ us : List Value, us.length = (feedH ⟨sb, sl⟩ (ys.take k)).length → LenQ us (feedH (feedS ⟨sb, sl⟩ (ys.take k)) (ys.drop k)) from fun us hu => by have h1 := (small_feedH ⟨sb, sl⟩ (ys.take k)).1; have h2 := (small_feedH (feedS ⟨sb, sl⟩ (ys.take k)) (ys.drop k)).1; unfold LenQ; omega)
  have HQP := hide (show ∀ k ∈ Qp, k < w128.heap.size from (unhide F135).lt)
  have HQQ := hide (show ∀ k ∈ Qq, k < w128.heap.size from (unhide F137).lt)
  obtain ⟨⟨c142, c143⟩, z144, z145⟩ := (unhide X139).pr
  go_wp2_with (first
    | (at_builtin; have _t := R1; refine wpList_bssSpreadG (by rfl) _ _ rfl w128.heap.size Qq _ _ us1 (feedH (feedS ⟨sb, sl⟩ (ys.take k)) (ys.drop k)) rfl rfl (unhide R1) (unhide Q1) (unhide HL2) (unhide B1).size ?_; intro us2 a2 n2 c2 w2 hn2 r2 g2 q2; have RD2 := hide (show ByteSSRd w2 (.slice a2 n2 c2) (feedH ⟨sb, sl⟩ ys) from by rw [unhide HF4]; exact spread2 (unhide R1) (unhide E1) q2 (unhide HQQ) g2 r2); have B2 := hide ((unhide B1).grown g2 (unhide B1).size (fun y hy => (unhide R1).ge y hy)); clear hn2 r2 g2 q2 R1 E1 Q1)
    | (at_builtin; refine wpList_bssSpreadG (by rfl) _ _ rfl w128.heap.size Qp _ _ [] (feedH ⟨sb, sl⟩ (ys.take k)) rfl rfl (unhide R0) (unhide P0) (unhide HL0) (unhide A0).size ?_; intro us1 a1 n1 c1 w1' hn1 r1 g1 q1; simp only [List.nil_append] at r1; have R1 := hide r1; have B1 := hide ((unhide A0).grown g1 (unhide A0).size (fun y hy => (unhide R0).ge y hy)); have E1 := hide (spread1 (unhide R0) q1 (unhide HQP) g1); have Q1 := hide ((unhide F137).below (unhide B1) (unhide HQQ)); have HL2 := hide (unhide HL1 us1 q1.1); clear hn1 r1 g1 q1)
    | fail)
  clear c142 c143 z144 z145
  have b2 := (unhide B2)
  clear B2 R0 P0 A0
  clear F137
  clear F135
  clear F130
  clear F131
  clear F134
  clear F136
  clear X138
  clear X140
  clear X141
  have B146 := hide ((unhide B129).trans (b2.mono (unhide B129).size))
  clear B129
  have F147 := hide ((unhide F132).up b2)
  clear F132
  have F148 := hide ((unhide F133).up b2)
  clear F133
  have X149 := hide ((unhide X139).up b2)
  clear X139
  clear b2
  refine (leBodies_same (feedH ⟨sb, sl⟩ ys) _ _ w2 (small_feedH _ _) (by first | exact unhide RD2 | exact (unhide RD2)) (unhide F148)).mono ?_
  rintro e w150 ⟨rfl, b⟩
  have B151 := hide ((unhide B146).trans (b.mono (unhide B146).size))
  clear B146
  have F152 := hide ((unhide F147).up b)
  clear F147
  have F153 := hide ((unhide F148).up b)
  clear F148
  have X154 := hide ((unhide X149).up b)
  clear X149
  clear b
  obtain ⟨⟨c155, c156⟩, z157, z158⟩ := (unhide X154).pr
  go_wp2_with fail
  clear c155 c156 z157 z158
  refine (implSplitOk_any (feedS ⟨sb, sl⟩ ys) _ w150 (small_feedS _ _) (unhide F152)).mono ?_
  rintro e w159 ⟨rfl, b⟩
  have B160 := hide ((unhide B151).trans (b.mono (unhide B151).size))
  clear B151
  have F161 := hide ((unhide F152).up b)
  clear F152
  have F162 := hide ((unhide F153).up b)
  clear F153
  have X163 := hide ((unhide X154).up b)
  clear X154
  clear b
  rw [unhide HF5]
  go_wp2_with fail
  go_ret
  exact ⟨rfl, unhide B160⟩
end Go.Proofs.Ytlgmmibncoedgaa
