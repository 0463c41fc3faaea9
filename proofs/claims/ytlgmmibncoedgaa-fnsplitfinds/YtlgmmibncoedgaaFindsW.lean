/-
  The walk of the law: a frame behind other bytes is found. (Made by wip/mkfinds.py.)
-/
import Derived.Test.YtlgmmibncoedgaaMerged30
import Derived.Test.YtlgmmibncoedgaaMerged35
import Derived.Test.YtlgmmibncoedgaaSayBytesJ
import Derived.Test.YtlgmmibncoedgaaLeSay
import Derived.Test.YtlgmmibncoedgaaMerged51
import Derived.Test.YtlgmmibncoedgaaMerged42
import Derived.Handy
import Derived.Deep.RegionHeld3
set_option linter.unusedVariables false
namespace Go.Proofs.Ytlgmmibncoedgaa
open Go.RowKit Go.Maps Go.Deep

theorem boxF_new6 (w : World) (a b c d e f : Value) (T : TypeId) : BoxF (w.alloc (.cells #[a, b, c, d, e, f] T)) w.heap.size [a, b, c, d, e, f] := boxF_new w [a, b, c, d, e, f] T
theorem rd_cell {w : World} {a : Option Addr} {n c : Nat} {bs : List UInt8} (h : ByRd w (.slice a n c) bs) (k : Nat) (hk : k < bs.length) : ∃ b off, a = some ⟨b, off, none⟩ ∧ w.cell? ⟨b, off + k, none⟩ = some (.int .u8 (bs[k].toNat : Int)) := by
  obtain ⟨a', c', e, hin, _⟩ := h
  simp only [Value.slice.injEq] at e
  obtain ⟨rfl, rfl, rfl⟩ := e
  rcases hin with rfl | ⟨b, off, rfl, _, h⟩
  · simp at hk
  · exact ⟨b, off, rfl, h k hk⟩
theorem byLitF (w : World) (x : UInt8) : ByRd (w.alloc (.cells #[.int .u8 (x.toNat : Int)] 5)) (.slice (some ⟨w.heap.size, 0, none⟩) 1 1) [x] := by
  refine ⟨some ⟨w.heap.size, 0, none⟩, 1, rfl, .inr ⟨w.heap.size, 0, rfl, by simp, fun i hi => ?_⟩, by simp⟩
  simp at hi
  subst hi
  rw [World.cell?_alloc_at _ _ _ _ rfl]
  rfl
theorem saysOne {w : World} {a : Option Addr} {n c : Nat} {s : SayV} (h : SaySRd w (.slice a n c) [s]) : ∃ b off v, a = some ⟨b, off, none⟩ ∧ n = 1 ∧ SayCells w b off s v ∧ VerRd w v s.stamp := by
  obtain ⟨a', c', e, h⟩ := h
  simp only [Value.slice.injEq] at e
  obtain ⟨rfl, rfl, rfl⟩ := e
  rcases h with h | ⟨b, off, rfl, _, h⟩
  · simp at h
  · obtain ⟨v, h1, h2⟩ := h 0 (by simp)
    exact ⟨b, off, v, rfl, rfl, by simpa using h1, by simpa using h2⟩
theorem by_lenF {w : World} {a : Option Addr} {n c : Nat} {bs : List UInt8} (h : ByRd w (.slice a n c) bs) : n = bs.length := by
  obtain ⟨a', c', e, _⟩ := h
  simp only [Value.slice.injEq] at e
  exact e.2.1
set_option maxRecDepth 20000 in
set_option maxHeartbeats 12800000 in
theorem finds_walk (a a2 : Option Addr) (cap cap2 : Nat) (bs ms : List UInt8) (w : World) (hl : bs.length ≤ maxLen) (hc : bs.length ≤ cap) (hb : ByIn w a bs) (hl2 : ms.length ≤ maxLen) (hc2 : ms.length ≤ cap2) (hb2 : ByIn w a2 ms) :
    Calls Try.prog 5 #[.slice a bs.length cap, .slice a2 ms.length cap2] w fun e w' => e = .returned (.bool true) ∧ Below w.heap.size w w' := by
  by_cases hbs : (bs.length : Int) ≤ 1048576
  rotate_left
  · unfold maxLen at hl hl2
    go_enter Try.func5, Try.ntmps5
    go_wp2_with fail
    go_ret
    exact ⟨rfl, Below.refl _ _⟩
  by_cases hms : (ms.length : Int) ≤ 1048576
  rotate_left
  · unfold maxLen at hl hl2
    go_enter Try.func5, Try.ntmps5
    go_wp2_with fail
    go_ret
    exact ⟨rfl, Below.refl _ _⟩
  have HD := hide (drawSay_any w a cap bs hl hc hb)
  have RM := hide (show ByRd w (.slice a2 ms.length cap2) ms from ⟨a2, cap2, rfl, hb2, hc2⟩)
  clear hb hc hl hb2 hc2 hl2
  go_enter Try.func5, Try.ntmps5
  go_wp2_with fail
  refine (unhide HD).mono ?_
  rintro e w1 ⟨sk, sf, st, sn, sv, sa, sm, sc, s, rfl, RS, F1, b⟩
  have B2 := hide b
  have F3 := hide ((unhide RM).up b)
  clear RM
  clear b
  have SM := hide (unhide F1).small
  have HV := hide (unhide F1).2.2.2.2.1
  clear HD F1
  have x4 := boxF_new6 w1 (.int .i64 sk) (.int .i64 sf) (.int .i64 st) (.string sn) (.int .i64 sv) (.slice sa sm sc) 26
  have b5 := (Below.refl w1.heap.size w1).alloc (Nat.le_refl _) (.cells #[.int .i64 sk, .int .i64 sf, .int .i64 st, .string sn, .int .i64 sv, .slice sa sm sc] 26)
  have B6 := hide ((unhide B2).trans (b5.mono (unhide B2).size))
  clear B2
  have F7 := hide ((unhide F3).up b5)
  clear F3
  have F8 := hide ((unhide RS).up b5)
  clear RS
  have X9 := hide x4
  clear x4 b5
  obtain ⟨⟨c10, c11, c12, c13, c14, c15⟩, z16, z17, z18, z19, z20, z21⟩ := (unhide X9).six
  go_wp2_with fail
  generalize w1.alloc (.cells #[.int .i64 sk, .int .i64 sf, .int .i64 st, .string sn, .int .i64 sv, .slice sa sm sc] 26) = W22 at *
  generalize w1.heap.size = g23 at *
  clear c10 c11 c12 c13 c14 c15 z16 z17 z18 z19 z20 z21
  refine (implSayBytes_any s _ W22 (unhide SM) (unhide F8)).mono ?_
  rintro e w24 ⟨xa, xn, xc, rfl, hr, b⟩
  have B25 := hide ((unhide B6).trans (b.mono (unhide B6).size))
  clear B6
  have F26 := hide ((unhide F7).up b)
  clear F7
  have F27 := hide ((unhide F8).up b)
  clear F8
  have X28 := hide ((unhide X9).up b)
  clear X9
  clear b
  have F29 := hide (hr.rd)
  clear hr
  obtain ⟨⟨c30, c31, c32, c33, c34, c35⟩, z36, z37, z38, z39, z40, z41⟩ := (unhide X28).six
  go_wp2_with fail
  clear c30 c31 c32 c33 c34 c35 z36 z37 z38 z39 z40 z41
  refine (specSayBytes_any s _ w24 (unhide SM) (unhide F27)).mono ?_
  rintro e w42 ⟨ya, yn, yc, rfl, hr, b⟩
  have B43 := hide ((unhide B25).trans (b.mono (unhide B25).size))
  clear B25
  have F44 := hide ((unhide F26).up b)
  clear F26
  have F45 := hide ((unhide F27).up b)
  clear F27
  have F46 := hide ((unhide F29).up b)
  clear F29
  have X47 := hide ((unhide X28).up b)
  clear X28
  clear b
  have F48 := hide (hr.rd)
  clear hr
  have cvx := conv_back (unhide F46)
  have cvy := conv_back (unhide F48)
  generalize (⟨(sayBytesL s).toArray⟩ : ByteArray) = tx at *
  cases hok : sayOkB s
  · clear hok
    go_wp2_with fail
    go_ret
    exact ⟨rfl, unhide B43⟩
  have HW := hide (show WordOk s from ⟨hok, unhide HV⟩)
  have HXL := hide (show sayBytesL s = sayAll s from sayAll_some hok)
  clear hok
  clear F48
  have RX := hide (show ByRd w42 (.slice xa xn xc) (sayAll s) from unhide HXL ▸ (unhide F46))
  clear F46
  go_wp2_with fail
  clear cvx cvy
  go_loopw [10, 11] (fun jv iv wr => ∃ (k : Nat) (js : List UInt8) (ja : Option Addr) (jn jc : Nat), k ≤ ms.length ∧ k ≤ 40 ∧ iv = .int .i64 (k : Int) ∧ jv = .slice ja jn jc ∧ Hid (ByRow w42.heap.size wr (.slice ja jn jc) js) ∧ Hid (js.length ≤ k) ∧ Hid (∀ x ∈ js, x ≠ 245) ∧ Hid (Below w42.heap.size w42 wr)) (fun _ i _ => 40 - (intOf i).toNat)
  case atStart => exact ⟨0, [], none, 0, 0, Nat.zero_le _, Nat.zero_le _, rfl, rfl, hide (ByRow.nil _ _), hide (by simp), hide (by simp), hide (Below.refl _ _)⟩
  case round =>
    obtain ⟨k, js, ja, jn, jc, hk, hk4, rfl, rfl, HJ, HJL, HJX, HBR⟩ := hrel
    have hbr := unhide HBR
    by_cases hlt : k < ms.length ∧ k < 40
    · obtain ⟨hlt1, hlt2⟩ := hlt
      obtain ⟨mb, mo, hma, hmc⟩ := rd_cell ((unhide F44).up (unhide HBR)) k hlt1
      subst hma
      have HX := hide (show ms[k] ≠ 245 → (ms[k].toNat : Int) ≠ 245 from fun h e => h (UInt8.toNat.inj (by rw [show ms[k].toNat = 245 by omega]; rfl)))
      by_cases hx : ms[k] = 245
      · rw [hx] at hmc
        have hmc2 : wr.cell? ⟨mb, mo + k, none⟩ = some (.int .u8 245) := hmc
        clear hmc hx hbr
        go_wp2_with fail
        go_roundw
        case rel => exact ⟨k + 1, js, ja, jn, jc, by omega, by omega, by go_num, rfl, HJ, hide (by have := unhide HJL; omega), HJX, HBR⟩
        case measure => simp [intOf]; omega
      · have hne := unhide HX hx
        have hx0 : (0 : Int) ≤ (ms[k].toNat : Int) := by omega
        have hx1 : (ms[k].toNat : Int) ≤ 255 := by have := ms[k].toNat_lt; omega
        have RL := hide (byLitF wr ms[k])
        have A1 := hide ((Below.refl wr.heap.size wr).alloc (Nat.le_refl _) (.cells #[.int .u8 (ms[k].toNat : Int)] 5))
        have HJ1 := hide ((unhide HJ).up (unhide A1))
        have HXS := hide (show ∀ x ∈ js ++ [ms[k]], x ≠ 245 from fun x hx' => by
          rcases List.mem_append.1 hx' with h | h
          · exact unhide HJX x h
          · simp at h; rw [h]; exact hx)
        have HQ := hide (show js.length + [ms[k]].length ≤ 140737488355328 by have := unhide HJL; simp; omega)
        have hbz := (unhide HBR).size
        have HZ := hide (show w42.heap.size ≤ (wr.alloc (.cells #[.int .u8 (ms[k].toNat : Int)] 5)).heap.size by simp; omega)
        have hnb : ((ms[k].toNat : Int) != 245) = true := by simpa using hne
        clear hx hne hbr hbz
        generalize hmk : ms[k] = mk at *
        clear hmk
        generalize (mk.toNat : Int) = mz at *
        go_wp2_with (first
          | (at_builtin; refine wpList_byAppend rfl _ _ rfl w42.heap.size _ _ js [mk] rfl rfl (unhide HJ1) (unhide RL) (unhide HQ) (unhide HZ) ?_; intro a5 c5 w5 r5 g5 _; have R5 := hide r5; have B5 := hide (((unhide HBR).trans ((unhide A1).mono (unhide HBR).size)).grown g5 (unhide HZ) (fun y hy => (unhide HJ1).ge y hy)); obtain ⟨n5, HN5⟩ : ∃ n5, Hid (js.length + [mk].length = n5) := ⟨_, hide rfl⟩; rw [unhide HN5] at R5; rw [unhide HN5]; clear r5 g5)
          | fail)
        go_roundw
        case rel => exact ⟨k + 1, _, a5, n5, c5, by omega, by omega, by go_num, rfl, R5, hide (by have := unhide HJL; simp; omega), HXS, B5⟩
        case measure => simp [intOf]; omega
    · have HJN := hide (by_lenF (unhide HJ).rd)
      have HFI := hide (finds (unhide HW) (unhide HJX) (by have := unhide HJL; omega))
      have HJ40 := hide (show js.length ≤ 40 by have := unhide HJL; omega)
      clear F44
      have B49 := hide ((unhide B43).trans (hbr.mono (unhide B43).size))
      clear B43
      have F50 := hide ((unhide F45).up hbr)
      clear F45
      have F51 := hide ((unhide RX).up hbr)
      clear RX
      have X52 := hide ((unhide X47).up hbr)
      clear X47
      clear hbr HBR
      have F53 := hide ((unhide HJ).rd)
      clear HJ HJX HJL
      by_cases hm : (k : Int) < (ms.length : Int)
      · have hm4 : ¬ (k : Int) < 40 := by omega
        clear hlt
        go_wp2_with fail
        refine (implFrame_any (sayAll s) _ wr (by have := (word_len (unhide HW)).2; omega) (unhide F51)).mono ?_
        rintro e w54 ⟨vf, Sf, rfl, Of, _, b⟩
        obtain ⟨fa, fn, fc, rfl⟩ := (unhide Of).rd.form
        have B55 := hide ((unhide B49).trans (b.mono (unhide B49).size))
        clear B49
        have F56 := hide ((unhide F50).up b)
        clear F50
        have F57 := hide ((unhide F51).up b)
        clear F51
        have F58 := hide ((unhide F53).up b)
        clear F53
        have X59 := hide ((unhide X52).up b)
        clear X52
        clear b
        have F60 := hide ((unhide Of).rd)
        clear Of
        have A0 := hide ((Below.refl w54.heap.size w54).alloc (Nat.le_refl _) (.cells #[] 5))
        have R0 := hide (byLit w54 w54.heap.size (Nat.le_refl _))
        have J0 := hide ((unhide F58).up (unhide A0))
        have F0 := hide ((unhide F60).up (unhide A0))
        have HQ1 := hide (show ([] : List UInt8).length + js.length ≤ 140737488355328 by have := unhide HJ40; simp; omega)
        have HQ2 := hide (show js.length + (frameL (sayAll s)).length ≤ 140737488355328 by have := (unhide HFI).2.2; rw [List.length_append] at this; omega)
        generalize frameFitB (sayAll s) = fit at *
        go_wp2_with (first
          | (at_builtin; have _t := R4; refine wpList_byAppend rfl _ _ rfl w54.heap.size _ _ js (frameL (sayAll s)) rfl rfl (unhide R4) (unhide U4) (unhide HQ2) (unhide B4).size ?_; intro a5 c5 w5 r5 g5 _; have R5 := hide r5.rd; have B5 := hide ((unhide B4).grown g5 (unhide B4).size (fun y hy => (unhide R4).ge y hy)); obtain ⟨n5, HN5⟩ : ∃ n5, Hid (js.length + (frameL (sayAll s)).length = n5) := ⟨_, hide rfl⟩; rw [unhide HN5] at R5; rw [unhide HN5]; clear r5 g5 R4 B4)
          | (at_builtin; refine wpList_byAppend rfl _ _ rfl w54.heap.size _ _ [] js rfl rfl (unhide R0) (unhide J0) (unhide HQ1) (unhide A0).size ?_; intro a4 c4 w4 r4 g4 _; simp only [List.nil_append] at r4; have B4 := hide ((unhide A0).grown g4 (unhide A0).size (fun y hy => (unhide R0).ge y hy)); obtain ⟨n4, HN4⟩ : ∃ n4, Hid (([] : List UInt8).length + js.length = n4) := ⟨_, hide rfl⟩; rw [unhide HN4] at r4; rw [unhide HN4]; have R4 := hide r4; have U4 := hide ((unhide F60).up (unhide B4)); clear r4 g4)
          | fail)
        have b5 := unhide B5
        clear B5 A0 R0 J0 F0
        clear F57
        clear F58
        clear F60
        have B61 := hide ((unhide B55).trans (b5.mono (unhide B55).size))
        clear B55
        have F62 := hide ((unhide F56).up b5)
        clear F56
        have X63 := hide ((unhide X59).up b5)
        clear X59
        clear b5
        refine (implSays_any (js ++ frameL (sayAll s)) _ w5 (by have := (unhide HFI).2.2; unfold SmallByteS; omega) (by first | exact unhide R5 | exact (unhide R5))).mono ?_
        rintro e w64 ⟨vg, Sg, rfl, Og, _, b⟩
        have B65 := hide ((unhide B61).trans (b.mono (unhide B61).size))
        clear B61
        have F66 := hide ((unhide F62).up b)
        clear F62
        have X67 := hide ((unhide X63).up b)
        clear X63
        clear b
        rw [(unhide HFI).2.1]
        have OG := unhide Og
        rw [(unhide HFI).1] at OG
        obtain ⟨ga, gn, gc, rfl⟩ := OG.rd.form
        obtain ⟨gb, go, gv, rfl, rfl, hc6, hv6⟩ := saysOne OG.rd
        have RG := hide (show SayRd w64 (.agg #[.int .i64 s.kind, .int .i64 s.src, .int .i64 s.dst, .string s.name, .int .i64 s.val, gv]) s from ⟨_, rfl, hv6⟩)
        obtain ⟨gva, gvc, rfl⟩ := hv6.len
        have HC6 := hide hc6
        clear OG Og hc6 hv6 R5
        have hgl : gb < w64.heap.size := lt_of_cell0 (unhide HC6).c0
        have hjn : jn = js.length := unhide HJN
        subst hjn
        have KP := hide (show ∀ X : World, Below w64.heap.size w64 X → (fun (X : World) => (X.cell? ⟨gb, go, none⟩ = some (.int .i64 s.kind) ∧ X.cell? ⟨gb, go + 1, none⟩ = some (.int .i64 s.src) ∧ X.cell? ⟨gb, go + 2, none⟩ = some (.int .i64 s.dst) ∧ X.cell? ⟨gb, go + 3, none⟩ = some (.string s.name) ∧ X.cell? ⟨gb, go + 4, none⟩ = some (.int .i64 s.val) ∧ X.cell? ⟨gb, go + 5, none⟩ = some (.slice gva s.stamp.length gvc)) ∧ (X.cell? ⟨g23, 0, none⟩ = some (.int .i64 sk) ∧ X.cell? ⟨g23, 1, none⟩ = some (.int .i64 sf) ∧ X.cell? ⟨g23, 2, none⟩ = some (.int .i64 st) ∧ X.cell? ⟨g23, 3, none⟩ = some (.string sn) ∧ X.cell? ⟨g23, 4, none⟩ = some (.int .i64 sv) ∧ X.cell? ⟨g23, 5, none⟩ = some (.slice sa sm sc)) ∧ Hid (Below w64.heap.size w64 X)) X from fun X b => by have q := (unhide HC6).of (w' := X) (fun i => b.cell (by exact hgl)); exact ⟨⟨q.c0, q.c1, q.c2, q.c3, q.c4, q.c5⟩, ((unhide X67).up b).six.1, hide b⟩)
        have BD := hide (show Below w64.heap.size w64 w64.drew from (Below.refl _ _).drew)
        obtain ⟨⟨k0, k1, k2, k3, k4, k5⟩, ⟨l0, l1, l2, l3, l4, l5⟩, -⟩ := unhide KP w64 (Below.refl _ _)
        go_wp2_with fail
        go_region_held3 (fun (X : World) => (X.cell? ⟨gb, go, none⟩ = some (.int .i64 s.kind) ∧ X.cell? ⟨gb, go + 1, none⟩ = some (.int .i64 s.src) ∧ X.cell? ⟨gb, go + 2, none⟩ = some (.int .i64 s.dst) ∧ X.cell? ⟨gb, go + 3, none⟩ = some (.string s.name) ∧ X.cell? ⟨gb, go + 4, none⟩ = some (.int .i64 s.val) ∧ X.cell? ⟨gb, go + 5, none⟩ = some (.slice gva s.stamp.length gvc)) ∧ (X.cell? ⟨g23, 0, none⟩ = some (.int .i64 sk) ∧ X.cell? ⟨g23, 1, none⟩ = some (.int .i64 sf) ∧ X.cell? ⟨g23, 2, none⟩ = some (.int .i64 st) ∧ X.cell? ⟨g23, 3, none⟩ = some (.string sn) ∧ X.cell? ⟨g23, 4, none⟩ = some (.int .i64 sv) ∧ X.cell? ⟨g23, 5, none⟩ = some (.slice sa sm sc)) ∧ Hid (Below w64.heap.size w64 X)) ((first | (refine unhide KP _ ?_; exact unhide (by assumption))))
          (first | (go_at_call 15; refine (leSay_same s _ _ _ (by have := (unhide SM).1.2.1; omega) ((unhide RG).up (unhide BD)) ((unhide F66).up (unhide BD))).mono ?_; rintro e w9 ⟨rfl, b9⟩; have BB9 := hide ((unhide BD).trans (b9.mono (unhide BD).size)); clear b9) | fail)
        all_goals
          go_wp2_with fail
          go_ret
          exact ⟨by simp, (unhide B65).trans ((unhide BB9).mono (unhide B65).size)⟩
      · clear hlt
        go_wp2_with fail
        refine (implFrame_any (sayAll s) _ wr (by have := (word_len (unhide HW)).2; omega) (unhide F51)).mono ?_
        rintro e w68 ⟨vf, Sf, rfl, Of, _, b⟩
        obtain ⟨fa, fn, fc, rfl⟩ := (unhide Of).rd.form
        have B69 := hide ((unhide B49).trans (b.mono (unhide B49).size))
        clear B49
        have F70 := hide ((unhide F50).up b)
        clear F50
        have F71 := hide ((unhide F51).up b)
        clear F51
        have F72 := hide ((unhide F53).up b)
        clear F53
        have X73 := hide ((unhide X52).up b)
        clear X52
        clear b
        have F74 := hide ((unhide Of).rd)
        clear Of
        have A0 := hide ((Below.refl w68.heap.size w68).alloc (Nat.le_refl _) (.cells #[] 5))
        have R0 := hide (byLit w68 w68.heap.size (Nat.le_refl _))
        have J0 := hide ((unhide F72).up (unhide A0))
        have F0 := hide ((unhide F74).up (unhide A0))
        have HQ1 := hide (show ([] : List UInt8).length + js.length ≤ 140737488355328 by have := unhide HJ40; simp; omega)
        have HQ2 := hide (show js.length + (frameL (sayAll s)).length ≤ 140737488355328 by have := (unhide HFI).2.2; rw [List.length_append] at this; omega)
        generalize frameFitB (sayAll s) = fit at *
        go_wp2_with (first
          | (at_builtin; have _t := R4; refine wpList_byAppend rfl _ _ rfl w68.heap.size _ _ js (frameL (sayAll s)) rfl rfl (unhide R4) (unhide U4) (unhide HQ2) (unhide B4).size ?_; intro a5 c5 w5 r5 g5 _; have R5 := hide r5.rd; have B5 := hide ((unhide B4).grown g5 (unhide B4).size (fun y hy => (unhide R4).ge y hy)); obtain ⟨n5, HN5⟩ : ∃ n5, Hid (js.length + (frameL (sayAll s)).length = n5) := ⟨_, hide rfl⟩; rw [unhide HN5] at R5; rw [unhide HN5]; clear r5 g5 R4 B4)
          | (at_builtin; refine wpList_byAppend rfl _ _ rfl w68.heap.size _ _ [] js rfl rfl (unhide R0) (unhide J0) (unhide HQ1) (unhide A0).size ?_; intro a4 c4 w4 r4 g4 _; simp only [List.nil_append] at r4; have B4 := hide ((unhide A0).grown g4 (unhide A0).size (fun y hy => (unhide R0).ge y hy)); obtain ⟨n4, HN4⟩ : ∃ n4, Hid (([] : List UInt8).length + js.length = n4) := ⟨_, hide rfl⟩; rw [unhide HN4] at r4; rw [unhide HN4]; have R4 := hide r4; have U4 := hide ((unhide F74).up (unhide B4)); clear r4 g4)
          | fail)
        have b5 := unhide B5
        clear B5 A0 R0 J0 F0
        clear F71
        clear F72
        clear F74
        have B75 := hide ((unhide B69).trans (b5.mono (unhide B69).size))
        clear B69
        have F76 := hide ((unhide F70).up b5)
        clear F70
        have X77 := hide ((unhide X73).up b5)
        clear X73
        clear b5
        refine (implSays_any (js ++ frameL (sayAll s)) _ w5 (by have := (unhide HFI).2.2; unfold SmallByteS; omega) (by first | exact unhide R5 | exact (unhide R5))).mono ?_
        rintro e w78 ⟨vg, Sg, rfl, Og, _, b⟩
        have B79 := hide ((unhide B75).trans (b.mono (unhide B75).size))
        clear B75
        have F80 := hide ((unhide F76).up b)
        clear F76
        have X81 := hide ((unhide X77).up b)
        clear X77
        clear b
        rw [(unhide HFI).2.1]
        have OG := unhide Og
        rw [(unhide HFI).1] at OG
        obtain ⟨ga, gn, gc, rfl⟩ := OG.rd.form
        obtain ⟨gb, go, gv, rfl, rfl, hc6, hv6⟩ := saysOne OG.rd
        have RG := hide (show SayRd w78 (.agg #[.int .i64 s.kind, .int .i64 s.src, .int .i64 s.dst, .string s.name, .int .i64 s.val, gv]) s from ⟨_, rfl, hv6⟩)
        obtain ⟨gva, gvc, rfl⟩ := hv6.len
        have HC6 := hide hc6
        clear OG Og hc6 hv6 R5
        have hgl : gb < w78.heap.size := lt_of_cell0 (unhide HC6).c0
        have hjn : jn = js.length := unhide HJN
        subst hjn
        have KP := hide (show ∀ X : World, Below w78.heap.size w78 X → (fun (X : World) => (X.cell? ⟨gb, go, none⟩ = some (.int .i64 s.kind) ∧ X.cell? ⟨gb, go + 1, none⟩ = some (.int .i64 s.src) ∧ X.cell? ⟨gb, go + 2, none⟩ = some (.int .i64 s.dst) ∧ X.cell? ⟨gb, go + 3, none⟩ = some (.string s.name) ∧ X.cell? ⟨gb, go + 4, none⟩ = some (.int .i64 s.val) ∧ X.cell? ⟨gb, go + 5, none⟩ = some (.slice gva s.stamp.length gvc)) ∧ (X.cell? ⟨g23, 0, none⟩ = some (.int .i64 sk) ∧ X.cell? ⟨g23, 1, none⟩ = some (.int .i64 sf) ∧ X.cell? ⟨g23, 2, none⟩ = some (.int .i64 st) ∧ X.cell? ⟨g23, 3, none⟩ = some (.string sn) ∧ X.cell? ⟨g23, 4, none⟩ = some (.int .i64 sv) ∧ X.cell? ⟨g23, 5, none⟩ = some (.slice sa sm sc)) ∧ Hid (Below w78.heap.size w78 X)) X from fun X b => by have q := (unhide HC6).of (w' := X) (fun i => b.cell (by exact hgl)); exact ⟨⟨q.c0, q.c1, q.c2, q.c3, q.c4, q.c5⟩, ((unhide X81).up b).six.1, hide b⟩)
        have BD := hide (show Below w78.heap.size w78 w78.drew from (Below.refl _ _).drew)
        obtain ⟨⟨k0, k1, k2, k3, k4, k5⟩, ⟨l0, l1, l2, l3, l4, l5⟩, -⟩ := unhide KP w78 (Below.refl _ _)
        go_wp2_with fail
        go_region_held3 (fun (X : World) => (X.cell? ⟨gb, go, none⟩ = some (.int .i64 s.kind) ∧ X.cell? ⟨gb, go + 1, none⟩ = some (.int .i64 s.src) ∧ X.cell? ⟨gb, go + 2, none⟩ = some (.int .i64 s.dst) ∧ X.cell? ⟨gb, go + 3, none⟩ = some (.string s.name) ∧ X.cell? ⟨gb, go + 4, none⟩ = some (.int .i64 s.val) ∧ X.cell? ⟨gb, go + 5, none⟩ = some (.slice gva s.stamp.length gvc)) ∧ (X.cell? ⟨g23, 0, none⟩ = some (.int .i64 sk) ∧ X.cell? ⟨g23, 1, none⟩ = some (.int .i64 sf) ∧ X.cell? ⟨g23, 2, none⟩ = some (.int .i64 st) ∧ X.cell? ⟨g23, 3, none⟩ = some (.string sn) ∧ X.cell? ⟨g23, 4, none⟩ = some (.int .i64 sv) ∧ X.cell? ⟨g23, 5, none⟩ = some (.slice sa sm sc)) ∧ Hid (Below w78.heap.size w78 X)) ((first | (refine unhide KP _ ?_; exact unhide (by assumption))))
          (first | (go_at_call 15; refine (leSay_same s _ _ _ (by have := (unhide SM).1.2.1; omega) ((unhide RG).up (unhide BD)) ((unhide F80).up (unhide BD))).mono ?_; rintro e w9 ⟨rfl, b9⟩; have BB9 := hide ((unhide BD).trans (b9.mono (unhide BD).size)); clear b9) | fail)
        all_goals
          go_wp2_with fail
          go_ret
          exact ⟨by simp, (unhide B79).trans ((unhide BB9).mono (unhide B79).size)⟩
end Go.Proofs.Ytlgmmibncoedgaa
