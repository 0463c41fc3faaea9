/-
  The program's SayRead. (Made by wip/mkreadi.py.)
-/
import Derived.Test.YtiebfcefmdiajaaGreatDoorSayCatch
import Derived.Test.YtiebfcefmdiajaaGreatDoorSayOkI
import Derived.Test.YtiebfcefmdiajaaGreatDoorMerged7
set_option linter.unusedVariables false
namespace Go.Proofs.YtiebfcefmdiajaaGreatDoor
open Go.RowKit Go.Maps Go.Deep

def RetRdI (bs : List UInt8) (w : World) (e : Ending) (w' : World) : Prop := ∃ v S, e = .returned (.tuple #[v, .bool (sayRd bs).isSome]) ∧ Hid (SayOwn S w' v ((sayRd bs).getD noSay)) ∧ Hid (∀ k ∈ S, w.heap.size ≤ k) ∧ Below w.heap.size w w'
theorem ret_noI {bs : List UInt8} {w W : World} (h : sayRd bs = none) (b : Below w.heap.size w W) : RetRdI bs w (.returned (.tuple #[.agg #[.int .i64 0, .int .i64 0, .int .i64 0, .string ⟨#[]⟩, .int .i64 0, .slice none 0 0], .bool false])) W :=
  ⟨_, [], by rw [h]; rfl, hide (by rw [h]; exact ⟨_, rfl, .inl ⟨rfl, rfl, none, 0, rfl⟩⟩), hide (by simp), b⟩
theorem rd_newW {w W : World} {v : Value} {bs : List UInt8} {g : Nat} (h : ByRd w v bs) (b : Below w.heap.size w W) (hg : w.heap.size ≤ g) (hb : BoxF W g [v, .bool false]) : RdIs w.heap.size W g v bs false :=
  ⟨hg, hb.1.1, hb.1.2 0 _ rfl, hb.1.2 1 _ rfl, hb.2 0 (by simp), hb.2 1 (by simp), h.up b, fun a m c e h1 => by
    obtain ⟨a', c', e', hin, _⟩ := h
    rw [e'] at e
    simp only [Value.slice.injEq] at e
    rcases hin with h0 | ⟨b, off, e2, hb, _⟩
    · rw [h0] at h1; simp at h1
    · have e3 := e.1.symm.trans e2
      simp only [Option.some.injEq] at e3
      rw [e3]
      exact hb⟩
theorem by_cutW {w : World} {a : Option Addr} {n c : Nat} {bs : List UInt8} (h : ByRd w (.slice a n c) bs) {k : Nat} (hk : k ≤ bs.length) : ByRd w (.slice a k c) (bs.take k) := by
  obtain ⟨a', c', e, h1, h2⟩ := h
  simp only [Value.slice.injEq] at e
  obtain ⟨rfl, rfl, rfl⟩ := e
  exact cut_take h1 h2 k hk
theorem bare_take (p q : Value) (w : World) : Calls Tryz.prog 151 #[.agg #[], p, q] w fun e w' => e = .returned (.tuple #[]) ∧ Below w.heap.size w w' := by
  go_enter Tryz.func151, Tryz.ntmps151
  go_wp2
  go_end0
  exact ⟨rfl, by go_grown⟩
theorem boxes3W (w : World) (A B C : List Value) (TA TB TC : TypeId) :
    BoxF (((w.alloc (.cells A.toArray TA)).alloc (.cells B.toArray TB)).alloc (.cells C.toArray TC)) w.heap.size A ∧ BoxF (((w.alloc (.cells A.toArray TA)).alloc (.cells B.toArray TB)).alloc (.cells C.toArray TC)) (w.heap.size + 1) B ∧ BoxF (((w.alloc (.cells A.toArray TA)).alloc (.cells B.toArray TB)).alloc (.cells C.toArray TC)) (w.heap.size + 2) C ∧ Below w.heap.size w (((w.alloc (.cells A.toArray TA)).alloc (.cells B.toArray TB)).alloc (.cells C.toArray TC)) := by
  have a1 := boxF_new w A TA
  have b1 := (Below.refl w.heap.size w).alloc (Nat.le_refl _) (.cells A.toArray TA)
  have z1 : (w.alloc (.cells A.toArray TA)).heap.size = w.heap.size + 1 := by simp
  generalize w.alloc (.cells A.toArray TA) = w1 at *
  have a2 := boxF_new w1 B TB
  have u2 := (Below.refl w1.heap.size w1).alloc (Nat.le_refl _) (.cells B.toArray TB)
  have z2 : (w1.alloc (.cells B.toArray TB)).heap.size = w1.heap.size + 1 := by simp
  generalize w1.alloc (.cells B.toArray TB) = w2 at *
  have a3 := boxF_new w2 C TC
  have u3 := (Below.refl w2.heap.size w2).alloc (Nat.le_refl _) (.cells C.toArray TC)
  generalize w2.alloc (.cells C.toArray TC) = w3 at *
  refine ⟨(a1.up u2).up u3, ?_, ?_, (b1.trans (u2.mono (by omega))).trans (u3.mono (by omega))⟩
  · rw [← z1]; exact a2.up u3
  · rw [show w.heap.size + 2 = w2.heap.size by omega]; exact a3
set_option maxRecDepth 20000 in
set_option maxHeartbeats 12800000 in
theorem readWord_any (bs : List UInt8) (v : Value) (w : World) (hl : bs.length ≤ 260) (h : ByRd w v bs) : Calls Tryz.prog 40 #[v] w fun e w' => RetRdI bs w e w' := by
  obtain ⟨a, cc, rfl⟩ := h.len
  have HBY := hide h
  have hcc : bs.length ≤ cc := by obtain ⟨a', c', e, _, hc⟩ := h; simp only [Value.slice.injEq] at e; omega
  have hmf : ∀ (fn : Fn) (first cap : Array Value) (w : World), (Instr.makeFunc fn first cap).run Tryz.prog w = .ok (.func fn first cap) w := fun _ _ _ _ => rfl
  obtain ⟨x0, y0, d0, b0⟩ := boxes3W w [.int .i64 0, .int .i64 0, .int .i64 0, .string ⟨#[]⟩, .int .i64 0, .slice none 0 0] [.bool false] [.slice a bs.length cc, .bool false] 24 4 104
  have D0 := hide (rd_newW h b0 (by omega) d0)
  have X0 := hide x0
  have Y0 := hide y0
  have B0 := hide b0
  have L0 := hide (show bs.length ≤ 1048576 by omega)
  clear x0 y0 d0 b0 h
  go_enter_defers Tryz.func40, Tryz.ntmps40
  go_wp2_with fail
  simp only [List.toArray] at D0 X0 Y0 B0
  generalize ((w.alloc (.cells #[.int .i64 0, .int .i64 0, .int .i64 0, .string ⟨#[]⟩, .int .i64 0, .slice none 0 0] 24)).alloc (.cells #[.bool false] 4)).alloc (.cells #[.slice a bs.length cc, .bool false] 104) = W0 at *
  refine (wnum_any w.heap.size (w.heap.size + 2) W0 (.slice a bs.length cc) bs 1 (by omega) (unhide L0) (unhide D0)).mono ?_
  rintro e w1 (⟨xk, r2, v3, h4, rfl, RD5, T6⟩ | ⟨h4, rfl, T6⟩)
  rotate_left
  · have XG := hide ((unhide X0).turn (unhide T6) (by simp <;> omega))
    have YG := hide ((unhide Y0).turn (unhide T6) (by simp <;> omega))
    have BG := hide ((unhide B0).trans ((unhide T6).below (unhide B0).size (by simp <;> omega)))
    have HNO := hide (show sayRd bs = none from sayRd_none (by unfold rdSay; rw [h4]; rfl))
    refine leaves_cons (f := 60) (args := #[.pointer (some ⟨w.heap.size, 0, none⟩), .pointer (some ⟨w.heap.size + 1, 0, none⟩)]) (by simp) (by simp [go_sem]) ?_
    refine (word_short w.heap.size (w.heap.size + 1) _ w1 ⟨_, _, _, _, _, _, unhide XG⟩ (unhide YG) (by omega)).mono ?_
    rintro e u' w'' ⟨rfl, rfl, PP⟩
    obtain ⟨pa, pb, pc⟩ := unhide PP
    have HP := hide (ret_noI (unhide HNO) ((unhide BG).trans (pc.below (unhide BG).size (by simp <;> omega))))
    obtain ⟨⟨y0, y1, y2, y3, y4, y5⟩, -⟩ := pa.sixW
    obtain ⟨z0, -⟩ := pb.oneW
    clear pa pb pc PP
    simp [Leaves, settle, results, Tryz.results40, go_sem, y0, y1, y2, y3, y4, y5, z0]
    exact unhide HP
  have X8 := hide ((unhide X0).turn (unhide T6) (by simp <;> omega))
  have Y9 := hide ((unhide Y0).turn (unhide T6) (by simp <;> omega))
  have B10 := hide ((unhide B0).trans ((unhide T6).below (unhide B0).size (by simp <;> omega)))
  clear X0 Y0 B0
  have L11 := hide (show r2.length ≤ 1048576 by have := (rdN_some h4).2.2; have := unhide L0; rw [‹r2 = _›]; simp; omega)
  have Hh4 := hide h4
  clear h4 T6 D0 L0
  obtain ⟨⟨c12, c13, c14, c15, c16, c17⟩, f18, f19, f20, f21, f22, f23⟩ := (unhide X8).sixW
  obtain ⟨c24, f25⟩ := (unhide Y9).oneW
  have c26 := (unhide RD5).c0
  have c27 := (unhide RD5).c1
  go_wp2_with fail
  clear c12 c13 c14 c15 c16 c17 f18 f19 f20 f21 f22 f23 c24 f25 c26 c27
  have T28 := (Turn.refl [w.heap.size] w1).setCell (g := w.heap.size) (by simp) 0 (.int .i64 xk)
  have X30 := hide ((unhide X8).set 0 (.int .i64 xk) (by simp))
  simp only [List.set] at X30
  clear X8
  have Y31 := hide ((unhide Y9).turn T28 (by simp <;> omega))
  have RD32 := hide ((unhide RD5).turn T28 (by simp <;> omega) (by simp <;> omega))
  have B33 := hide ((unhide B10).trans (T28.below (unhide B10).size (by simp <;> omega)))
  clear Y9 RD5 B10
  clear T28
  generalize w1.setCell ⟨w.heap.size, 0, none⟩ (.int .i64 xk) = W29 at *
  refine (wnum_any w.heap.size (w.heap.size + 2) W29 v3 r2 1 (by omega) (unhide L11) (unhide RD32)).mono ?_
  rintro e w34 (⟨xf, r35, v36, h37, rfl, RD38, T39⟩ | ⟨h37, rfl, T39⟩)
  rotate_left
  · have XG := hide ((unhide X30).turn (unhide T39) (by simp <;> omega))
    have YG := hide ((unhide Y31).turn (unhide T39) (by simp <;> omega))
    have BG := hide ((unhide B33).trans ((unhide T39).below (unhide B33).size (by simp <;> omega)))
    have HNO := hide (show sayRd bs = none from sayRd_none (by unfold rdSay; rw [unhide Hh4]; simp only [Option.bind_some]; rw [h37]; rfl))
    refine leaves_cons (f := 60) (args := #[.pointer (some ⟨w.heap.size, 0, none⟩), .pointer (some ⟨w.heap.size + 1, 0, none⟩)]) (by simp) (by simp [go_sem]) ?_
    refine (word_short w.heap.size (w.heap.size + 1) _ w34 ⟨_, _, _, _, _, _, unhide XG⟩ (unhide YG) (by omega)).mono ?_
    rintro e u' w'' ⟨rfl, rfl, PP⟩
    obtain ⟨pa, pb, pc⟩ := unhide PP
    have HP := hide (ret_noI (unhide HNO) ((unhide BG).trans (pc.below (unhide BG).size (by simp <;> omega))))
    obtain ⟨⟨y0, y1, y2, y3, y4, y5⟩, -⟩ := pa.sixW
    obtain ⟨z0, -⟩ := pb.oneW
    clear pa pb pc PP
    simp [Leaves, settle, results, Tryz.results40, go_sem, y0, y1, y2, y3, y4, y5, z0]
    exact unhide HP
  have X41 := hide ((unhide X30).turn (unhide T39) (by simp <;> omega))
  have Y42 := hide ((unhide Y31).turn (unhide T39) (by simp <;> omega))
  have B43 := hide ((unhide B33).trans ((unhide T39).below (unhide B33).size (by simp <;> omega)))
  clear X30 Y31 B33
  have L44 := hide (show r35.length ≤ 1048576 by have := (rdN_some h37).2.2; have := unhide L11; rw [‹r35 = _›]; simp; omega)
  have Hh37 := hide h37
  clear h37 T39 RD32 L11
  obtain ⟨⟨c45, c46, c47, c48, c49, c50⟩, f51, f52, f53, f54, f55, f56⟩ := (unhide X41).sixW
  obtain ⟨c57, f58⟩ := (unhide Y42).oneW
  have c59 := (unhide RD38).c0
  have c60 := (unhide RD38).c1
  go_wp2_with fail
  clear c45 c46 c47 c48 c49 c50 f51 f52 f53 f54 f55 f56 c57 f58 c59 c60
  have T61 := (Turn.refl [w.heap.size] w34).setCell (g := w.heap.size) (by simp) 1 (.int .i64 xf)
  have X63 := hide ((unhide X41).set 1 (.int .i64 xf) (by simp))
  simp only [List.set] at X63
  clear X41
  have Y64 := hide ((unhide Y42).turn T61 (by simp <;> omega))
  have RD65 := hide ((unhide RD38).turn T61 (by simp <;> omega) (by simp <;> omega))
  have B66 := hide ((unhide B43).trans (T61.below (unhide B43).size (by simp <;> omega)))
  clear Y42 RD38 B43
  clear T61
  generalize w34.setCell ⟨w.heap.size, 1, none⟩ (.int .i64 xf) = W62 at *
  refine (wnum_any w.heap.size (w.heap.size + 2) W62 v36 r35 1 (by omega) (unhide L44) (unhide RD65)).mono ?_
  rintro e w67 (⟨xt, r68, v69, h70, rfl, RD71, T72⟩ | ⟨h70, rfl, T72⟩)
  rotate_left
  · have XG := hide ((unhide X63).turn (unhide T72) (by simp <;> omega))
    have YG := hide ((unhide Y64).turn (unhide T72) (by simp <;> omega))
    have BG := hide ((unhide B66).trans ((unhide T72).below (unhide B66).size (by simp <;> omega)))
    have HNO := hide (show sayRd bs = none from sayRd_none (by unfold rdSay; rw [unhide Hh4]; simp only [Option.bind_some]; rw [unhide Hh37]; simp only [Option.bind_some]; rw [h70]; rfl))
    refine leaves_cons (f := 60) (args := #[.pointer (some ⟨w.heap.size, 0, none⟩), .pointer (some ⟨w.heap.size + 1, 0, none⟩)]) (by simp) (by simp [go_sem]) ?_
    refine (word_short w.heap.size (w.heap.size + 1) _ w67 ⟨_, _, _, _, _, _, unhide XG⟩ (unhide YG) (by omega)).mono ?_
    rintro e u' w'' ⟨rfl, rfl, PP⟩
    obtain ⟨pa, pb, pc⟩ := unhide PP
    have HP := hide (ret_noI (unhide HNO) ((unhide BG).trans (pc.below (unhide BG).size (by simp <;> omega))))
    obtain ⟨⟨y0, y1, y2, y3, y4, y5⟩, -⟩ := pa.sixW
    obtain ⟨z0, -⟩ := pb.oneW
    clear pa pb pc PP
    simp [Leaves, settle, results, Tryz.results40, go_sem, y0, y1, y2, y3, y4, y5, z0]
    exact unhide HP
  have X74 := hide ((unhide X63).turn (unhide T72) (by simp <;> omega))
  have Y75 := hide ((unhide Y64).turn (unhide T72) (by simp <;> omega))
  have B76 := hide ((unhide B66).trans ((unhide T72).below (unhide B66).size (by simp <;> omega)))
  clear X63 Y64 B66
  have L77 := hide (show r68.length ≤ 1048576 by have := (rdN_some h70).2.2; have := unhide L44; rw [‹r68 = _›]; simp; omega)
  have Hh70 := hide h70
  clear h70 T72 RD65 L44
  obtain ⟨⟨c78, c79, c80, c81, c82, c83⟩, f84, f85, f86, f87, f88, f89⟩ := (unhide X74).sixW
  obtain ⟨c90, f91⟩ := (unhide Y75).oneW
  have c92 := (unhide RD71).c0
  have c93 := (unhide RD71).c1
  go_wp2_with fail
  clear c78 c79 c80 c81 c82 c83 f84 f85 f86 f87 f88 f89 c90 f91 c92 c93
  have T94 := (Turn.refl [w.heap.size] w67).setCell (g := w.heap.size) (by simp) 2 (.int .i64 xt)
  have X96 := hide ((unhide X74).set 2 (.int .i64 xt) (by simp))
  simp only [List.set] at X96
  clear X74
  have Y97 := hide ((unhide Y75).turn T94 (by simp <;> omega))
  have RD98 := hide ((unhide RD71).turn T94 (by simp <;> omega) (by simp <;> omega))
  have B99 := hide ((unhide B76).trans (T94.below (unhide B76).size (by simp <;> omega)))
  clear Y75 RD71 B76
  clear T94
  generalize w67.setCell ⟨w.heap.size, 2, none⟩ (.int .i64 xt) = W95 at *
  refine (wtext_any w.heap.size (w.heap.size + 2) W95 v69 r68 (unhide L77) (unhide RD98)).mono ?_
  rintro e w100 (⟨nm, r101, v102, h103, rfl, RD104, T105⟩ | ⟨h103, rfl, T105⟩)
  rotate_left
  · have XG := hide ((unhide X96).turn (unhide T105) (by simp <;> omega))
    have YG := hide ((unhide Y97).turn (unhide T105) (by simp <;> omega))
    have BG := hide ((unhide B99).trans ((unhide T105).below (unhide B99).size (by simp <;> omega)))
    have HNO := hide (show sayRd bs = none from sayRd_none (by unfold rdSay; rw [unhide Hh4]; simp only [Option.bind_some]; rw [unhide Hh37]; simp only [Option.bind_some]; rw [unhide Hh70]; simp only [Option.bind_some]; rw [h103]; rfl))
    refine leaves_cons (f := 60) (args := #[.pointer (some ⟨w.heap.size, 0, none⟩), .pointer (some ⟨w.heap.size + 1, 0, none⟩)]) (by simp) (by simp [go_sem]) ?_
    refine (word_short w.heap.size (w.heap.size + 1) _ w100 ⟨_, _, _, _, _, _, unhide XG⟩ (unhide YG) (by omega)).mono ?_
    rintro e u' w'' ⟨rfl, rfl, PP⟩
    obtain ⟨pa, pb, pc⟩ := unhide PP
    have HP := hide (ret_noI (unhide HNO) ((unhide BG).trans (pc.below (unhide BG).size (by simp <;> omega))))
    obtain ⟨⟨y0, y1, y2, y3, y4, y5⟩, -⟩ := pa.sixW
    obtain ⟨z0, -⟩ := pb.oneW
    clear pa pb pc PP
    simp [Leaves, settle, results, Tryz.results40, go_sem, y0, y1, y2, y3, y4, y5, z0]
    exact unhide HP
  have X107 := hide ((unhide X96).turn (unhide T105) (by simp <;> omega))
  have Y108 := hide ((unhide Y97).turn (unhide T105) (by simp <;> omega))
  have B109 := hide ((unhide B99).trans ((unhide T105).below (unhide B99).size (by simp <;> omega)))
  clear X96 Y97 B99
  have L110 := hide (show r101.length ≤ 1048576 by have := congrArg List.length (rdT_back h103).1; have := unhide L77; rw [List.length_append] at *; omega)
  have Hh103 := hide h103
  clear h103 T105 RD98 L77
  have HRS := hide (show rdSay bs = (rdTail xk r101).bind fun q => some (⟨xk, xf, xt, nm, q.1.1, q.1.2⟩, q.2) by unfold rdSay; rw [unhide Hh4]; simp only [Option.bind_some]; rw [unhide Hh37]; simp only [Option.bind_some]; rw [unhide Hh70]; simp only [Option.bind_some]; rw [unhide Hh103]; simp only [Option.bind_some])
  clear Hh4 Hh37 Hh70 Hh103
  obtain ⟨⟨c111, c112, c113, c114, c115, c116⟩, f117, f118, f119, f120, f121, f122⟩ := (unhide X107).sixW
  obtain ⟨c123, f124⟩ := (unhide Y108).oneW
  have c125 := (unhide RD104).c0
  have c126 := (unhide RD104).c1
  go_wp2_with fail
  clear c111 c112 c113 c114 c115 c116 f117 f118 f119 f120 f121 f122 c123 f124 c125 c126
  have T127 := (Turn.refl [w.heap.size] w100).setCell (g := w.heap.size) (by simp) 3 (.string nm)
  have X129 := hide ((unhide X107).set 3 (.string nm) (by simp))
  simp only [List.set] at X129
  clear X107
  have Y130 := hide ((unhide Y108).turn T127 (by simp <;> omega))
  have RD131 := hide ((unhide RD104).turn T127 (by simp <;> omega) (by simp <;> omega))
  have B132 := hide ((unhide B109).trans (T127.below (unhide B109).size (by simp <;> omega)))
  clear Y108 RD104 B109
  clear T127
  generalize w100.setCell ⟨w.heap.size, 3, none⟩ (.string nm) = W128 at *
  refine (sayKindOf_any xk W128).mono ?_
  rintro e wk ⟨rfl, hw⟩
  rw [hw]
  clear hw
  by_cases hk : xk = 1
  · subst hk
    have HKV : sayKind 1 = .iface 113 (.agg #[]) := by simp [sayKind]
    rw [HKV]
    clear HKV
    have HRT := hide (show rdSay bs = some ((⟨1, xf, xt, nm, 0, []⟩ : SayV), r101) from by rw [unhide HRS]; rfl)
    go_wp2_with fail
    refine (bare_take _ _ W128).mono ?_
    rintro e wb ⟨rfl, bb⟩
    have RDb := hide ((unhide RD131).upW bb)
    have Xb := hide ((unhide X129).up bb)
    have Yb := hide ((unhide Y130).up bb)
    have Bb := hide ((unhide B132).trans (bb.mono (unhide B132).size))
    clear bb RD131 X129 Y130 B132
    obtain ⟨ra, rc, hrv⟩ := (unhide RDb).by'.len
    subst hrv
    have hbk := (rdSay_back (unhide HRT)).1
    have hRl : r101.length ≤ bs.length := by have := congrArg List.length hbk; rw [List.length_append] at this; omega
    obtain ⟨m, hm⟩ : ∃ m, m = bs.length - r101.length := ⟨_, rfl⟩
    have hsb : (bs.length : Int) - (r101.length : Int) = (m : Int) := by omega
    have hmb : m ≤ bs.length := by omega
    have HSUM := hide (show bs.take m = sayBody (⟨1, xf, xt, nm, 0, []⟩ : SayV) from by
      have hl2 : m = (sayBody (⟨1, xf, xt, nm, 0, []⟩ : SayV)).length := by have := congrArg List.length hbk; rw [List.length_append] at this; omega
      rw [hl2]
      conv => lhs; rw [hbk]
      rw [List.take_left])
    have HBT := hide (fun (W : World) (b : Below w.heap.size w W) => by_cutW ((unhide HBY).up b) hmb)
    clear hbk hRl hm
    obtain ⟨⟨c133, c134, c135, c136, c137, c138⟩, f139, f140, f141, f142, f143, f144⟩ := (unhide Xb).sixW
    obtain ⟨c145, f146⟩ := (unhide Yb).oneW
    have c147 := (unhide RDb).c0
    have c148 := (unhide RDb).c1
    have hmc : m ≤ cc := by omega
    go_wp2_with fail
    clear c133 c134 c135 c136 c137 c138 f139 f140 f141 f142 f143 f144 c145 f146 c147 c148
    refine (wnum_any w.heap.size (w.heap.size + 2) wb (.slice ra r101.length rc) r101 2 (by omega) (unhide L110) (unhide RDb)).mono ?_
    rintro e w149 (⟨xs, r150, v151, h152, rfl, RD153, T154⟩ | ⟨h152, rfl, T154⟩)
    rotate_left
    · have XG := hide ((unhide Xb).turn (unhide T154) (by simp <;> omega))
      have YG := hide ((unhide Yb).turn (unhide T154) (by simp <;> omega))
      have BG := hide ((unhide Bb).trans ((unhide T154).below (unhide Bb).size (by simp <;> omega)))
      have HNO := hide (show sayRd bs = none from sayRd_no (unhide HRT) (fun hh => by have h2 := (rdSayOk_impl.1 hh).1; unfold rdN at h152; rw [if_pos (by omega)] at h152; cases h152))
      refine leaves_cons (f := 60) (args := #[.pointer (some ⟨w.heap.size, 0, none⟩), .pointer (some ⟨w.heap.size + 1, 0, none⟩)]) (by simp) (by simp [go_sem]) ?_
      refine (word_short w.heap.size (w.heap.size + 1) _ w149 ⟨_, _, _, _, _, _, unhide XG⟩ (unhide YG) (by omega)).mono ?_
      rintro e u' w'' ⟨rfl, rfl, PP⟩
      obtain ⟨pa, pb, pc⟩ := unhide PP
      have HP := hide (ret_noI (unhide HNO) ((unhide BG).trans (pc.below (unhide BG).size (by simp <;> omega))))
      obtain ⟨⟨y0, y1, y2, y3, y4, y5⟩, -⟩ := pa.sixW
      obtain ⟨z0, -⟩ := pb.oneW
      clear pa pb pc PP
      simp [Leaves, settle, results, Tryz.results40, go_sem, y0, y1, y2, y3, y4, y5, z0]
      exact unhide HP
    have X156 := hide ((unhide Xb).turn (unhide T154) (by simp <;> omega))
    have Y157 := hide ((unhide Yb).turn (unhide T154) (by simp <;> omega))
    have B158 := hide ((unhide Bb).trans ((unhide T154).below (unhide Bb).size (by simp <;> omega)))
    clear Xb Yb Bb
    have L159 := hide (show r150.length ≤ 1048576 by have := (rdN_some h152).2.2; have := unhide L110; rw [‹r150 = _›]; simp; omega)
    have Hh152 := hide h152
    clear h152 T154 RDb L110
    obtain ⟨rb, rd, hrv2⟩ := (unhide RD153).by'.len
    subst hrv2
    by_cases hz : 0 < r150.length
    · have hz' : 0 < (r150.length : Int) := by omega
      have HNO := hide (show sayRd bs = none from sayRd_no (unhide HRT) (fun hh => by have h2 := (rdSayOk_impl.1 hh).1; have h3 := (rdN_some (unhide Hh152)).2.2; rw [h3] at hz; simp at hz; omega))
      obtain ⟨yy, ty⟩ := fill6W (unhide X156) (.int .i64 0) (.int .i64 0) (.int .i64 0) (.string ⟨#[]⟩) (.int .i64 0) (.slice none 0 0)
      have y2 := ((unhide Y157).turn ty (by simp)).set 0 (.bool false) (by simp)
      simp only [List.set] at y2
      have t2 := (ty.mono (S' := [w.heap.size, w.heap.size + 1]) (by simp)).setCell (g := w.heap.size + 1) (by simp) 0 (.bool false)
      have x2 := yy.far (g' := w.heap.size + 1) 0 (.bool false) (by omega)
      have HP := hide (ret_noI (unhide HNO) ((unhide B158).trans (t2.below (unhide B158).size (by simp <;> omega))))
      have HX := hide x2
      have HY := hide y2
      have HY1 := hide ((unhide Y157).turn ty (by simp))
      clear yy ty y2 t2 x2
      obtain ⟨⟨c160, c161, c162, c163, c164, c165⟩, f166, f167, f168, f169, f170, f171⟩ := (unhide X156).sixW
      obtain ⟨c172, f173⟩ := (unhide Y157).oneW
      have c174 := (unhide RD153).c0
      have c175 := (unhide RD153).c1
      obtain ⟨u0, u1⟩ := (unhide HY1).oneW
      go_wp2_with fail
      obtain ⟨⟨j0, j1, j2, j3, j4, j5⟩, -⟩ := (unhide HX).sixW
      obtain ⟨i0, -⟩ := (unhide HY).oneW
      refine leaves_cons (f := 60) (args := #[.pointer (some ⟨w.heap.size, 0, none⟩), .pointer (some ⟨w.heap.size + 1, 0, none⟩)]) (by simp) (by simp [go_sem]) ?_
      refine (word_idle _ _ _).mono ?_
      rintro e u' w'' ⟨rfl, rfl, rfl⟩
      simp [Leaves, settle, results, Tryz.results40, go_sem, j0, j1, j2, j3, j4, j5, i0]
      exact unhide HP
    have hz0 : r150.length = 0 := by omega
    have HR2 := hide (show r101.length = 2 ∧ numL r101 = xs from by have h3 := rdN_some (unhide Hh152); have h4 := h3.2.2; have h5 : r101.length = 2 := (by rw [h4] at hz0; simp at hz0; omega); exact ⟨h5, by rw [h3.2.1, List.take_of_length_le (by omega)]⟩)
    clear hz
    have HSS := hide (fun (W : World) (b : Below w.heap.size w W) => implSSum_any W (.slice a m cc) (bs.take m) (by simp; unfold maxLen; omega) (unhide HBT W b))
    rw [unhide HSUM] at HSS
    obtain rfl : r150 = [] := List.eq_nil_of_length_eq_zero hz0
    clear hz0
    obtain ⟨sm, hsm⟩ : ∃ sm, sm = saySum (sayBody (⟨1, xf, xt, nm, 0, []⟩ : SayV)) := ⟨_, rfl⟩
    rw [← hsm] at HSS
    have HSM := hide hsm
    clear hsm
    by_cases hx : xs = sm
    rotate_left
    · have qx : (xs == sm) = false := by rw [beq_eq_false_iff_ne]; exact hx
      have qx2 : (xs != sm) = true := by simpa using hx
      have HNX := hide hx
      clear hx
      obtain ⟨⟨c176, c177, c178, c179, c180, c181⟩, f182, f183, f184, f185, f186, f187⟩ := (unhide X156).sixW
      obtain ⟨c188, f189⟩ := (unhide Y157).oneW
      have c190 := (unhide RD153).c0
      have c191 := (unhide RD153).c1
      go_wp2_with fail
      refine (unhide HSS _ (unhide B158)).mono ?_
      rintro e ws ⟨rfl, hw⟩
      rw [hw]
      clear hw c176 c177 c178 c179 c180 c181 f182 f183 f184 f185 f186 f187 c188 f189 c190 c191
      have HNO := hide (show sayRd bs = none from sayRd_no (unhide HRT) (fun hh => unhide HNX (by rw [unhide HSM, ← (rdSayOk_impl.1 hh).2.1, (unhide HR2).2])))
      obtain ⟨yy, ty⟩ := fill6W (unhide X156) (.int .i64 0) (.int .i64 0) (.int .i64 0) (.string ⟨#[]⟩) (.int .i64 0) (.slice none 0 0)
      have y2 := ((unhide Y157).turn ty (by simp)).set 0 (.bool false) (by simp)
      simp only [List.set] at y2
      have t2 := (ty.mono (S' := [w.heap.size, w.heap.size + 1]) (by simp)).setCell (g := w.heap.size + 1) (by simp) 0 (.bool false)
      have x2 := yy.far (g' := w.heap.size + 1) 0 (.bool false) (by omega)
      have HP := hide (ret_noI (unhide HNO) ((unhide B158).trans (t2.below (unhide B158).size (by simp <;> omega))))
      have HX := hide x2
      have HY := hide y2
      have HY1 := hide ((unhide Y157).turn ty (by simp))
      clear yy ty y2 t2 x2
      obtain ⟨⟨c192, c193, c194, c195, c196, c197⟩, f198, f199, f200, f201, f202, f203⟩ := (unhide X156).sixW
      obtain ⟨c204, f205⟩ := (unhide Y157).oneW
      have c206 := (unhide RD153).c0
      have c207 := (unhide RD153).c1
      obtain ⟨u0, u1⟩ := (unhide HY1).oneW
      go_wp2_with fail
      obtain ⟨⟨j0, j1, j2, j3, j4, j5⟩, -⟩ := (unhide HX).sixW
      obtain ⟨i0, -⟩ := (unhide HY).oneW
      refine leaves_cons (f := 60) (args := #[.pointer (some ⟨w.heap.size, 0, none⟩), .pointer (some ⟨w.heap.size + 1, 0, none⟩)]) (by simp) (by simp [go_sem]) ?_
      refine (word_idle _ _ _).mono ?_
      rintro e u' w'' ⟨rfl, rfl, rfl⟩
      simp [Leaves, settle, results, Tryz.results40, go_sem, j0, j1, j2, j3, j4, j5, i0]
      exact unhide HP
    subst hx
    obtain ⟨⟨c208, c209, c210, c211, c212, c213⟩, f214, f215, f216, f217, f218, f219⟩ := (unhide X156).sixW
    obtain ⟨c220, f221⟩ := (unhide Y157).oneW
    have c222 := (unhide RD153).c0
    have c223 := (unhide RD153).c1
    go_wp2_with fail
    refine (unhide HSS _ (unhide B158)).mono ?_
    rintro e ws ⟨rfl, hw⟩
    rw [hw]
    clear hw c208 c209 c210 c211 c212 c213 f214 f215 f216 f217 f218 f219 c220 f221 c222 c223
    obtain ⟨⟨c224, c225, c226, c227, c228, c229⟩, f230, f231, f232, f233, f234, f235⟩ := (unhide X156).sixW
    obtain ⟨c236, f237⟩ := (unhide Y157).oneW
    have c238 := (unhide RD153).c0
    have c239 := (unhide RD153).c1
    go_wp2_with fail
    clear c224 c225 c226 c227 c228 c229 f230 f231 f232 f233 f234 f235 c236 f237 c238 c239
    refine (implSayOk_any (⟨1, xf, xt, nm, 0, []⟩ : SayV) _ w149 (rdSay_small (unhide HRT)) ⟨_, rfl, ⟨none, 0, rfl, .inl rfl⟩⟩).mono ?_
    rintro e wo ⟨rfl, bo⟩
    have RDo := hide ((unhide RD153).upW bo)
    have Xo := hide ((unhide X156).up bo)
    have Yo := hide ((unhide Y157).up bo)
    have Bo := hide ((unhide B158).trans (bo.mono (unhide B158).size))
    clear bo RD153 X156 Y157 B158
    cases hok : sayOkB (⟨1, xf, xt, nm, 0, []⟩ : SayV)
    · have hn : ¬ rdSayOk (⟨1, xf, xt, nm, 0, []⟩ : SayV) r101 := fun h => by rw [h.1] at hok; cases hok
      clear hok
      have HNO := hide (show sayRd bs = none from sayRd_no (unhide HRT) hn)
      obtain ⟨yy, ty⟩ := fill6W (unhide Xo) (.int .i64 0) (.int .i64 0) (.int .i64 0) (.string ⟨#[]⟩) (.int .i64 0) (.slice none 0 0)
      have y2 := ((unhide Yo).turn ty (by simp)).set 0 (.bool false) (by simp)
      simp only [List.set] at y2
      have t2 := (ty.mono (S' := [w.heap.size, w.heap.size + 1]) (by simp)).setCell (g := w.heap.size + 1) (by simp) 0 (.bool false)
      have x2 := yy.far (g' := w.heap.size + 1) 0 (.bool false) (by omega)
      have HP := hide (ret_noI (unhide HNO) ((unhide Bo).trans (t2.below (unhide Bo).size (by simp <;> omega))))
      have HX := hide x2
      have HY := hide y2
      have HY1 := hide ((unhide Yo).turn ty (by simp))
      clear yy ty y2 t2 x2
      obtain ⟨⟨c240, c241, c242, c243, c244, c245⟩, f246, f247, f248, f249, f250, f251⟩ := (unhide Xo).sixW
      obtain ⟨c252, f253⟩ := (unhide Yo).oneW
      have c254 := (unhide RDo).c0
      have c255 := (unhide RDo).c1
      obtain ⟨u0, u1⟩ := (unhide HY1).oneW
      go_wp2_with fail
      obtain ⟨⟨j0, j1, j2, j3, j4, j5⟩, -⟩ := (unhide HX).sixW
      obtain ⟨i0, -⟩ := (unhide HY).oneW
      refine leaves_cons (f := 60) (args := #[.pointer (some ⟨w.heap.size, 0, none⟩), .pointer (some ⟨w.heap.size + 1, 0, none⟩)]) (by simp) (by simp [go_sem]) ?_
      refine (word_idle _ _ _).mono ?_
      rintro e u' w'' ⟨rfl, rfl, rfl⟩
      simp [Leaves, settle, results, Tryz.results40, go_sem, j0, j1, j2, j3, j4, j5, i0]
      exact unhide HP
    have HYES := hide (show sayRd bs = some (⟨1, xf, xt, nm, 0, []⟩ : SayV) from sayRd_yes hl (unhide HRT) (rdSayOk_impl.2 ⟨(unhide HR2).1, by rw [(unhide HR2).2, unhide HSM], hok⟩))
    clear hok
    obtain ⟨yy, ty⟩ := fill6W (unhide Xo) (.int .i64 1) (.int .i64 xf) (.int .i64 xt) (.string nm) (.int .i64 0) (.slice none 0 0)
    have y2 := ((unhide Yo).turn ty (by simp)).set 0 (.bool true) (by simp)
    simp only [List.set] at y2
    have t2 := (ty.mono (S' := [w.heap.size, w.heap.size + 1]) (by simp)).setCell (g := w.heap.size + 1) (by simp) 0 (.bool true)
    have x2 := yy.far (g' := w.heap.size + 1) 0 (.bool true) (by omega)
    have HO := hide (show ∀ WF, Turn [w.heap.size, w.heap.size + 1] wo WF → ∃ S, VerOwn S WF (.slice none 0 0) ((⟨1, xf, xt, nm, 0, []⟩ : SayV)).stamp ∧ ∀ k ∈ S, w.heap.size ≤ k from fun WF t => ⟨[], .inl ⟨rfl, rfl, none, 0, rfl⟩, by simp⟩)
    have HP := hide (show RetRdI bs w (.returned (.tuple #[.agg #[.int .i64 1, .int .i64 xf, .int .i64 xt, .string nm, .int .i64 0, .slice none 0 0], .bool true])) _ from by obtain ⟨S, o1, o2⟩ := unhide HO _ t2; exact ⟨_, S, by rw [unhide HYES]; rfl, hide (by rw [unhide HYES]; exact ⟨_, rfl, o1⟩), hide o2, (unhide Bo).trans (t2.below (unhide Bo).size (by simp <;> omega))⟩)
    have HX := hide x2
    have HY := hide y2
    have HY1 := hide ((unhide Yo).turn ty (by simp))
    clear yy ty y2 t2 x2
    obtain ⟨⟨c256, c257, c258, c259, c260, c261⟩, f262, f263, f264, f265, f266, f267⟩ := (unhide Xo).sixW
    obtain ⟨c268, f269⟩ := (unhide Yo).oneW
    have c270 := (unhide RDo).c0
    have c271 := (unhide RDo).c1
    obtain ⟨u0, u1⟩ := (unhide HY1).oneW
    go_wp2_with fail
    obtain ⟨⟨j0, j1, j2, j3, j4, j5⟩, -⟩ := (unhide HX).sixW
    obtain ⟨i0, -⟩ := (unhide HY).oneW
    refine leaves_cons (f := 60) (args := #[.pointer (some ⟨w.heap.size, 0, none⟩), .pointer (some ⟨w.heap.size + 1, 0, none⟩)]) (by simp) (by simp [go_sem]) ?_
    refine (word_idle _ _ _).mono ?_
    rintro e u' w'' ⟨rfl, rfl, rfl⟩
    simp [Leaves, settle, results, Tryz.results40, go_sem, j0, j1, j2, j3, j4, j5, i0]
    exact unhide HP
  by_cases hk : xk = 3
  · subst hk
    have HKV : sayKind 3 = .iface 115 (.agg #[]) := by simp [sayKind]
    rw [HKV]
    clear HKV
    have HRT := hide (show rdSay bs = some ((⟨3, xf, xt, nm, 0, []⟩ : SayV), r101) from by rw [unhide HRS]; rfl)
    go_wp2_with fail
    refine (bare_take _ _ W128).mono ?_
    rintro e wb ⟨rfl, bb⟩
    have RDb := hide ((unhide RD131).upW bb)
    have Xb := hide ((unhide X129).up bb)
    have Yb := hide ((unhide Y130).up bb)
    have Bb := hide ((unhide B132).trans (bb.mono (unhide B132).size))
    clear bb RD131 X129 Y130 B132
    obtain ⟨ra, rc, hrv⟩ := (unhide RDb).by'.len
    subst hrv
    have hbk := (rdSay_back (unhide HRT)).1
    have hRl : r101.length ≤ bs.length := by have := congrArg List.length hbk; rw [List.length_append] at this; omega
    obtain ⟨m, hm⟩ : ∃ m, m = bs.length - r101.length := ⟨_, rfl⟩
    have hsb : (bs.length : Int) - (r101.length : Int) = (m : Int) := by omega
    have hmb : m ≤ bs.length := by omega
    have HSUM := hide (show bs.take m = sayBody (⟨3, xf, xt, nm, 0, []⟩ : SayV) from by
      have hl2 : m = (sayBody (⟨3, xf, xt, nm, 0, []⟩ : SayV)).length := by have := congrArg List.length hbk; rw [List.length_append] at this; omega
      rw [hl2]
      conv => lhs; rw [hbk]
      rw [List.take_left])
    have HBT := hide (fun (W : World) (b : Below w.heap.size w W) => by_cutW ((unhide HBY).up b) hmb)
    clear hbk hRl hm
    obtain ⟨⟨c272, c273, c274, c275, c276, c277⟩, f278, f279, f280, f281, f282, f283⟩ := (unhide Xb).sixW
    obtain ⟨c284, f285⟩ := (unhide Yb).oneW
    have c286 := (unhide RDb).c0
    have c287 := (unhide RDb).c1
    have hmc : m ≤ cc := by omega
    go_wp2_with fail
    clear c272 c273 c274 c275 c276 c277 f278 f279 f280 f281 f282 f283 c284 f285 c286 c287
    refine (wnum_any w.heap.size (w.heap.size + 2) wb (.slice ra r101.length rc) r101 2 (by omega) (unhide L110) (unhide RDb)).mono ?_
    rintro e w288 (⟨xs, r289, v290, h291, rfl, RD292, T293⟩ | ⟨h291, rfl, T293⟩)
    rotate_left
    · have XG := hide ((unhide Xb).turn (unhide T293) (by simp <;> omega))
      have YG := hide ((unhide Yb).turn (unhide T293) (by simp <;> omega))
      have BG := hide ((unhide Bb).trans ((unhide T293).below (unhide Bb).size (by simp <;> omega)))
      have HNO := hide (show sayRd bs = none from sayRd_no (unhide HRT) (fun hh => by have h2 := (rdSayOk_impl.1 hh).1; unfold rdN at h291; rw [if_pos (by omega)] at h291; cases h291))
      refine leaves_cons (f := 60) (args := #[.pointer (some ⟨w.heap.size, 0, none⟩), .pointer (some ⟨w.heap.size + 1, 0, none⟩)]) (by simp) (by simp [go_sem]) ?_
      refine (word_short w.heap.size (w.heap.size + 1) _ w288 ⟨_, _, _, _, _, _, unhide XG⟩ (unhide YG) (by omega)).mono ?_
      rintro e u' w'' ⟨rfl, rfl, PP⟩
      obtain ⟨pa, pb, pc⟩ := unhide PP
      have HP := hide (ret_noI (unhide HNO) ((unhide BG).trans (pc.below (unhide BG).size (by simp <;> omega))))
      obtain ⟨⟨y0, y1, y2, y3, y4, y5⟩, -⟩ := pa.sixW
      obtain ⟨z0, -⟩ := pb.oneW
      clear pa pb pc PP
      simp [Leaves, settle, results, Tryz.results40, go_sem, y0, y1, y2, y3, y4, y5, z0]
      exact unhide HP
    have X295 := hide ((unhide Xb).turn (unhide T293) (by simp <;> omega))
    have Y296 := hide ((unhide Yb).turn (unhide T293) (by simp <;> omega))
    have B297 := hide ((unhide Bb).trans ((unhide T293).below (unhide Bb).size (by simp <;> omega)))
    clear Xb Yb Bb
    have L298 := hide (show r289.length ≤ 1048576 by have := (rdN_some h291).2.2; have := unhide L110; rw [‹r289 = _›]; simp; omega)
    have Hh291 := hide h291
    clear h291 T293 RDb L110
    obtain ⟨rb, rd, hrv2⟩ := (unhide RD292).by'.len
    subst hrv2
    by_cases hz : 0 < r289.length
    · have hz' : 0 < (r289.length : Int) := by omega
      have HNO := hide (show sayRd bs = none from sayRd_no (unhide HRT) (fun hh => by have h2 := (rdSayOk_impl.1 hh).1; have h3 := (rdN_some (unhide Hh291)).2.2; rw [h3] at hz; simp at hz; omega))
      obtain ⟨yy, ty⟩ := fill6W (unhide X295) (.int .i64 0) (.int .i64 0) (.int .i64 0) (.string ⟨#[]⟩) (.int .i64 0) (.slice none 0 0)
      have y2 := ((unhide Y296).turn ty (by simp)).set 0 (.bool false) (by simp)
      simp only [List.set] at y2
      have t2 := (ty.mono (S' := [w.heap.size, w.heap.size + 1]) (by simp)).setCell (g := w.heap.size + 1) (by simp) 0 (.bool false)
      have x2 := yy.far (g' := w.heap.size + 1) 0 (.bool false) (by omega)
      have HP := hide (ret_noI (unhide HNO) ((unhide B297).trans (t2.below (unhide B297).size (by simp <;> omega))))
      have HX := hide x2
      have HY := hide y2
      have HY1 := hide ((unhide Y296).turn ty (by simp))
      clear yy ty y2 t2 x2
      obtain ⟨⟨c299, c300, c301, c302, c303, c304⟩, f305, f306, f307, f308, f309, f310⟩ := (unhide X295).sixW
      obtain ⟨c311, f312⟩ := (unhide Y296).oneW
      have c313 := (unhide RD292).c0
      have c314 := (unhide RD292).c1
      obtain ⟨u0, u1⟩ := (unhide HY1).oneW
      go_wp2_with fail
      obtain ⟨⟨j0, j1, j2, j3, j4, j5⟩, -⟩ := (unhide HX).sixW
      obtain ⟨i0, -⟩ := (unhide HY).oneW
      refine leaves_cons (f := 60) (args := #[.pointer (some ⟨w.heap.size, 0, none⟩), .pointer (some ⟨w.heap.size + 1, 0, none⟩)]) (by simp) (by simp [go_sem]) ?_
      refine (word_idle _ _ _).mono ?_
      rintro e u' w'' ⟨rfl, rfl, rfl⟩
      simp [Leaves, settle, results, Tryz.results40, go_sem, j0, j1, j2, j3, j4, j5, i0]
      exact unhide HP
    have hz0 : r289.length = 0 := by omega
    have HR2 := hide (show r101.length = 2 ∧ numL r101 = xs from by have h3 := rdN_some (unhide Hh291); have h4 := h3.2.2; have h5 : r101.length = 2 := (by rw [h4] at hz0; simp at hz0; omega); exact ⟨h5, by rw [h3.2.1, List.take_of_length_le (by omega)]⟩)
    clear hz
    have HSS := hide (fun (W : World) (b : Below w.heap.size w W) => implSSum_any W (.slice a m cc) (bs.take m) (by simp; unfold maxLen; omega) (unhide HBT W b))
    rw [unhide HSUM] at HSS
    obtain rfl : r289 = [] := List.eq_nil_of_length_eq_zero hz0
    clear hz0
    obtain ⟨sm, hsm⟩ : ∃ sm, sm = saySum (sayBody (⟨3, xf, xt, nm, 0, []⟩ : SayV)) := ⟨_, rfl⟩
    rw [← hsm] at HSS
    have HSM := hide hsm
    clear hsm
    by_cases hx : xs = sm
    rotate_left
    · have qx : (xs == sm) = false := by rw [beq_eq_false_iff_ne]; exact hx
      have qx2 : (xs != sm) = true := by simpa using hx
      have HNX := hide hx
      clear hx
      obtain ⟨⟨c315, c316, c317, c318, c319, c320⟩, f321, f322, f323, f324, f325, f326⟩ := (unhide X295).sixW
      obtain ⟨c327, f328⟩ := (unhide Y296).oneW
      have c329 := (unhide RD292).c0
      have c330 := (unhide RD292).c1
      go_wp2_with fail
      refine (unhide HSS _ (unhide B297)).mono ?_
      rintro e ws ⟨rfl, hw⟩
      rw [hw]
      clear hw c315 c316 c317 c318 c319 c320 f321 f322 f323 f324 f325 f326 c327 f328 c329 c330
      have HNO := hide (show sayRd bs = none from sayRd_no (unhide HRT) (fun hh => unhide HNX (by rw [unhide HSM, ← (rdSayOk_impl.1 hh).2.1, (unhide HR2).2])))
      obtain ⟨yy, ty⟩ := fill6W (unhide X295) (.int .i64 0) (.int .i64 0) (.int .i64 0) (.string ⟨#[]⟩) (.int .i64 0) (.slice none 0 0)
      have y2 := ((unhide Y296).turn ty (by simp)).set 0 (.bool false) (by simp)
      simp only [List.set] at y2
      have t2 := (ty.mono (S' := [w.heap.size, w.heap.size + 1]) (by simp)).setCell (g := w.heap.size + 1) (by simp) 0 (.bool false)
      have x2 := yy.far (g' := w.heap.size + 1) 0 (.bool false) (by omega)
      have HP := hide (ret_noI (unhide HNO) ((unhide B297).trans (t2.below (unhide B297).size (by simp <;> omega))))
      have HX := hide x2
      have HY := hide y2
      have HY1 := hide ((unhide Y296).turn ty (by simp))
      clear yy ty y2 t2 x2
      obtain ⟨⟨c331, c332, c333, c334, c335, c336⟩, f337, f338, f339, f340, f341, f342⟩ := (unhide X295).sixW
      obtain ⟨c343, f344⟩ := (unhide Y296).oneW
      have c345 := (unhide RD292).c0
      have c346 := (unhide RD292).c1
      obtain ⟨u0, u1⟩ := (unhide HY1).oneW
      go_wp2_with fail
      obtain ⟨⟨j0, j1, j2, j3, j4, j5⟩, -⟩ := (unhide HX).sixW
      obtain ⟨i0, -⟩ := (unhide HY).oneW
      refine leaves_cons (f := 60) (args := #[.pointer (some ⟨w.heap.size, 0, none⟩), .pointer (some ⟨w.heap.size + 1, 0, none⟩)]) (by simp) (by simp [go_sem]) ?_
      refine (word_idle _ _ _).mono ?_
      rintro e u' w'' ⟨rfl, rfl, rfl⟩
      simp [Leaves, settle, results, Tryz.results40, go_sem, j0, j1, j2, j3, j4, j5, i0]
      exact unhide HP
    subst hx
    obtain ⟨⟨c347, c348, c349, c350, c351, c352⟩, f353, f354, f355, f356, f357, f358⟩ := (unhide X295).sixW
    obtain ⟨c359, f360⟩ := (unhide Y296).oneW
    have c361 := (unhide RD292).c0
    have c362 := (unhide RD292).c1
    go_wp2_with fail
    refine (unhide HSS _ (unhide B297)).mono ?_
    rintro e ws ⟨rfl, hw⟩
    rw [hw]
    clear hw c347 c348 c349 c350 c351 c352 f353 f354 f355 f356 f357 f358 c359 f360 c361 c362
    obtain ⟨⟨c363, c364, c365, c366, c367, c368⟩, f369, f370, f371, f372, f373, f374⟩ := (unhide X295).sixW
    obtain ⟨c375, f376⟩ := (unhide Y296).oneW
    have c377 := (unhide RD292).c0
    have c378 := (unhide RD292).c1
    go_wp2_with fail
    clear c363 c364 c365 c366 c367 c368 f369 f370 f371 f372 f373 f374 c375 f376 c377 c378
    refine (implSayOk_any (⟨3, xf, xt, nm, 0, []⟩ : SayV) _ w288 (rdSay_small (unhide HRT)) ⟨_, rfl, ⟨none, 0, rfl, .inl rfl⟩⟩).mono ?_
    rintro e wo ⟨rfl, bo⟩
    have RDo := hide ((unhide RD292).upW bo)
    have Xo := hide ((unhide X295).up bo)
    have Yo := hide ((unhide Y296).up bo)
    have Bo := hide ((unhide B297).trans (bo.mono (unhide B297).size))
    clear bo RD292 X295 Y296 B297
    cases hok : sayOkB (⟨3, xf, xt, nm, 0, []⟩ : SayV)
    · have hn : ¬ rdSayOk (⟨3, xf, xt, nm, 0, []⟩ : SayV) r101 := fun h => by rw [h.1] at hok; cases hok
      clear hok
      have HNO := hide (show sayRd bs = none from sayRd_no (unhide HRT) hn)
      obtain ⟨yy, ty⟩ := fill6W (unhide Xo) (.int .i64 0) (.int .i64 0) (.int .i64 0) (.string ⟨#[]⟩) (.int .i64 0) (.slice none 0 0)
      have y2 := ((unhide Yo).turn ty (by simp)).set 0 (.bool false) (by simp)
      simp only [List.set] at y2
      have t2 := (ty.mono (S' := [w.heap.size, w.heap.size + 1]) (by simp)).setCell (g := w.heap.size + 1) (by simp) 0 (.bool false)
      have x2 := yy.far (g' := w.heap.size + 1) 0 (.bool false) (by omega)
      have HP := hide (ret_noI (unhide HNO) ((unhide Bo).trans (t2.below (unhide Bo).size (by simp <;> omega))))
      have HX := hide x2
      have HY := hide y2
      have HY1 := hide ((unhide Yo).turn ty (by simp))
      clear yy ty y2 t2 x2
      obtain ⟨⟨c379, c380, c381, c382, c383, c384⟩, f385, f386, f387, f388, f389, f390⟩ := (unhide Xo).sixW
      obtain ⟨c391, f392⟩ := (unhide Yo).oneW
      have c393 := (unhide RDo).c0
      have c394 := (unhide RDo).c1
      obtain ⟨u0, u1⟩ := (unhide HY1).oneW
      go_wp2_with fail
      obtain ⟨⟨j0, j1, j2, j3, j4, j5⟩, -⟩ := (unhide HX).sixW
      obtain ⟨i0, -⟩ := (unhide HY).oneW
      refine leaves_cons (f := 60) (args := #[.pointer (some ⟨w.heap.size, 0, none⟩), .pointer (some ⟨w.heap.size + 1, 0, none⟩)]) (by simp) (by simp [go_sem]) ?_
      refine (word_idle _ _ _).mono ?_
      rintro e u' w'' ⟨rfl, rfl, rfl⟩
      simp [Leaves, settle, results, Tryz.results40, go_sem, j0, j1, j2, j3, j4, j5, i0]
      exact unhide HP
    have HYES := hide (show sayRd bs = some (⟨3, xf, xt, nm, 0, []⟩ : SayV) from sayRd_yes hl (unhide HRT) (rdSayOk_impl.2 ⟨(unhide HR2).1, by rw [(unhide HR2).2, unhide HSM], hok⟩))
    clear hok
    obtain ⟨yy, ty⟩ := fill6W (unhide Xo) (.int .i64 3) (.int .i64 xf) (.int .i64 xt) (.string nm) (.int .i64 0) (.slice none 0 0)
    have y2 := ((unhide Yo).turn ty (by simp)).set 0 (.bool true) (by simp)
    simp only [List.set] at y2
    have t2 := (ty.mono (S' := [w.heap.size, w.heap.size + 1]) (by simp)).setCell (g := w.heap.size + 1) (by simp) 0 (.bool true)
    have x2 := yy.far (g' := w.heap.size + 1) 0 (.bool true) (by omega)
    have HO := hide (show ∀ WF, Turn [w.heap.size, w.heap.size + 1] wo WF → ∃ S, VerOwn S WF (.slice none 0 0) ((⟨3, xf, xt, nm, 0, []⟩ : SayV)).stamp ∧ ∀ k ∈ S, w.heap.size ≤ k from fun WF t => ⟨[], .inl ⟨rfl, rfl, none, 0, rfl⟩, by simp⟩)
    have HP := hide (show RetRdI bs w (.returned (.tuple #[.agg #[.int .i64 3, .int .i64 xf, .int .i64 xt, .string nm, .int .i64 0, .slice none 0 0], .bool true])) _ from by obtain ⟨S, o1, o2⟩ := unhide HO _ t2; exact ⟨_, S, by rw [unhide HYES]; rfl, hide (by rw [unhide HYES]; exact ⟨_, rfl, o1⟩), hide o2, (unhide Bo).trans (t2.below (unhide Bo).size (by simp <;> omega))⟩)
    have HX := hide x2
    have HY := hide y2
    have HY1 := hide ((unhide Yo).turn ty (by simp))
    clear yy ty y2 t2 x2
    obtain ⟨⟨c395, c396, c397, c398, c399, c400⟩, f401, f402, f403, f404, f405, f406⟩ := (unhide Xo).sixW
    obtain ⟨c407, f408⟩ := (unhide Yo).oneW
    have c409 := (unhide RDo).c0
    have c410 := (unhide RDo).c1
    obtain ⟨u0, u1⟩ := (unhide HY1).oneW
    go_wp2_with fail
    obtain ⟨⟨j0, j1, j2, j3, j4, j5⟩, -⟩ := (unhide HX).sixW
    obtain ⟨i0, -⟩ := (unhide HY).oneW
    refine leaves_cons (f := 60) (args := #[.pointer (some ⟨w.heap.size, 0, none⟩), .pointer (some ⟨w.heap.size + 1, 0, none⟩)]) (by simp) (by simp [go_sem]) ?_
    refine (word_idle _ _ _).mono ?_
    rintro e u' w'' ⟨rfl, rfl, rfl⟩
    simp [Leaves, settle, results, Tryz.results40, go_sem, j0, j1, j2, j3, j4, j5, i0]
    exact unhide HP
  by_cases hk : xk = 2
  · subst hk
    have HKV : sayKind 2 = .iface 114 (.agg #[]) := by simp [sayKind]
    rw [HKV]
    clear HKV
    go_wp2_with fail
    have HXL := hide (unhide X129).1.1
    refine (tell_take w.heap.size (w.heap.size + 2) w.heap.size W128 v102 (.int .i64 2) (.int .i64 xf) (.int .i64 xt) (.string nm) r101 (unhide L110) (Nat.le_refl _) (unhide HXL) (by omega) (unhide RD131) (unhide X129)).mono ?_
    rintro e wb (⟨vl, vs, rr, vv, sa, sn, sc, htl, rfl, RDb, Xb, Vb, Tb⟩ | ⟨htl, rfl, Xb, Tb⟩)
    rotate_left
    · have Yb := hide ((unhide Y130).turn (unhide Tb) (by simp <;> omega))
      have Bb := hide ((unhide B132).trans ((unhide Tb).below (unhide B132).size (by simp <;> omega)))
      have HNO := hide (show sayRd bs = none from sayRd_none (by rw [unhide HRS, htl]; rfl))
      refine leaves_cons (f := 60) (args := #[.pointer (some ⟨w.heap.size, 0, none⟩), .pointer (some ⟨w.heap.size + 1, 0, none⟩)]) (by simp) (by simp [go_sem]) ?_
      refine (word_short w.heap.size (w.heap.size + 1) _ wb (unhide Xb) (unhide Yb) (by omega)).mono ?_
      rintro e u' w'' ⟨rfl, rfl, PP⟩
      obtain ⟨pa, pb, pc⟩ := unhide PP
      have HP := hide (ret_noI (unhide HNO) ((unhide Bb).trans (pc.below (unhide Bb).size (by simp <;> omega))))
      obtain ⟨⟨y0, y1, y2, y3, y4, y5⟩, -⟩ := pa.sixW
      obtain ⟨z0, -⟩ := pb.oneW
      clear pa pb pc PP
      simp [Leaves, settle, results, Tryz.results40, go_sem, y0, y1, y2, y3, y4, y5, z0]
      exact unhide HP
    have HRT := hide (show rdSay bs = some ((⟨2, xf, xt, nm, vl, vs⟩ : SayV), rr) from by rw [unhide HRS, htl]; rfl)
    have Yb := hide ((unhide Y130).turn (unhide Tb) (by simp <;> omega))
    have Bb := hide ((unhide B132).trans ((unhide Tb).below (unhide B132).size (by simp <;> omega)))
    have HVG := hide (show w.heap.size + 2 < W128.heap.size from (unhide RD131).lt)
    have Lb := hide (show rr.length ≤ 1048576 by have := congrArg List.length (rdSay_back (unhide HRT)).1; rw [List.length_append] at this; omega)
    have VG := hide (show ∀ g, (Value.slice sa sn sc).ownBlock = some g → w.heap.size + 2 < g from fun g hg => by have := (unhide Vb).ge g hg; have := unhide HVG; omega)
    clear htl Tb HXL RD131 X129 Y130 B132
    obtain ⟨ra, rc, hrv⟩ := (unhide RDb).by'.len
    subst hrv
    have hbk := (rdSay_back (unhide HRT)).1
    have hRl : rr.length ≤ bs.length := by have := congrArg List.length hbk; rw [List.length_append] at this; omega
    obtain ⟨m, hm⟩ : ∃ m, m = bs.length - rr.length := ⟨_, rfl⟩
    have hsb : (bs.length : Int) - (rr.length : Int) = (m : Int) := by omega
    have hmb : m ≤ bs.length := by omega
    have HSUM := hide (show bs.take m = sayBody (⟨2, xf, xt, nm, vl, vs⟩ : SayV) from by
      have hl2 : m = (sayBody (⟨2, xf, xt, nm, vl, vs⟩ : SayV)).length := by have := congrArg List.length hbk; rw [List.length_append] at this; omega
      rw [hl2]
      conv => lhs; rw [hbk]
      rw [List.take_left])
    have HBT := hide (fun (W : World) (b : Below w.heap.size w W) => by_cutW ((unhide HBY).up b) hmb)
    clear hbk hRl hm
    obtain ⟨⟨c411, c412, c413, c414, c415, c416⟩, f417, f418, f419, f420, f421, f422⟩ := (unhide Xb).sixW
    obtain ⟨c423, f424⟩ := (unhide Yb).oneW
    have c425 := (unhide RDb).c0
    have c426 := (unhide RDb).c1
    have hmc : m ≤ cc := by omega
    go_wp2_with fail
    clear c411 c412 c413 c414 c415 c416 f417 f418 f419 f420 f421 f422 c423 f424 c425 c426
    refine (wnum_any w.heap.size (w.heap.size + 2) wb (.slice ra rr.length rc) rr 2 (by omega) (unhide Lb) (unhide RDb)).mono ?_
    rintro e w427 (⟨xs, r428, v429, h430, rfl, RD431, T432⟩ | ⟨h430, rfl, T432⟩)
    rotate_left
    · have XG := hide ((unhide Xb).turn (unhide T432) (by simp <;> omega))
      have YG := hide ((unhide Yb).turn (unhide T432) (by simp <;> omega))
      have BG := hide ((unhide Bb).trans ((unhide T432).below (unhide Bb).size (by simp <;> omega)))
      have HNO := hide (show sayRd bs = none from sayRd_no (unhide HRT) (fun hh => by have h2 := (rdSayOk_impl.1 hh).1; unfold rdN at h430; rw [if_pos (by omega)] at h430; cases h430))
      refine leaves_cons (f := 60) (args := #[.pointer (some ⟨w.heap.size, 0, none⟩), .pointer (some ⟨w.heap.size + 1, 0, none⟩)]) (by simp) (by simp [go_sem]) ?_
      refine (word_short w.heap.size (w.heap.size + 1) _ w427 ⟨_, _, _, _, _, _, unhide XG⟩ (unhide YG) (by omega)).mono ?_
      rintro e u' w'' ⟨rfl, rfl, PP⟩
      obtain ⟨pa, pb, pc⟩ := unhide PP
      have HP := hide (ret_noI (unhide HNO) ((unhide BG).trans (pc.below (unhide BG).size (by simp <;> omega))))
      obtain ⟨⟨y0, y1, y2, y3, y4, y5⟩, -⟩ := pa.sixW
      obtain ⟨z0, -⟩ := pb.oneW
      clear pa pb pc PP
      simp [Leaves, settle, results, Tryz.results40, go_sem, y0, y1, y2, y3, y4, y5, z0]
      exact unhide HP
    have X434 := hide ((unhide Xb).turn (unhide T432) (by simp <;> omega))
    have Y435 := hide ((unhide Yb).turn (unhide T432) (by simp <;> omega))
    have B436 := hide ((unhide Bb).trans ((unhide T432).below (unhide Bb).size (by simp <;> omega)))
    have VV437 := hide ((unhide Vb).keep (fun g hg => (unhide T432).block g ((unhide Vb).lt g hg) (by have := unhide VG g hg; simp <;> omega)))
    clear Xb Yb Bb Vb
    have L438 := hide (show r428.length ≤ 1048576 by have := (rdN_some h430).2.2; have := unhide Lb; rw [‹r428 = _›]; simp; omega)
    have Hh430 := hide h430
    clear h430 T432 RDb Lb
    obtain ⟨rb, rd, hrv2⟩ := (unhide RD431).by'.len
    subst hrv2
    by_cases hz : 0 < r428.length
    · have hz' : 0 < (r428.length : Int) := by omega
      have HNO := hide (show sayRd bs = none from sayRd_no (unhide HRT) (fun hh => by have h2 := (rdSayOk_impl.1 hh).1; have h3 := (rdN_some (unhide Hh430)).2.2; rw [h3] at hz; simp at hz; omega))
      obtain ⟨yy, ty⟩ := fill6W (unhide X434) (.int .i64 0) (.int .i64 0) (.int .i64 0) (.string ⟨#[]⟩) (.int .i64 0) (.slice none 0 0)
      have y2 := ((unhide Y435).turn ty (by simp)).set 0 (.bool false) (by simp)
      simp only [List.set] at y2
      have t2 := (ty.mono (S' := [w.heap.size, w.heap.size + 1]) (by simp)).setCell (g := w.heap.size + 1) (by simp) 0 (.bool false)
      have x2 := yy.far (g' := w.heap.size + 1) 0 (.bool false) (by omega)
      have HP := hide (ret_noI (unhide HNO) ((unhide B436).trans (t2.below (unhide B436).size (by simp <;> omega))))
      have HX := hide x2
      have HY := hide y2
      have HY1 := hide ((unhide Y435).turn ty (by simp))
      clear yy ty y2 t2 x2
      obtain ⟨⟨c439, c440, c441, c442, c443, c444⟩, f445, f446, f447, f448, f449, f450⟩ := (unhide X434).sixW
      obtain ⟨c451, f452⟩ := (unhide Y435).oneW
      have c453 := (unhide RD431).c0
      have c454 := (unhide RD431).c1
      obtain ⟨u0, u1⟩ := (unhide HY1).oneW
      go_wp2_with fail
      obtain ⟨⟨j0, j1, j2, j3, j4, j5⟩, -⟩ := (unhide HX).sixW
      obtain ⟨i0, -⟩ := (unhide HY).oneW
      refine leaves_cons (f := 60) (args := #[.pointer (some ⟨w.heap.size, 0, none⟩), .pointer (some ⟨w.heap.size + 1, 0, none⟩)]) (by simp) (by simp [go_sem]) ?_
      refine (word_idle _ _ _).mono ?_
      rintro e u' w'' ⟨rfl, rfl, rfl⟩
      simp [Leaves, settle, results, Tryz.results40, go_sem, j0, j1, j2, j3, j4, j5, i0]
      exact unhide HP
    have hz0 : r428.length = 0 := by omega
    have HR2 := hide (show rr.length = 2 ∧ numL rr = xs from by have h3 := rdN_some (unhide Hh430); have h4 := h3.2.2; have h5 : rr.length = 2 := (by rw [h4] at hz0; simp at hz0; omega); exact ⟨h5, by rw [h3.2.1, List.take_of_length_le (by omega)]⟩)
    clear hz
    have HSS := hide (fun (W : World) (b : Below w.heap.size w W) => implSSum_any W (.slice a m cc) (bs.take m) (by simp; unfold maxLen; omega) (unhide HBT W b))
    rw [unhide HSUM] at HSS
    obtain rfl : r428 = [] := List.eq_nil_of_length_eq_zero hz0
    clear hz0
    obtain ⟨sm, hsm⟩ : ∃ sm, sm = saySum (sayBody (⟨2, xf, xt, nm, vl, vs⟩ : SayV)) := ⟨_, rfl⟩
    rw [← hsm] at HSS
    have HSM := hide hsm
    clear hsm
    by_cases hx : xs = sm
    rotate_left
    · have qx : (xs == sm) = false := by rw [beq_eq_false_iff_ne]; exact hx
      have qx2 : (xs != sm) = true := by simpa using hx
      have HNX := hide hx
      clear hx
      obtain ⟨⟨c455, c456, c457, c458, c459, c460⟩, f461, f462, f463, f464, f465, f466⟩ := (unhide X434).sixW
      obtain ⟨c467, f468⟩ := (unhide Y435).oneW
      have c469 := (unhide RD431).c0
      have c470 := (unhide RD431).c1
      go_wp2_with fail
      refine (unhide HSS _ (unhide B436)).mono ?_
      rintro e ws ⟨rfl, hw⟩
      rw [hw]
      clear hw c455 c456 c457 c458 c459 c460 f461 f462 f463 f464 f465 f466 c467 f468 c469 c470
      have HNO := hide (show sayRd bs = none from sayRd_no (unhide HRT) (fun hh => unhide HNX (by rw [unhide HSM, ← (rdSayOk_impl.1 hh).2.1, (unhide HR2).2])))
      obtain ⟨yy, ty⟩ := fill6W (unhide X434) (.int .i64 0) (.int .i64 0) (.int .i64 0) (.string ⟨#[]⟩) (.int .i64 0) (.slice none 0 0)
      have y2 := ((unhide Y435).turn ty (by simp)).set 0 (.bool false) (by simp)
      simp only [List.set] at y2
      have t2 := (ty.mono (S' := [w.heap.size, w.heap.size + 1]) (by simp)).setCell (g := w.heap.size + 1) (by simp) 0 (.bool false)
      have x2 := yy.far (g' := w.heap.size + 1) 0 (.bool false) (by omega)
      have HP := hide (ret_noI (unhide HNO) ((unhide B436).trans (t2.below (unhide B436).size (by simp <;> omega))))
      have HX := hide x2
      have HY := hide y2
      have HY1 := hide ((unhide Y435).turn ty (by simp))
      clear yy ty y2 t2 x2
      obtain ⟨⟨c471, c472, c473, c474, c475, c476⟩, f477, f478, f479, f480, f481, f482⟩ := (unhide X434).sixW
      obtain ⟨c483, f484⟩ := (unhide Y435).oneW
      have c485 := (unhide RD431).c0
      have c486 := (unhide RD431).c1
      obtain ⟨u0, u1⟩ := (unhide HY1).oneW
      go_wp2_with fail
      obtain ⟨⟨j0, j1, j2, j3, j4, j5⟩, -⟩ := (unhide HX).sixW
      obtain ⟨i0, -⟩ := (unhide HY).oneW
      refine leaves_cons (f := 60) (args := #[.pointer (some ⟨w.heap.size, 0, none⟩), .pointer (some ⟨w.heap.size + 1, 0, none⟩)]) (by simp) (by simp [go_sem]) ?_
      refine (word_idle _ _ _).mono ?_
      rintro e u' w'' ⟨rfl, rfl, rfl⟩
      simp [Leaves, settle, results, Tryz.results40, go_sem, j0, j1, j2, j3, j4, j5, i0]
      exact unhide HP
    subst hx
    obtain ⟨⟨c487, c488, c489, c490, c491, c492⟩, f493, f494, f495, f496, f497, f498⟩ := (unhide X434).sixW
    obtain ⟨c499, f500⟩ := (unhide Y435).oneW
    have c501 := (unhide RD431).c0
    have c502 := (unhide RD431).c1
    go_wp2_with fail
    refine (unhide HSS _ (unhide B436)).mono ?_
    rintro e ws ⟨rfl, hw⟩
    rw [hw]
    clear hw c487 c488 c489 c490 c491 c492 f493 f494 f495 f496 f497 f498 c499 f500 c501 c502
    obtain ⟨⟨c503, c504, c505, c506, c507, c508⟩, f509, f510, f511, f512, f513, f514⟩ := (unhide X434).sixW
    obtain ⟨c515, f516⟩ := (unhide Y435).oneW
    have c517 := (unhide RD431).c0
    have c518 := (unhide RD431).c1
    go_wp2_with fail
    clear c503 c504 c505 c506 c507 c508 f509 f510 f511 f512 f513 f514 c515 f516 c517 c518
    refine (implSayOk_any (⟨2, xf, xt, nm, vl, vs⟩ : SayV) _ w427 (rdSay_small (unhide HRT)) ⟨_, rfl, (unhide VV437).rd⟩).mono ?_
    rintro e wo ⟨rfl, bo⟩
    have RDo := hide ((unhide RD431).upW bo)
    have Xo := hide ((unhide X434).up bo)
    have Yo := hide ((unhide Y435).up bo)
    have Bo := hide ((unhide B436).trans (bo.mono (unhide B436).size))
    have Vo := hide ((unhide VV437).up bo)
    clear bo RD431 X434 Y435 B436
    cases hok : sayOkB (⟨2, xf, xt, nm, vl, vs⟩ : SayV)
    · have hn : ¬ rdSayOk (⟨2, xf, xt, nm, vl, vs⟩ : SayV) rr := fun h => by rw [h.1] at hok; cases hok
      clear hok
      have HNO := hide (show sayRd bs = none from sayRd_no (unhide HRT) hn)
      obtain ⟨yy, ty⟩ := fill6W (unhide Xo) (.int .i64 0) (.int .i64 0) (.int .i64 0) (.string ⟨#[]⟩) (.int .i64 0) (.slice none 0 0)
      have y2 := ((unhide Yo).turn ty (by simp)).set 0 (.bool false) (by simp)
      simp only [List.set] at y2
      have t2 := (ty.mono (S' := [w.heap.size, w.heap.size + 1]) (by simp)).setCell (g := w.heap.size + 1) (by simp) 0 (.bool false)
      have x2 := yy.far (g' := w.heap.size + 1) 0 (.bool false) (by omega)
      have HP := hide (ret_noI (unhide HNO) ((unhide Bo).trans (t2.below (unhide Bo).size (by simp <;> omega))))
      have HX := hide x2
      have HY := hide y2
      have HY1 := hide ((unhide Yo).turn ty (by simp))
      clear yy ty y2 t2 x2
      obtain ⟨⟨c519, c520, c521, c522, c523, c524⟩, f525, f526, f527, f528, f529, f530⟩ := (unhide Xo).sixW
      obtain ⟨c531, f532⟩ := (unhide Yo).oneW
      have c533 := (unhide RDo).c0
      have c534 := (unhide RDo).c1
      obtain ⟨u0, u1⟩ := (unhide HY1).oneW
      go_wp2_with fail
      obtain ⟨⟨j0, j1, j2, j3, j4, j5⟩, -⟩ := (unhide HX).sixW
      obtain ⟨i0, -⟩ := (unhide HY).oneW
      refine leaves_cons (f := 60) (args := #[.pointer (some ⟨w.heap.size, 0, none⟩), .pointer (some ⟨w.heap.size + 1, 0, none⟩)]) (by simp) (by simp [go_sem]) ?_
      refine (word_idle _ _ _).mono ?_
      rintro e u' w'' ⟨rfl, rfl, rfl⟩
      simp [Leaves, settle, results, Tryz.results40, go_sem, j0, j1, j2, j3, j4, j5, i0]
      exact unhide HP
    have HYES := hide (show sayRd bs = some (⟨2, xf, xt, nm, vl, vs⟩ : SayV) from sayRd_yes hl (unhide HRT) (rdSayOk_impl.2 ⟨(unhide HR2).1, by rw [(unhide HR2).2, unhide HSM], hok⟩))
    clear hok
    obtain ⟨yy, ty⟩ := fill6W (unhide Xo) (.int .i64 2) (.int .i64 xf) (.int .i64 xt) (.string nm) (.int .i64 vl) (.slice sa sn sc)
    have y2 := ((unhide Yo).turn ty (by simp)).set 0 (.bool true) (by simp)
    simp only [List.set] at y2
    have t2 := (ty.mono (S' := [w.heap.size, w.heap.size + 1]) (by simp)).setCell (g := w.heap.size + 1) (by simp) 0 (.bool true)
    have x2 := yy.far (g' := w.heap.size + 1) 0 (.bool true) (by omega)
    have HO := hide (show ∀ WF, Turn [w.heap.size, w.heap.size + 1] wo WF → ∃ S, VerOwn S WF (.slice sa sn sc) ((⟨2, xf, xt, nm, vl, vs⟩ : SayV)).stamp ∧ ∀ k ∈ S, w.heap.size ≤ k from fun WF t => by obtain ⟨S, o1, o2, _⟩ := ((unhide Vo).keep (w' := WF) (fun g hg => t.block g ((unhide Vo).lt g hg) (by have := unhide VG g hg; simp <;> omega))).own; exact ⟨S, o1, fun k hk => Nat.le_trans (by have := unhide HVG; omega) (o2 k hk)⟩)
    have HP := hide (show RetRdI bs w (.returned (.tuple #[.agg #[.int .i64 2, .int .i64 xf, .int .i64 xt, .string nm, .int .i64 vl, .slice sa sn sc], .bool true])) _ from by obtain ⟨S, o1, o2⟩ := unhide HO _ t2; exact ⟨_, S, by rw [unhide HYES]; rfl, hide (by rw [unhide HYES]; exact ⟨_, rfl, o1⟩), hide o2, (unhide Bo).trans (t2.below (unhide Bo).size (by simp <;> omega))⟩)
    have HX := hide x2
    have HY := hide y2
    have HY1 := hide ((unhide Yo).turn ty (by simp))
    clear yy ty y2 t2 x2
    obtain ⟨⟨c535, c536, c537, c538, c539, c540⟩, f541, f542, f543, f544, f545, f546⟩ := (unhide Xo).sixW
    obtain ⟨c547, f548⟩ := (unhide Yo).oneW
    have c549 := (unhide RDo).c0
    have c550 := (unhide RDo).c1
    obtain ⟨u0, u1⟩ := (unhide HY1).oneW
    go_wp2_with fail
    obtain ⟨⟨j0, j1, j2, j3, j4, j5⟩, -⟩ := (unhide HX).sixW
    obtain ⟨i0, -⟩ := (unhide HY).oneW
    refine leaves_cons (f := 60) (args := #[.pointer (some ⟨w.heap.size, 0, none⟩), .pointer (some ⟨w.heap.size + 1, 0, none⟩)]) (by simp) (by simp [go_sem]) ?_
    refine (word_idle _ _ _).mono ?_
    rintro e u' w'' ⟨rfl, rfl, rfl⟩
    simp [Leaves, settle, results, Tryz.results40, go_sem, j0, j1, j2, j3, j4, j5, i0]
    exact unhide HP
  have HKV : sayKind xk = .nilIface := by unfold sayKind; rw [if_neg (by assumption), if_neg (by assumption), if_neg (by assumption)]
  rw [HKV]
  clear HKV
  have HRT := hide (show rdSay bs = some ((⟨xk, xf, xt, nm, 0, []⟩ : SayV), r101) from by rw [unhide HRS]; unfold rdTail; rw [if_neg (by assumption)]; rfl)
  obtain ⟨ra, rc, hrv⟩ := (unhide RD131).by'.len
  subst hrv
  have hbk := (rdSay_back (unhide HRT)).1
  have hRl : r101.length ≤ bs.length := by have := congrArg List.length hbk; rw [List.length_append] at this; omega
  obtain ⟨m, hm⟩ : ∃ m, m = bs.length - r101.length := ⟨_, rfl⟩
  have hsb : (bs.length : Int) - (r101.length : Int) = (m : Int) := by omega
  have hmb : m ≤ bs.length := by omega
  have HSUM := hide (show bs.take m = sayBody (⟨xk, xf, xt, nm, 0, []⟩ : SayV) from by
    have hl2 : m = (sayBody (⟨xk, xf, xt, nm, 0, []⟩ : SayV)).length := by have := congrArg List.length hbk; rw [List.length_append] at this; omega
    rw [hl2]
    conv => lhs; rw [hbk]
    rw [List.take_left])
  have HBT := hide (fun (W : World) (b : Below w.heap.size w W) => by_cutW ((unhide HBY).up b) hmb)
  clear hbk hRl hm
  obtain ⟨⟨c551, c552, c553, c554, c555, c556⟩, f557, f558, f559, f560, f561, f562⟩ := (unhide X129).sixW
  obtain ⟨c563, f564⟩ := (unhide Y130).oneW
  have c565 := (unhide RD131).c0
  have c566 := (unhide RD131).c1
  have hmc : m ≤ cc := by omega
  go_wp2_with fail
  clear c551 c552 c553 c554 c555 c556 f557 f558 f559 f560 f561 f562 c563 f564 c565 c566
  refine (wnum_any w.heap.size (w.heap.size + 2) W128 (.slice ra r101.length rc) r101 2 (by omega) (unhide L110) (unhide RD131)).mono ?_
  rintro e w567 (⟨xs, r568, v569, h570, rfl, RD571, T572⟩ | ⟨h570, rfl, T572⟩)
  rotate_left
  · have XG := hide ((unhide X129).turn (unhide T572) (by simp <;> omega))
    have YG := hide ((unhide Y130).turn (unhide T572) (by simp <;> omega))
    have BG := hide ((unhide B132).trans ((unhide T572).below (unhide B132).size (by simp <;> omega)))
    have HNO := hide (show sayRd bs = none from sayRd_no (unhide HRT) (fun hh => by have h2 := (rdSayOk_impl.1 hh).1; unfold rdN at h570; rw [if_pos (by omega)] at h570; cases h570))
    refine leaves_cons (f := 60) (args := #[.pointer (some ⟨w.heap.size, 0, none⟩), .pointer (some ⟨w.heap.size + 1, 0, none⟩)]) (by simp) (by simp [go_sem]) ?_
    refine (word_short w.heap.size (w.heap.size + 1) _ w567 ⟨_, _, _, _, _, _, unhide XG⟩ (unhide YG) (by omega)).mono ?_
    rintro e u' w'' ⟨rfl, rfl, PP⟩
    obtain ⟨pa, pb, pc⟩ := unhide PP
    have HP := hide (ret_noI (unhide HNO) ((unhide BG).trans (pc.below (unhide BG).size (by simp <;> omega))))
    obtain ⟨⟨y0, y1, y2, y3, y4, y5⟩, -⟩ := pa.sixW
    obtain ⟨z0, -⟩ := pb.oneW
    clear pa pb pc PP
    simp [Leaves, settle, results, Tryz.results40, go_sem, y0, y1, y2, y3, y4, y5, z0]
    exact unhide HP
  have X574 := hide ((unhide X129).turn (unhide T572) (by simp <;> omega))
  have Y575 := hide ((unhide Y130).turn (unhide T572) (by simp <;> omega))
  have B576 := hide ((unhide B132).trans ((unhide T572).below (unhide B132).size (by simp <;> omega)))
  clear X129 Y130 B132
  have L577 := hide (show r568.length ≤ 1048576 by have := (rdN_some h570).2.2; have := unhide L110; rw [‹r568 = _›]; simp; omega)
  have Hh570 := hide h570
  clear h570 T572 RD131 L110
  obtain ⟨rb, rd, hrv2⟩ := (unhide RD571).by'.len
  subst hrv2
  by_cases hz : 0 < r568.length
  · have hz' : 0 < (r568.length : Int) := by omega
    have HNO := hide (show sayRd bs = none from sayRd_no (unhide HRT) (fun hh => by have h2 := (rdSayOk_impl.1 hh).1; have h3 := (rdN_some (unhide Hh570)).2.2; rw [h3] at hz; simp at hz; omega))
    obtain ⟨yy, ty⟩ := fill6W (unhide X574) (.int .i64 0) (.int .i64 0) (.int .i64 0) (.string ⟨#[]⟩) (.int .i64 0) (.slice none 0 0)
    have y2 := ((unhide Y575).turn ty (by simp)).set 0 (.bool false) (by simp)
    simp only [List.set] at y2
    have t2 := (ty.mono (S' := [w.heap.size, w.heap.size + 1]) (by simp)).setCell (g := w.heap.size + 1) (by simp) 0 (.bool false)
    have x2 := yy.far (g' := w.heap.size + 1) 0 (.bool false) (by omega)
    have HP := hide (ret_noI (unhide HNO) ((unhide B576).trans (t2.below (unhide B576).size (by simp <;> omega))))
    have HX := hide x2
    have HY := hide y2
    have HY1 := hide ((unhide Y575).turn ty (by simp))
    clear yy ty y2 t2 x2
    obtain ⟨⟨c578, c579, c580, c581, c582, c583⟩, f584, f585, f586, f587, f588, f589⟩ := (unhide X574).sixW
    obtain ⟨c590, f591⟩ := (unhide Y575).oneW
    have c592 := (unhide RD571).c0
    have c593 := (unhide RD571).c1
    obtain ⟨u0, u1⟩ := (unhide HY1).oneW
    go_wp2_with fail
    obtain ⟨⟨j0, j1, j2, j3, j4, j5⟩, -⟩ := (unhide HX).sixW
    obtain ⟨i0, -⟩ := (unhide HY).oneW
    refine leaves_cons (f := 60) (args := #[.pointer (some ⟨w.heap.size, 0, none⟩), .pointer (some ⟨w.heap.size + 1, 0, none⟩)]) (by simp) (by simp [go_sem]) ?_
    refine (word_idle _ _ _).mono ?_
    rintro e u' w'' ⟨rfl, rfl, rfl⟩
    simp [Leaves, settle, results, Tryz.results40, go_sem, j0, j1, j2, j3, j4, j5, i0]
    exact unhide HP
  have hz0 : r568.length = 0 := by omega
  have HR2 := hide (show r101.length = 2 ∧ numL r101 = xs from by have h3 := rdN_some (unhide Hh570); have h4 := h3.2.2; have h5 : r101.length = 2 := (by rw [h4] at hz0; simp at hz0; omega); exact ⟨h5, by rw [h3.2.1, List.take_of_length_le (by omega)]⟩)
  clear hz
  have HSS := hide (fun (W : World) (b : Below w.heap.size w W) => implSSum_any W (.slice a m cc) (bs.take m) (by simp; unfold maxLen; omega) (unhide HBT W b))
  rw [unhide HSUM] at HSS
  obtain rfl : r568 = [] := List.eq_nil_of_length_eq_zero hz0
  clear hz0
  obtain ⟨sm, hsm⟩ : ∃ sm, sm = saySum (sayBody (⟨xk, xf, xt, nm, 0, []⟩ : SayV)) := ⟨_, rfl⟩
  rw [← hsm] at HSS
  have HSM := hide hsm
  clear hsm
  by_cases hx : xs = sm
  rotate_left
  · have qx : (xs == sm) = false := by rw [beq_eq_false_iff_ne]; exact hx
    have qx2 : (xs != sm) = true := by simpa using hx
    have HNX := hide hx
    clear hx
    obtain ⟨⟨c594, c595, c596, c597, c598, c599⟩, f600, f601, f602, f603, f604, f605⟩ := (unhide X574).sixW
    obtain ⟨c606, f607⟩ := (unhide Y575).oneW
    have c608 := (unhide RD571).c0
    have c609 := (unhide RD571).c1
    go_wp2_with fail
    refine (unhide HSS _ (unhide B576)).mono ?_
    rintro e ws ⟨rfl, hw⟩
    rw [hw]
    clear hw c594 c595 c596 c597 c598 c599 f600 f601 f602 f603 f604 f605 c606 f607 c608 c609
    have HNO := hide (show sayRd bs = none from sayRd_no (unhide HRT) (fun hh => unhide HNX (by rw [unhide HSM, ← (rdSayOk_impl.1 hh).2.1, (unhide HR2).2])))
    obtain ⟨yy, ty⟩ := fill6W (unhide X574) (.int .i64 0) (.int .i64 0) (.int .i64 0) (.string ⟨#[]⟩) (.int .i64 0) (.slice none 0 0)
    have y2 := ((unhide Y575).turn ty (by simp)).set 0 (.bool false) (by simp)
    simp only [List.set] at y2
    have t2 := (ty.mono (S' := [w.heap.size, w.heap.size + 1]) (by simp)).setCell (g := w.heap.size + 1) (by simp) 0 (.bool false)
    have x2 := yy.far (g' := w.heap.size + 1) 0 (.bool false) (by omega)
    have HP := hide (ret_noI (unhide HNO) ((unhide B576).trans (t2.below (unhide B576).size (by simp <;> omega))))
    have HX := hide x2
    have HY := hide y2
    have HY1 := hide ((unhide Y575).turn ty (by simp))
    clear yy ty y2 t2 x2
    obtain ⟨⟨c610, c611, c612, c613, c614, c615⟩, f616, f617, f618, f619, f620, f621⟩ := (unhide X574).sixW
    obtain ⟨c622, f623⟩ := (unhide Y575).oneW
    have c624 := (unhide RD571).c0
    have c625 := (unhide RD571).c1
    obtain ⟨u0, u1⟩ := (unhide HY1).oneW
    go_wp2_with fail
    obtain ⟨⟨j0, j1, j2, j3, j4, j5⟩, -⟩ := (unhide HX).sixW
    obtain ⟨i0, -⟩ := (unhide HY).oneW
    refine leaves_cons (f := 60) (args := #[.pointer (some ⟨w.heap.size, 0, none⟩), .pointer (some ⟨w.heap.size + 1, 0, none⟩)]) (by simp) (by simp [go_sem]) ?_
    refine (word_idle _ _ _).mono ?_
    rintro e u' w'' ⟨rfl, rfl, rfl⟩
    simp [Leaves, settle, results, Tryz.results40, go_sem, j0, j1, j2, j3, j4, j5, i0]
    exact unhide HP
  subst hx
  obtain ⟨⟨c626, c627, c628, c629, c630, c631⟩, f632, f633, f634, f635, f636, f637⟩ := (unhide X574).sixW
  obtain ⟨c638, f639⟩ := (unhide Y575).oneW
  have c640 := (unhide RD571).c0
  have c641 := (unhide RD571).c1
  go_wp2_with fail
  refine (unhide HSS _ (unhide B576)).mono ?_
  rintro e ws ⟨rfl, hw⟩
  rw [hw]
  clear hw c626 c627 c628 c629 c630 c631 f632 f633 f634 f635 f636 f637 c638 f639 c640 c641
  obtain ⟨⟨c642, c643, c644, c645, c646, c647⟩, f648, f649, f650, f651, f652, f653⟩ := (unhide X574).sixW
  obtain ⟨c654, f655⟩ := (unhide Y575).oneW
  have c656 := (unhide RD571).c0
  have c657 := (unhide RD571).c1
  go_wp2_with fail
  clear c642 c643 c644 c645 c646 c647 f648 f649 f650 f651 f652 f653 c654 f655 c656 c657
  refine (implSayOk_any (⟨xk, xf, xt, nm, 0, []⟩ : SayV) _ w567 (rdSay_small (unhide HRT)) ⟨_, rfl, ⟨none, 0, rfl, .inl rfl⟩⟩).mono ?_
  rintro e wo ⟨rfl, bo⟩
  have RDo := hide ((unhide RD571).upW bo)
  have Xo := hide ((unhide X574).up bo)
  have Yo := hide ((unhide Y575).up bo)
  have Bo := hide ((unhide B576).trans (bo.mono (unhide B576).size))
  clear bo RD571 X574 Y575 B576
  cases hok : sayOkB (⟨xk, xf, xt, nm, 0, []⟩ : SayV)
  · have hn : ¬ rdSayOk (⟨xk, xf, xt, nm, 0, []⟩ : SayV) r101 := fun h => by rw [h.1] at hok; cases hok
    clear hok
    have HNO := hide (show sayRd bs = none from sayRd_no (unhide HRT) hn)
    obtain ⟨yy, ty⟩ := fill6W (unhide Xo) (.int .i64 0) (.int .i64 0) (.int .i64 0) (.string ⟨#[]⟩) (.int .i64 0) (.slice none 0 0)
    have y2 := ((unhide Yo).turn ty (by simp)).set 0 (.bool false) (by simp)
    simp only [List.set] at y2
    have t2 := (ty.mono (S' := [w.heap.size, w.heap.size + 1]) (by simp)).setCell (g := w.heap.size + 1) (by simp) 0 (.bool false)
    have x2 := yy.far (g' := w.heap.size + 1) 0 (.bool false) (by omega)
    have HP := hide (ret_noI (unhide HNO) ((unhide Bo).trans (t2.below (unhide Bo).size (by simp <;> omega))))
    have HX := hide x2
    have HY := hide y2
    have HY1 := hide ((unhide Yo).turn ty (by simp))
    clear yy ty y2 t2 x2
    obtain ⟨⟨c658, c659, c660, c661, c662, c663⟩, f664, f665, f666, f667, f668, f669⟩ := (unhide Xo).sixW
    obtain ⟨c670, f671⟩ := (unhide Yo).oneW
    have c672 := (unhide RDo).c0
    have c673 := (unhide RDo).c1
    obtain ⟨u0, u1⟩ := (unhide HY1).oneW
    go_wp2_with fail
    obtain ⟨⟨j0, j1, j2, j3, j4, j5⟩, -⟩ := (unhide HX).sixW
    obtain ⟨i0, -⟩ := (unhide HY).oneW
    refine leaves_cons (f := 60) (args := #[.pointer (some ⟨w.heap.size, 0, none⟩), .pointer (some ⟨w.heap.size + 1, 0, none⟩)]) (by simp) (by simp [go_sem]) ?_
    refine (word_idle _ _ _).mono ?_
    rintro e u' w'' ⟨rfl, rfl, rfl⟩
    simp [Leaves, settle, results, Tryz.results40, go_sem, j0, j1, j2, j3, j4, j5, i0]
    exact unhide HP
  have HYES := hide (show sayRd bs = some (⟨xk, xf, xt, nm, 0, []⟩ : SayV) from sayRd_yes hl (unhide HRT) (rdSayOk_impl.2 ⟨(unhide HR2).1, by rw [(unhide HR2).2, unhide HSM], hok⟩))
  clear hok
  obtain ⟨yy, ty⟩ := fill6W (unhide Xo) (.int .i64 xk) (.int .i64 xf) (.int .i64 xt) (.string nm) (.int .i64 0) (.slice none 0 0)
  have y2 := ((unhide Yo).turn ty (by simp)).set 0 (.bool true) (by simp)
  simp only [List.set] at y2
  have t2 := (ty.mono (S' := [w.heap.size, w.heap.size + 1]) (by simp)).setCell (g := w.heap.size + 1) (by simp) 0 (.bool true)
  have x2 := yy.far (g' := w.heap.size + 1) 0 (.bool true) (by omega)
  have HO := hide (show ∀ WF, Turn [w.heap.size, w.heap.size + 1] wo WF → ∃ S, VerOwn S WF (.slice none 0 0) ((⟨xk, xf, xt, nm, 0, []⟩ : SayV)).stamp ∧ ∀ k ∈ S, w.heap.size ≤ k from fun WF t => ⟨[], .inl ⟨rfl, rfl, none, 0, rfl⟩, by simp⟩)
  have HP := hide (show RetRdI bs w (.returned (.tuple #[.agg #[.int .i64 xk, .int .i64 xf, .int .i64 xt, .string nm, .int .i64 0, .slice none 0 0], .bool true])) _ from by obtain ⟨S, o1, o2⟩ := unhide HO _ t2; exact ⟨_, S, by rw [unhide HYES]; rfl, hide (by rw [unhide HYES]; exact ⟨_, rfl, o1⟩), hide o2, (unhide Bo).trans (t2.below (unhide Bo).size (by simp <;> omega))⟩)
  have HX := hide x2
  have HY := hide y2
  have HY1 := hide ((unhide Yo).turn ty (by simp))
  clear yy ty y2 t2 x2
  obtain ⟨⟨c674, c675, c676, c677, c678, c679⟩, f680, f681, f682, f683, f684, f685⟩ := (unhide Xo).sixW
  obtain ⟨c686, f687⟩ := (unhide Yo).oneW
  have c688 := (unhide RDo).c0
  have c689 := (unhide RDo).c1
  obtain ⟨u0, u1⟩ := (unhide HY1).oneW
  go_wp2_with fail
  obtain ⟨⟨j0, j1, j2, j3, j4, j5⟩, -⟩ := (unhide HX).sixW
  obtain ⟨i0, -⟩ := (unhide HY).oneW
  refine leaves_cons (f := 60) (args := #[.pointer (some ⟨w.heap.size, 0, none⟩), .pointer (some ⟨w.heap.size + 1, 0, none⟩)]) (by simp) (by simp [go_sem]) ?_
  refine (word_idle _ _ _).mono ?_
  rintro e u' w'' ⟨rfl, rfl, rfl⟩
  simp [Leaves, settle, results, Tryz.results40, go_sem, j0, j1, j2, j3, j4, j5, i0]
  exact unhide HP
end Go.Proofs.YtiebfcefmdiajaaGreatDoor
