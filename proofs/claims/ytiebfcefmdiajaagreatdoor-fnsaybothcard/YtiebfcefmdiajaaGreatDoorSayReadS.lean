/-
  The specification's SayRead. (Made by wip/mksayread.py.)
-/
import Derived.Test.YtiebfcefmdiajaaGreatDoorSayTrack
import Derived.Test.YtiebfcefmdiajaaGreatDoorSayBytesS
import Derived.Test.YtiebfcefmdiajaaGreatDoorMerged14
import Derived.Test.YtiebfcefmdiajaaGreatDoorMerged7
set_option linter.unusedVariables false
namespace Go.Proofs.YtiebfcefmdiajaaGreatDoor
open Go.RowKit Go.Maps Go.Deep

def RetRdS (bs : List UInt8) (w : World) (e : Ending) (w' : World) : Prop := ∃ v S, e = .returned (.tuple #[v, .bool (sayRd bs).isSome]) ∧ Hid (SayOwn S w' v ((sayRd bs).getD noSay)) ∧ Hid (∀ k ∈ S, w.heap.size ≤ k) ∧ Below w.heap.size w w'
theorem BoxF.six {w : World} {g : Nat} {a b c d e f : Value} (h : BoxF w g [a, b, c, d, e, f]) : (w.cell? ⟨g, 0, none⟩ = some a ∧ w.cell? ⟨g, 1, none⟩ = some b ∧ w.cell? ⟨g, 2, none⟩ = some c ∧ w.cell? ⟨g, 3, none⟩ = some d ∧ w.cell? ⟨g, 4, none⟩ = some e ∧ w.cell? ⟨g, 5, none⟩ = some f) ∧ (w.frozen? ⟨g, 0, none⟩ = false ∧ w.frozen? ⟨g, 1, none⟩ = false ∧ w.frozen? ⟨g, 2, none⟩ = false ∧ w.frozen? ⟨g, 3, none⟩ = false ∧ w.frozen? ⟨g, 4, none⟩ = false ∧ w.frozen? ⟨g, 5, none⟩ = false) :=
  ⟨h.1.six, h.2 0 (by simp), h.2 1 (by simp), h.2 2 (by simp), h.2 3 (by simp), h.2 4 (by simp), h.2 5 (by simp)⟩
theorem fill6 {w : World} {g : Nat} {z0 z1 z2 z3 z4 z5 : Value} (h : BoxF w g [z0, z1, z2, z3, z4, z5]) (a b c d e f : Value) :
    BoxF ((((((w.setCell ⟨g, 0, none⟩ a).setCell ⟨g, 1, none⟩ b).setCell ⟨g, 2, none⟩ c).setCell ⟨g, 3, none⟩ d).setCell ⟨g, 4, none⟩ e).setCell ⟨g, 5, none⟩ f) g [a, b, c, d, e, f] ∧ Turn [g] w ((((((w.setCell ⟨g, 0, none⟩ a).setCell ⟨g, 1, none⟩ b).setCell ⟨g, 2, none⟩ c).setCell ⟨g, 3, none⟩ d).setCell ⟨g, 4, none⟩ e).setCell ⟨g, 5, none⟩ f) := by
  have h0 := h.set 0 a (by simp)
  have h1 := h0.set 1 b (by simp)
  have h2 := h1.set 2 c (by simp)
  have h3 := h2.set 3 d (by simp)
  have h4 := h3.set 4 e (by simp)
  have h5 := h4.set 5 f (by simp)
  simp only [List.set] at h5
  exact ⟨h5, ((((((Turn.refl _ _).setCell (by simp) _ _).setCell (by simp) _ _).setCell (by simp) _ _).setCell (by simp) _ _).setCell (by simp) _ _).setCell (by simp) _ _⟩
theorem ret_noS {bs : List UInt8} {w W : World} (h : sayRd bs = none) (b : Below w.heap.size w W) : RetRdS bs w (.returned (.tuple #[.agg #[.int .i64 0, .int .i64 0, .int .i64 0, .string ⟨#[]⟩, .int .i64 0, .slice none 0 0], .bool false])) W :=
  ⟨_, [], by rw [h]; rfl, hide (by rw [h]; exact ⟨_, rfl, .inl ⟨rfl, rfl, none, 0, rfl⟩⟩), hide (by simp), b⟩
theorem bytes_neq {s t : ByteArray} (h : s ≠ t) : (s.toList == t.toList) = false := by
  rw [str_same]
  exact decide_eq_false h
theorem bfTwo {w : World} {g : Nat} {a b : Value} (h : BoxF w g [a, b]) : (w.cell? ⟨g, 0, none⟩ = some a ∧ w.cell? ⟨g, 1, none⟩ = some b) ∧ (w.frozen? ⟨g, 0, none⟩ = false ∧ w.frozen? ⟨g, 1, none⟩ = false) :=
  ⟨h.1.two, h.2 0 (by simp), h.2 1 (by simp)⟩
theorem sr_new {w W : World} {v : Value} {bs : List UInt8} (h : ByRd w v bs) (b : Below w.heap.size w W) (hb : BoxF W (w.heap.size + 1) [v, .int .i64 0, .bool false]) : SR w.heap.size (w.heap.size + 1) W v bs 0 false :=
  ⟨by omega, hb, h.up b, fun a m c e h1 => by
    obtain ⟨a', c', e', hin, _⟩ := h
    rw [e'] at e
    simp only [Value.slice.injEq] at e
    rcases hin with h0 | ⟨b, off, e2, hb, _⟩
    · rw [h0] at h1; simp at h1
    · have e3 := e.1.symm.trans e2
      simp only [Option.some.injEq] at e3
      rw [e3]
      exact hb, by omega⟩
set_option maxHeartbeats 12800000 in
theorem specSayRead_any (bs : List UInt8) (v : Value) (w : World) (hl : bs.length ≤ 260) (h : ByRd w v bs) : Calls Tryz.prog 19 #[v] w fun e w' => RetRdS bs w e w' := by
  obtain ⟨a, cc, rfl⟩ := h.len
  have HBY := hide h
  have hl' : ¬ 260 < (bs.length : Int) := by omega
  have R0 := hide ((boxF_new w [.int .i64 0, .int .i64 0, .int .i64 0, .string ⟨#[]⟩, .int .i64 0, .slice none 0 0] 24).up ((Below.refl _ _).alloc (Nat.le_refl _) (.cells #[.slice a bs.length cc, .int .i64 0, .bool false] 64)))
  have B0 := hide (((Below.refl w.heap.size w).alloc (Nat.le_refl _) (.cells #[.int .i64 0, .int .i64 0, .int .i64 0, .string ⟨#[]⟩, .int .i64 0, .slice none 0 0] 24)).alloc (by simp) (.cells #[.slice a bs.length cc, .int .i64 0, .bool false] 64))
  have X0 := boxF_new (w.alloc (.cells #[.int .i64 0, .int .i64 0, .int .i64 0, .string ⟨#[]⟩, .int .i64 0, .slice none 0 0] 24)) [.slice a bs.length cc, .int .i64 0, .bool false] 64
  rw [show (w.alloc (.cells #[.int .i64 0, .int .i64 0, .int .i64 0, .string ⟨#[]⟩, .int .i64 0, .slice none 0 0] 24)).heap.size = w.heap.size + 1 by simp] at X0
  have S0 := hide (sr_new h (unhide B0) X0)
  have K0 := hide (show Track (rdSay bs) false ((rdN 1 (bs.drop 0)).bind fun k => (rdN 1 k.2).bind fun f => (rdN 1 f.2).bind fun t => (rdT t.2).bind fun nm => (rdTail k.1 nm.2).bind fun q => some (⟨k.1, f.1, t.1, nm.1, q.1.1, q.1.2⟩, q.2)) from .inl ⟨rfl, rfl⟩)
  have HG := hide (show w.heap.size < w.heap.size + 1 by omega)
  clear h X0
  go_enter Tryz.func19, Tryz.ntmps19
  go_wp2_with fail
  simp only [List.toArray] at R0
  generalize (w.alloc (.cells #[.int .i64 0, .int .i64 0, .int .i64 0, .string ⟨#[]⟩, .int .i64 0, .slice none 0 0] 24)).alloc (.cells #[.slice a bs.length cc, .int .i64 0, .bool false] 64) = W0 at *
  refine (number_any w.heap.size (w.heap.size + 1) W0 (.slice a bs.length cc) bs 0 false 1 (by omega) (by omega) (by omega) (unhide S0)).mono ?_
  rintro e w1 ⟨xk, p2, bad3, rfl, H5, S6, T4⟩
  have K7 := hide (track_num (unhide S0).at' (unhide H5) (unhide K0))
  have R8 := hide ((unhide R0).turn (unhide T4) (by have := unhide HG; simp <;> omega))
  have B9 := hide ((unhide B0).trans ((unhide T4).below (unhide B0).size (by have := unhide HG; simp <;> omega)))
  clear R0 S0 B0
  clear T4
  obtain ⟨gs, hgs⟩ : ∃ gs, gs = w1.heap.size := ⟨_, rfl⟩
  have HG := hide (show w.heap.size + 1 < gs by have := (unhide S6).box.1.1; omega)
  have bA := (Below.refl w1.heap.size w1).alloc (Nat.le_refl _) (.cells #[.int .i64 xk, .int .i64 0, .int .i64 0, .string ⟨#[]⟩, .int .i64 0, .slice none 0 0] 24)
  have XS := boxF_new w1 [.int .i64 xk, .int .i64 0, .int .i64 0, .string ⟨#[]⟩, .int .i64 0, .slice none 0 0] 24
  rw [← hgs] at XS
  have X1 := hide XS
  have RA := hide ((unhide R8).up bA)
  have SA := hide ((unhide S6).up bA)
  have BA := hide ((unhide B9).trans (bA.mono (unhide B9).size))
  go_wp2_with fail
  simp only [List.toArray] at X1
  rw [← hgs]
  generalize w1.alloc (.cells #[.int .i64 xk, .int .i64 0, .int .i64 0, .string ⟨#[]⟩, .int .i64 0, .slice none 0 0] 24) = WA at *
  clear hgs bA XS
  refine (number_any w.heap.size (w.heap.size + 1) WA (.slice a bs.length cc) bs p2 bad3 1 (by omega) (by omega) (by omega) (unhide SA)).mono ?_
  rintro e w10 ⟨xf, p11, bad12, rfl, H14, S15, T13⟩
  have K16 := hide (track_num (unhide SA).at' (unhide H14) (unhide K7))
  have R17 := hide ((unhide RA).turn (unhide T13) (by have := unhide HG; simp <;> omega))
  have X18 := hide ((unhide X1).turn (unhide T13) (by have := unhide HG; simp <;> omega))
  have B19 := hide ((unhide BA).trans ((unhide T13).below (unhide BA).size (by have := unhide HG; simp <;> omega)))
  clear RA SA BA X1
  clear T13
  obtain ⟨⟨c0, c1, c2, c3, c4, c5⟩, f0, f1, f2, f3, f4, f5⟩ := (unhide X18).six
  go_wp2_with fail
  clear c0 c1 c2 c3 c4 c5 f0 f1 f2 f3 f4 f5
  have T20 := (Turn.refl [gs] w10).setCell (g := gs) (by simp) 1 (.int .i64 xf)
  have X22 := hide ((unhide X18).set 1 (.int .i64 xf) (by simp))
  have R23 := hide ((unhide R17).turn T20 (by have := unhide HG; simp <;> omega))
  have S24 := hide ((unhide S15).turn T20 (by have := unhide HG; simp <;> omega) (by have := unhide HG; simp <;> omega))
  have B25 := hide ((unhide B19).trans (T20.below (unhide B19).size (by have := unhide HG; simp <;> omega)))
  clear R17 S15 B19
  simp only [List.set] at X22
  clear T20
  generalize w10.setCell ⟨gs, 1, none⟩ (.int .i64 xf) = W21 at *
  refine (number_any w.heap.size (w.heap.size + 1) W21 (.slice a bs.length cc) bs p11 bad12 1 (by omega) (by omega) (by omega) (unhide S24)).mono ?_
  rintro e w26 ⟨xt, p27, bad28, rfl, H30, S31, T29⟩
  have K32 := hide (track_num (unhide S24).at' (unhide H30) (unhide K16))
  have R33 := hide ((unhide R23).turn (unhide T29) (by have := unhide HG; simp <;> omega))
  have X34 := hide ((unhide X22).turn (unhide T29) (by have := unhide HG; simp <;> omega))
  have B35 := hide ((unhide B25).trans ((unhide T29).below (unhide B25).size (by have := unhide HG; simp <;> omega)))
  clear R23 S24 B25 X22
  clear T29
  obtain ⟨⟨c0, c1, c2, c3, c4, c5⟩, f0, f1, f2, f3, f4, f5⟩ := (unhide X34).six
  go_wp2_with fail
  clear c0 c1 c2 c3 c4 c5 f0 f1 f2 f3 f4 f5
  have T36 := (Turn.refl [gs] w26).setCell (g := gs) (by simp) 2 (.int .i64 xt)
  have X38 := hide ((unhide X34).set 2 (.int .i64 xt) (by simp))
  have R39 := hide ((unhide R33).turn T36 (by have := unhide HG; simp <;> omega))
  have S40 := hide ((unhide S31).turn T36 (by have := unhide HG; simp <;> omega) (by have := unhide HG; simp <;> omega))
  have B41 := hide ((unhide B35).trans (T36.below (unhide B35).size (by have := unhide HG; simp <;> omega)))
  clear R33 S31 B35
  simp only [List.set] at X38
  clear T36
  generalize w26.setCell ⟨gs, 2, none⟩ (.int .i64 xt) = W37 at *
  refine (name_any w.heap.size (w.heap.size + 1) W37 (.slice a bs.length cc) bs p27 bad28 (by omega) (unhide S40)).mono ?_
  rintro e w42 ⟨nm, p43, bad44, rfl, H46, S47, T45⟩
  have K48 := hide (track_text (unhide H46) (unhide K32))
  have R49 := hide ((unhide R39).turn (unhide T45) (by have := unhide HG; simp <;> omega))
  have X50 := hide ((unhide X38).turn (unhide T45) (by have := unhide HG; simp <;> omega))
  have B51 := hide ((unhide B41).trans ((unhide T45).below (unhide B41).size (by have := unhide HG; simp <;> omega)))
  clear R39 S40 B41 X38
  clear T45
  have HKF := hide (stepN_byte (unhide H5))
  have HFF := hide (stepN_byte (unhide H14))
  have HTF := hide (stepN_byte (unhide H30))
  have HNF := hide (stepT_size (unhide H46))
  clear H5 H14 H30 H46
  by_cases hk2 : xk = 2
  rotate_left
  · have qk : (xk == 2) = false := by rw [beq_eq_false_iff_ne]; exact hk2
    have K52 := hide (show Track (rdSay bs) bad44 (some ((⟨xk, xf, xt, nm, 0, []⟩ : SayV), bs.drop p43)) from by have t := unhide K48; unfold rdTail at t; rw [if_neg hk2] at t; exact t)
    clear hk2
    obtain ⟨⟨c0, c1, c2, c3, c4, c5⟩, f0, f1, f2, f3, f4, f5⟩ := (unhide X50).six
    go_wp2_with fail
    clear c0 c1 c2 c3 c4 c5 f0 f1 f2 f3 f4 f5
    have T53 := (Turn.refl [gs] w42).setCell (g := gs) (by simp) 3 (.string nm)
    have X55 := hide ((unhide X50).set 3 (.string nm) (by simp))
    have R56 := hide ((unhide R49).turn T53 (by have := unhide HG; simp <;> omega))
    have S57 := hide ((unhide S47).turn T53 (by have := unhide HG; simp <;> omega) (by have := unhide HG; simp <;> omega))
    have B58 := hide ((unhide B51).trans (T53.below (unhide B51).size (by have := unhide HG; simp <;> omega)))
    clear R49 S47 B51
    simp only [List.set] at X55
    clear T53
    generalize w42.setCell ⟨gs, 3, none⟩ (.string nm) = W54 at *
    have HSM := hide (show SmallSay (⟨xk, xf, xt, nm, 0, []⟩ : SayV) from ⟨⟨by have := unhide HNF; show nm.size ≤ 1048576; omega, by simp [VerSmall]⟩, ⟨by have := unhide HNF; show nm.size ≤ maxLen; unfold maxLen; omega, by simp, fun x hx => by simp at hx⟩, by have := unhide HKF; show _ ≤ xk ∧ xk ≤ _; omega, by have := unhide HFF; show _ ≤ xf ∧ xf ≤ _; omega, by have := unhide HTF; show _ ≤ xt ∧ xt ≤ _; omega, by simp⟩)
    refine (specSayBytes_any (⟨xk, xf, xt, nm, 0, []⟩ : SayV) _ W54 (unhide HSM) ⟨_, rfl, ⟨none, 0, rfl, .inl rfl⟩⟩).mono ?_
    rintro e wz ⟨ba, bn, bc, rfl, hbr, bz⟩
    have RZ := hide ((unhide R56).up bz)
    have XZ := hide ((unhide X55).up bz)
    have SZ := hide ((unhide S57).up bz)
    have BZ := hide ((unhide B58).trans (bz.mono (unhide B58).size))
    have VO := hide (show ∃ S, VerOwn S wz (.slice none 0 0) ((⟨xk, xf, xt, nm, 0, []⟩ : SayV)).stamp ∧ ∀ k ∈ S, w.heap.size < k from by exact ⟨[], .inl ⟨rfl, rfl, none, 0, rfl⟩, by simp⟩)
    have cvw := conv_back hbr.rd
    have cvb := conv_back (unhide SZ).by'
    clear hbr bz
    rcases unhide K52 with ⟨hbad, ht⟩ | ⟨hbad, ht⟩
    rotate_left
    · subst hbad
      have HNO := hide (sayRd_none ht)
      obtain ⟨y, ty⟩ := fill6 (unhide RZ) (.int .i64 0) (.int .i64 0) (.int .i64 0) (.string ⟨#[]⟩) (.int .i64 0) (.slice none 0 0)
      have HEND := hide (ret_noS (unhide HNO) ((unhide BZ).trans (ty.below (unhide BZ).size (by simp))))
      obtain ⟨⟨y0, y1, y2, y3, y4, y5⟩, -⟩ := y.six
      have HY := hide (And.intro y0 (And.intro y1 (And.intro y2 (And.intro y3 (And.intro y4 y5)))))
      clear ty y y0 y1 y2 y3 y4 y5
      obtain ⟨⟨r0, r1, r2, r3, r4, r5⟩, q0, q1, q2, q3, q4, q5⟩ := (unhide RZ).six
      obtain ⟨⟨c0, c1, c2⟩, -⟩ := (unhide SZ).box.three'
      go_wp2_with fail
      obtain ⟨y0, y1, y2, y3, y4, y5⟩ := unhide HY
      refine bodyPost_ret (v := .tuple #[.agg #[.int .i64 0, .int .i64 0, .int .i64 0, .string ⟨#[]⟩, .int .i64 0, .slice none 0 0], .bool false]) ?_ rfl ?_
      · simp [results, Tryz.results19, go_sem, y0, y1, y2, y3, y4, y5]
      · exact unhide HEND
    subst hbad
    obtain ⟨st, hst⟩ : ∃ st : ByteArray, st = ⟨(sayBytesL (⟨xk, xf, xt, nm, 0, []⟩ : SayV)).toArray⟩ := ⟨_, rfl⟩
    obtain ⟨sb, hsb⟩ : ∃ sb : ByteArray, sb = ⟨bs.toArray⟩ := ⟨_, rfl⟩
    rw [← hst] at cvw
    rw [← hsb] at cvb
    have HRS := hide ht
    have HST := hide hst
    have HSB := hide hsb
    clear ht hst hsb
    cases hok : sayOkB (⟨xk, xf, xt, nm, 0, []⟩ : SayV)
    · have hn : ¬ rdSayOk (⟨xk, xf, xt, nm, 0, []⟩ : SayV) (bs.drop p43) := fun h => by rw [h.1] at hok; cases hok
      clear hok
      have HNO := hide (sayRd_no (unhide HRS) hn)
      obtain ⟨y, ty⟩ := fill6 (unhide RZ) (.int .i64 0) (.int .i64 0) (.int .i64 0) (.string ⟨#[]⟩) (.int .i64 0) (.slice none 0 0)
      have HEND := hide (ret_noS (unhide HNO) ((unhide BZ).trans (ty.below (unhide BZ).size (by simp))))
      obtain ⟨⟨y0, y1, y2, y3, y4, y5⟩, -⟩ := y.six
      have HY := hide (And.intro y0 (And.intro y1 (And.intro y2 (And.intro y3 (And.intro y4 y5)))))
      clear ty y y0 y1 y2 y3 y4 y5
      obtain ⟨⟨r0, r1, r2, r3, r4, r5⟩, q0, q1, q2, q3, q4, q5⟩ := (unhide RZ).six
      obtain ⟨⟨c0, c1, c2⟩, -⟩ := (unhide SZ).box.three'
      go_wp2_with fail
      obtain ⟨y0, y1, y2, y3, y4, y5⟩ := unhide HY
      refine bodyPost_ret (v := .tuple #[.agg #[.int .i64 0, .int .i64 0, .int .i64 0, .string ⟨#[]⟩, .int .i64 0, .slice none 0 0], .bool false]) ?_ rfl ?_
      · simp [results, Tryz.results19, go_sem, y0, y1, y2, y3, y4, y5]
      · exact unhide HEND
    by_cases heq : st = sb
    rotate_left
    · have hn : ¬ rdSayOk (⟨xk, xf, xt, nm, 0, []⟩ : SayV) (bs.drop p43) := fun h => heq (by rw [unhide HST, unhide HSB, ((rdSayOk_spec (unhide HRS)).1 h).2])
      have q := bytes_neq heq
      clear hok heq
      have HNO := hide (sayRd_no (unhide HRS) hn)
      obtain ⟨y, ty⟩ := fill6 (unhide RZ) (.int .i64 0) (.int .i64 0) (.int .i64 0) (.string ⟨#[]⟩) (.int .i64 0) (.slice none 0 0)
      have HEND := hide (ret_noS (unhide HNO) ((unhide BZ).trans (ty.below (unhide BZ).size (by simp))))
      obtain ⟨⟨y0, y1, y2, y3, y4, y5⟩, -⟩ := y.six
      have HY := hide (And.intro y0 (And.intro y1 (And.intro y2 (And.intro y3 (And.intro y4 y5)))))
      clear ty y y0 y1 y2 y3 y4 y5
      obtain ⟨⟨r0, r1, r2, r3, r4, r5⟩, q0, q1, q2, q3, q4, q5⟩ := (unhide RZ).six
      obtain ⟨⟨c0, c1, c2⟩, -⟩ := (unhide SZ).box.three'
      go_wp2_with fail
      obtain ⟨y0, y1, y2, y3, y4, y5⟩ := unhide HY
      refine bodyPost_ret (v := .tuple #[.agg #[.int .i64 0, .int .i64 0, .int .i64 0, .string ⟨#[]⟩, .int .i64 0, .slice none 0 0], .bool false]) ?_ rfl ?_
      · simp [results, Tryz.results19, go_sem, y0, y1, y2, y3, y4, y5]
      · exact unhide HEND
    have HYES := hide (show sayRd bs = some (⟨xk, xf, xt, nm, 0, []⟩ : SayV) from sayRd_yes hl (unhide HRS) ((rdSayOk_spec (unhide HRS)).2 ⟨hok, by have h := heq; rw [unhide HST, unhide HSB] at h; have h2 := congrArg (fun t : ByteArray => t.data.toList) h; simpa using h2⟩))
    subst heq
    clear hok HST HSB
    obtain ⟨y, ty⟩ := fill6 (unhide RZ) (.int .i64 xk) (.int .i64 xf) (.int .i64 xt) (.string nm) (.int .i64 0) (.slice none 0 0)
    have HEND := hide (show RetRdS bs w (.returned (.tuple #[.agg #[.int .i64 xk, .int .i64 xf, .int .i64 xt, .string nm, .int .i64 0, .slice none 0 0], .bool true])) _ from by obtain ⟨S, so, sg⟩ := unhide VO; exact ⟨_, S, by rw [unhide HYES]; rfl, hide (by rw [unhide HYES]; exact ⟨_, rfl, so.turn ty (fun k hk hm => by have := sg k hk; simp at hm; omega)⟩), hide (fun k hk => by have := sg k hk; omega), (unhide BZ).trans (ty.below (unhide BZ).size (by simp))⟩)
    obtain ⟨⟨y0, y1, y2, y3, y4, y5⟩, -⟩ := y.six
    have HY := hide (And.intro y0 (And.intro y1 (And.intro y2 (And.intro y3 (And.intro y4 y5)))))
    clear ty y y0 y1 y2 y3 y4 y5
    obtain ⟨⟨r0, r1, r2, r3, r4, r5⟩, q0, q1, q2, q3, q4, q5⟩ := (unhide RZ).six
    obtain ⟨⟨c0, c1, c2⟩, -⟩ := (unhide SZ).box.three'
    obtain ⟨⟨s0, s1, s2, s3, s4, s5⟩, -⟩ := (unhide XZ).six
    go_wp2_with fail
    obtain ⟨y0, y1, y2, y3, y4, y5⟩ := unhide HY
    refine bodyPost_ret (v := .tuple #[.agg #[.int .i64 xk, .int .i64 xf, .int .i64 xt, .string nm, .int .i64 0, .slice none 0 0], .bool true]) ?_ rfl ?_
    · simp [results, Tryz.results19, go_sem, y0, y1, y2, y3, y4, y5]
    · exact unhide HEND
  subst hk2
  have K59 := hide (show Track (rdSay bs) bad44 ((rdN 8 (bs.drop p43)).bind fun q => (rdN 1 q.2).bind fun z => (rdVs z.1.toNat z.2).bind fun t => some ((⟨2, xf, xt, nm, q.1, t.1⟩ : SayV), t.2)) from by have t := unhide K48; unfold rdTail at t; rw [if_pos rfl] at t; simpa only [Option.bind_assoc, Option.bind_some] using t)
  obtain ⟨⟨c0, c1, c2, c3, c4, c5⟩, f0, f1, f2, f3, f4, f5⟩ := (unhide X50).six
  go_wp2_with fail
  clear c0 c1 c2 c3 c4 c5 f0 f1 f2 f3 f4 f5
  have T60 := (Turn.refl [gs] w42).setCell (g := gs) (by simp) 3 (.string nm)
  have X62 := hide ((unhide X50).set 3 (.string nm) (by simp))
  have R63 := hide ((unhide R49).turn T60 (by have := unhide HG; simp <;> omega))
  have S64 := hide ((unhide S47).turn T60 (by have := unhide HG; simp <;> omega) (by have := unhide HG; simp <;> omega))
  have B65 := hide ((unhide B51).trans (T60.below (unhide B51).size (by have := unhide HG; simp <;> omega)))
  clear R49 S47 B51
  simp only [List.set] at X62
  clear T60
  generalize w42.setCell ⟨gs, 3, none⟩ (.string nm) = W61 at *
  refine (number_any w.heap.size (w.heap.size + 1) W61 (.slice a bs.length cc) bs p43 bad44 8 (by omega) (by omega) (by omega) (unhide S64)).mono ?_
  rintro e w66 ⟨xv, p67, bad68, rfl, H70, S71, T69⟩
  have K72 := hide (track_num (unhide S64).at' (unhide H70) (unhide K59))
  have R73 := hide ((unhide R63).turn (unhide T69) (by have := unhide HG; simp <;> omega))
  have X74 := hide ((unhide X62).turn (unhide T69) (by have := unhide HG; simp <;> omega))
  have B75 := hide ((unhide B65).trans ((unhide T69).below (unhide B65).size (by have := unhide HG; simp <;> omega)))
  clear R63 S64 B65 X62
  clear T69
  obtain ⟨⟨c0, c1, c2, c3, c4, c5⟩, f0, f1, f2, f3, f4, f5⟩ := (unhide X74).six
  go_wp2_with fail
  clear c0 c1 c2 c3 c4 c5 f0 f1 f2 f3 f4 f5
  have T76 := (Turn.refl [gs] w66).setCell (g := gs) (by simp) 4 (.int .i64 xv)
  have X78 := hide ((unhide X74).set 4 (.int .i64 xv) (by simp))
  have R79 := hide ((unhide R73).turn T76 (by have := unhide HG; simp <;> omega))
  have S80 := hide ((unhide S71).turn T76 (by have := unhide HG; simp <;> omega) (by have := unhide HG; simp <;> omega))
  have B81 := hide ((unhide B75).trans (T76.below (unhide B75).size (by have := unhide HG; simp <;> omega)))
  clear R73 S71 B75
  simp only [List.set] at X78
  clear T76
  generalize w66.setCell ⟨gs, 4, none⟩ (.int .i64 xv) = W77 at *
  refine (number_any w.heap.size (w.heap.size + 1) W77 (.slice a bs.length cc) bs p67 bad68 1 (by omega) (by omega) (by omega) (unhide S80)).mono ?_
  rintro e w82 ⟨xn, p83, bad84, rfl, H86, S87, T85⟩
  have K88 := hide (track_num (unhide S80).at' (unhide H86) (unhide K72))
  have R89 := hide ((unhide R79).turn (unhide T85) (by have := unhide HG; simp <;> omega))
  have X90 := hide ((unhide X78).turn (unhide T85) (by have := unhide HG; simp <;> omega))
  have B91 := hide ((unhide B81).trans ((unhide T85).below (unhide B81).size (by have := unhide HG; simp <;> omega)))
  clear R79 S80 B81 X78
  clear T85
  have HVF := hide (stepN_fit (unhide H70))
  have hxn := stepN_byte (unhide H86)
  obtain ⟨N, rfl⟩ : ∃ N : Nat, xn = (N : Int) := ⟨xn.toNat, by omega⟩
  cases hb0 : bad84
  rotate_left
  · have hN0 : N = 0 := by rcases unhide H86 with ⟨_, _, _, _, hh⟩ | ⟨_, hh, _⟩; rw [hb0] at hh; cases hh; omega
    subst hN0
    have K92 := hide (show Track (rdSay bs) true (some ((⟨2, xf, xt, nm, xv, []⟩ : SayV), bs.drop p83)) from by rcases unhide K88 with ⟨hh, _⟩ | ⟨_, hh⟩; rw [hb0] at hh; cases hh; exact .inr ⟨rfl, hh⟩)
    rw [hb0] at S87
    clear hb0
    obtain ⟨⟨c0, c1, c2, c3, c4, c5⟩, f0, f1, f2, f3, f4, f5⟩ := (unhide X90).six
    obtain ⟨⟨e0, e1, e2⟩, -⟩ := (unhide S87).box.three'
    go_wp2_with fail
    refine wp_loop_rounds 1 ?_
    rw [rounds_succ]
    go_wp2_with fail
    clear e0 e1 e2 c0 c1 c2 c3 c4 c5 f0 f1 f2 f3 f4 f5
    have HSM := hide (show SmallSay (⟨2, xf, xt, nm, xv, []⟩ : SayV) from ⟨⟨by have := unhide HNF; show nm.size ≤ 1048576; omega, by simp [VerSmall]⟩, ⟨by have := unhide HNF; show nm.size ≤ maxLen; unfold maxLen; omega, by simp, fun x hx => by simp at hx⟩, by show (-9223372036854775808 : Int) ≤ 2 ∧ (2 : Int) ≤ 9223372036854775807; omega, by have := unhide HFF; show _ ≤ xf ∧ xf ≤ _; omega, by have := unhide HTF; show _ ≤ xt ∧ xt ≤ _; omega, unhide HVF⟩)
    refine (specSayBytes_any (⟨2, xf, xt, nm, xv, []⟩ : SayV) _ w82 (unhide HSM) ⟨_, rfl, ⟨none, 0, rfl, .inl rfl⟩⟩).mono ?_
    rintro e wz ⟨ba, bn, bc, rfl, hbr, bz⟩
    have RZ := hide ((unhide R89).up bz)
    have XZ := hide ((unhide X90).up bz)
    have SZ := hide ((unhide S87).up bz)
    have BZ := hide ((unhide B91).trans (bz.mono (unhide B91).size))
    have VO := hide (show ∃ S, VerOwn S wz (.slice none 0 0) ((⟨2, xf, xt, nm, xv, []⟩ : SayV)).stamp ∧ ∀ k ∈ S, w.heap.size < k from by exact ⟨[], .inl ⟨rfl, rfl, none, 0, rfl⟩, by simp⟩)
    have cvw := conv_back hbr.rd
    have cvb := conv_back (unhide SZ).by'
    clear hbr bz
    rcases unhide K92 with ⟨hbad, ht⟩ | ⟨hbad, ht⟩
    rotate_left
    · clear hbad
      have HNO := hide (sayRd_none ht)
      obtain ⟨y, ty⟩ := fill6 (unhide RZ) (.int .i64 0) (.int .i64 0) (.int .i64 0) (.string ⟨#[]⟩) (.int .i64 0) (.slice none 0 0)
      have HEND := hide (ret_noS (unhide HNO) ((unhide BZ).trans (ty.below (unhide BZ).size (by simp))))
      obtain ⟨⟨y0, y1, y2, y3, y4, y5⟩, -⟩ := y.six
      have HY := hide (And.intro y0 (And.intro y1 (And.intro y2 (And.intro y3 (And.intro y4 y5)))))
      clear ty y y0 y1 y2 y3 y4 y5
      obtain ⟨⟨r0, r1, r2, r3, r4, r5⟩, q0, q1, q2, q3, q4, q5⟩ := (unhide RZ).six
      obtain ⟨⟨c0, c1, c2⟩, -⟩ := (unhide SZ).box.three'
      go_wp2_with fail
      obtain ⟨y0, y1, y2, y3, y4, y5⟩ := unhide HY
      refine bodyPost_ret (v := .tuple #[.agg #[.int .i64 0, .int .i64 0, .int .i64 0, .string ⟨#[]⟩, .int .i64 0, .slice none 0 0], .bool false]) ?_ rfl ?_
      · simp [results, Tryz.results19, go_sem, y0, y1, y2, y3, y4, y5]
      · exact unhide HEND
    cases hbad
  rw [hb0] at S87 K88
  have HT0 := hide (show rdSay bs = (rdVs N (bs.drop p83)).bind fun t => some ((⟨2, xf, xt, nm, xv, t.1⟩ : SayV), t.2) from by rcases unhide K88 with ⟨_, hh⟩ | ⟨hh, _⟩; exact hh; cases hh)
  clear hb0 K88
  have V0 := hide (VrRow.nil (gs + 1) w82)
  have hgW : gs < w82.heap.size := (unhide X90).1.1
  have HGW := hide hgW
  obtain ⟨⟨c0, c1, c2, c3, c4, c5⟩, f0, f1, f2, f3, f4, f5⟩ := (unhide X90).six
  obtain ⟨⟨e0, e1, e2⟩, -⟩ := (unhide S87).box.three'
  go_wp2_with fail
  clear hgW e0 e1 e2 c0 c1 c2 c3 c4 c5 f0 f1 f2 f3 f4 f5
  go_loopw [7, 8] (fun i q wr => ∃ (k : Nat) (sa : Option Addr) (sn sc : Nat) (vs : List VerV) (p : Nat) (bad : Bool), k ≤ N ∧ i = .int .i64 (k : Int) ∧ Hid (SR w.heap.size (w.heap.size + 1) wr (.slice a bs.length cc) bs p bad) ∧ Hid (BoxF wr gs [.int .i64 2, .int .i64 xf, .int .i64 xt, .string nm, .int .i64 xv, .slice sa sn sc]) ∧ Hid (VrRow (gs + 1) wr (.slice sa sn sc) vs) ∧ Hid (vs.length = k) ∧ Hid (TrackV bs (bs.drop p83) N k vs p bad) ∧ Hid (∀ x ∈ vs, x.a0.size ≤ 255 ∧ IntFit x.a1) ∧ Hid (BoxF wr w.heap.size [.int .i64 0, .int .i64 0, .int .i64 0, .string ⟨#[]⟩, .int .i64 0, .slice none 0 0]) ∧ Hid (Below w.heap.size w wr)) (fun i _ _ => N - (intOf i).toNat)
  case atStart => exact ⟨0, none, 0, 0, [], p83, false, Nat.zero_le _, rfl, S87, X90, V0, hide rfl, hide (.inl ⟨rfl, rfl⟩), hide (by simp), R89, B91⟩
  case round =>
    obtain ⟨k, sa, sn, sc, vs, p, bad, hk, rfl, SR9, X9, V9, VL9, TV9, FV9, R9, B9⟩ := hrel
    clear S87 X90 R89 B91
    have HSV := hide (show SmallSay (⟨2, xf, xt, nm, xv, vs⟩ : SayV) from ⟨⟨by have := unhide HNF; show nm.size ≤ 1048576; omega, ⟨by have := unhide VL9; show vs.length ≤ 1048576; omega, fun x hx => by have := (unhide FV9 x hx).1; omega⟩⟩, ⟨by have := unhide HNF; show nm.size ≤ maxLen; unfold maxLen; omega, by have := unhide VL9; show vs.length ≤ maxLen; unfold maxLen; omega, fun x hx => ⟨by have := (unhide FV9 x hx).1; unfold maxLen; omega, (unhide FV9 x hx).2⟩⟩, by show (-9223372036854775808 : Int) ≤ 2 ∧ (2 : Int) ≤ 9223372036854775807; omega, by have := unhide HFF; show _ ≤ xf ∧ xf ≤ _; omega, by have := unhide HTF; show _ ≤ xt ∧ xt ≤ _; omega, unhide HVF⟩)
    obtain ⟨⟨e0, e1, e2⟩, -⟩ := (unhide SR9).box.three'
    by_cases hgo : k < N ∧ bad = false
    rotate_left
    · have KF := hide (show Track (rdSay bs) bad (some ((⟨2, xf, xt, nm, xv, vs⟩ : SayV), bs.drop p)) from by
        rcases unhide TV9 with ⟨hb, ht⟩ | ⟨hb, ht⟩
        · obtain rfl : k = N := by have : ¬ k < N := fun hh => hgo ⟨hh, hb⟩; omega
          exact .inl ⟨hb, by rw [unhide HT0, ht]; rfl⟩
        · exact .inr ⟨hb, by rw [unhide HT0, ht]; rfl⟩)
      obtain ⟨⟨c0, c1, c2, c3, c4, c5⟩, f0, f1, f2, f3, f4, f5⟩ := (unhide X9).six
      by_cases hkN : (k : Int) < (N : Int)
      · obtain rfl : bad = true := by cases bad; exact absurd ⟨by omega, rfl⟩ hgo; rfl
        clear hgo
        go_wp2_with fail
        clear e0 e1 e2 c0 c1 c2 c3 c4 c5 f0 f1 f2 f3 f4 f5
        have HSM := hide (show SmallSay (⟨2, xf, xt, nm, xv, vs⟩ : SayV) from unhide HSV)
        refine (specSayBytes_any (⟨2, xf, xt, nm, xv, vs⟩ : SayV) _ wr (unhide HSM) ⟨_, rfl, (unhide V9).rd⟩).mono ?_
        rintro e wz ⟨ba, bn, bc, rfl, hbr, bz⟩
        have RZ := hide ((unhide R9).up bz)
        have XZ := hide ((unhide X9).up bz)
        have SZ := hide ((unhide SR9).up bz)
        have BZ := hide ((unhide B9).trans (bz.mono (unhide B9).size))
        have VO := hide (show ∃ S, VerOwn S wz (.slice sa sn sc) ((⟨2, xf, xt, nm, xv, vs⟩ : SayV)).stamp ∧ ∀ k ∈ S, w.heap.size < k from by obtain ⟨S, o, q, _⟩ := (unhide V9).own; exact ⟨S, o.up bz, fun k hk => by have := q k hk; have := unhide HG; omega⟩)
        have cvw := conv_back hbr.rd
        have cvb := conv_back (unhide SZ).by'
        clear hbr bz
        rcases unhide KF with ⟨hbad, ht⟩ | ⟨hbad, ht⟩
        rotate_left
        · clear hbad
          have HNO := hide (sayRd_none ht)
          obtain ⟨y, ty⟩ := fill6 (unhide RZ) (.int .i64 0) (.int .i64 0) (.int .i64 0) (.string ⟨#[]⟩) (.int .i64 0) (.slice none 0 0)
          have HEND := hide (ret_noS (unhide HNO) ((unhide BZ).trans (ty.below (unhide BZ).size (by simp))))
          obtain ⟨⟨y0, y1, y2, y3, y4, y5⟩, -⟩ := y.six
          have HY := hide (And.intro y0 (And.intro y1 (And.intro y2 (And.intro y3 (And.intro y4 y5)))))
          clear ty y y0 y1 y2 y3 y4 y5
          obtain ⟨⟨r0, r1, r2, r3, r4, r5⟩, q0, q1, q2, q3, q4, q5⟩ := (unhide RZ).six
          obtain ⟨⟨c0, c1, c2⟩, -⟩ := (unhide SZ).box.three'
          go_wp2_with fail
          obtain ⟨y0, y1, y2, y3, y4, y5⟩ := unhide HY
          refine bodyPost_ret (v := .tuple #[.agg #[.int .i64 0, .int .i64 0, .int .i64 0, .string ⟨#[]⟩, .int .i64 0, .slice none 0 0], .bool false]) ?_ rfl ?_
          · simp [results, Tryz.results19, go_sem, y0, y1, y2, y3, y4, y5]
          · exact unhide HEND
        cases hbad
      · clear hgo
        go_wp2_with fail
        clear e0 e1 e2 hkN hk hxn TV9 FV9 VL9 HT0 c0 c1 c2 c3 c4 c5 f0 f1 f2 f3 f4 f5
        have HSM := hide (show SmallSay (⟨2, xf, xt, nm, xv, vs⟩ : SayV) from unhide HSV)
        refine (specSayBytes_any (⟨2, xf, xt, nm, xv, vs⟩ : SayV) _ wr (unhide HSM) ⟨_, rfl, (unhide V9).rd⟩).mono ?_
        rintro e wz ⟨ba, bn, bc, rfl, hbr, bz⟩
        have RZ := hide ((unhide R9).up bz)
        have XZ := hide ((unhide X9).up bz)
        have SZ := hide ((unhide SR9).up bz)
        have BZ := hide ((unhide B9).trans (bz.mono (unhide B9).size))
        have VO := hide (show ∃ S, VerOwn S wz (.slice sa sn sc) ((⟨2, xf, xt, nm, xv, vs⟩ : SayV)).stamp ∧ ∀ k ∈ S, w.heap.size < k from by obtain ⟨S, o, q, _⟩ := (unhide V9).own; exact ⟨S, o.up bz, fun k hk => by have := q k hk; have := unhide HG; omega⟩)
        have cvw := conv_back hbr.rd
        have cvb := conv_back (unhide SZ).by'
        clear hbr bz
        rcases unhide KF with ⟨hbad, ht⟩ | ⟨hbad, ht⟩
        rotate_left
        · subst hbad
          have HNO := hide (sayRd_none ht)
          obtain ⟨y, ty⟩ := fill6 (unhide RZ) (.int .i64 0) (.int .i64 0) (.int .i64 0) (.string ⟨#[]⟩) (.int .i64 0) (.slice none 0 0)
          have HEND := hide (ret_noS (unhide HNO) ((unhide BZ).trans (ty.below (unhide BZ).size (by simp))))
          obtain ⟨⟨y0, y1, y2, y3, y4, y5⟩, -⟩ := y.six
          have HY := hide (And.intro y0 (And.intro y1 (And.intro y2 (And.intro y3 (And.intro y4 y5)))))
          clear ty y y0 y1 y2 y3 y4 y5
          obtain ⟨⟨r0, r1, r2, r3, r4, r5⟩, q0, q1, q2, q3, q4, q5⟩ := (unhide RZ).six
          obtain ⟨⟨c0, c1, c2⟩, -⟩ := (unhide SZ).box.three'
          go_wp2_with fail
          obtain ⟨y0, y1, y2, y3, y4, y5⟩ := unhide HY
          refine bodyPost_ret (v := .tuple #[.agg #[.int .i64 0, .int .i64 0, .int .i64 0, .string ⟨#[]⟩, .int .i64 0, .slice none 0 0], .bool false]) ?_ rfl ?_
          · simp [results, Tryz.results19, go_sem, y0, y1, y2, y3, y4, y5]
          · exact unhide HEND
        subst hbad
        obtain ⟨st, hst⟩ : ∃ st : ByteArray, st = ⟨(sayBytesL (⟨2, xf, xt, nm, xv, vs⟩ : SayV)).toArray⟩ := ⟨_, rfl⟩
        obtain ⟨sb, hsb⟩ : ∃ sb : ByteArray, sb = ⟨bs.toArray⟩ := ⟨_, rfl⟩
        rw [← hst] at cvw
        rw [← hsb] at cvb
        have HRS := hide ht
        have HST := hide hst
        have HSB := hide hsb
        clear ht hst hsb
        cases hok : sayOkB (⟨2, xf, xt, nm, xv, vs⟩ : SayV)
        · have hn : ¬ rdSayOk (⟨2, xf, xt, nm, xv, vs⟩ : SayV) (bs.drop p) := fun h => by rw [h.1] at hok; cases hok
          clear hok
          have HNO := hide (sayRd_no (unhide HRS) hn)
          obtain ⟨y, ty⟩ := fill6 (unhide RZ) (.int .i64 0) (.int .i64 0) (.int .i64 0) (.string ⟨#[]⟩) (.int .i64 0) (.slice none 0 0)
          have HEND := hide (ret_noS (unhide HNO) ((unhide BZ).trans (ty.below (unhide BZ).size (by simp))))
          obtain ⟨⟨y0, y1, y2, y3, y4, y5⟩, -⟩ := y.six
          have HY := hide (And.intro y0 (And.intro y1 (And.intro y2 (And.intro y3 (And.intro y4 y5)))))
          clear ty y y0 y1 y2 y3 y4 y5
          obtain ⟨⟨r0, r1, r2, r3, r4, r5⟩, q0, q1, q2, q3, q4, q5⟩ := (unhide RZ).six
          obtain ⟨⟨c0, c1, c2⟩, -⟩ := (unhide SZ).box.three'
          go_wp2_with fail
          obtain ⟨y0, y1, y2, y3, y4, y5⟩ := unhide HY
          refine bodyPost_ret (v := .tuple #[.agg #[.int .i64 0, .int .i64 0, .int .i64 0, .string ⟨#[]⟩, .int .i64 0, .slice none 0 0], .bool false]) ?_ rfl ?_
          · simp [results, Tryz.results19, go_sem, y0, y1, y2, y3, y4, y5]
          · exact unhide HEND
        by_cases heq : st = sb
        rotate_left
        · have hn : ¬ rdSayOk (⟨2, xf, xt, nm, xv, vs⟩ : SayV) (bs.drop p) := fun h => heq (by rw [unhide HST, unhide HSB, ((rdSayOk_spec (unhide HRS)).1 h).2])
          have q := bytes_neq heq
          clear hok heq
          have HNO := hide (sayRd_no (unhide HRS) hn)
          obtain ⟨y, ty⟩ := fill6 (unhide RZ) (.int .i64 0) (.int .i64 0) (.int .i64 0) (.string ⟨#[]⟩) (.int .i64 0) (.slice none 0 0)
          have HEND := hide (ret_noS (unhide HNO) ((unhide BZ).trans (ty.below (unhide BZ).size (by simp))))
          obtain ⟨⟨y0, y1, y2, y3, y4, y5⟩, -⟩ := y.six
          have HY := hide (And.intro y0 (And.intro y1 (And.intro y2 (And.intro y3 (And.intro y4 y5)))))
          clear ty y y0 y1 y2 y3 y4 y5
          obtain ⟨⟨r0, r1, r2, r3, r4, r5⟩, q0, q1, q2, q3, q4, q5⟩ := (unhide RZ).six
          obtain ⟨⟨c0, c1, c2⟩, -⟩ := (unhide SZ).box.three'
          go_wp2_with fail
          obtain ⟨y0, y1, y2, y3, y4, y5⟩ := unhide HY
          refine bodyPost_ret (v := .tuple #[.agg #[.int .i64 0, .int .i64 0, .int .i64 0, .string ⟨#[]⟩, .int .i64 0, .slice none 0 0], .bool false]) ?_ rfl ?_
          · simp [results, Tryz.results19, go_sem, y0, y1, y2, y3, y4, y5]
          · exact unhide HEND
        have HYES := hide (show sayRd bs = some (⟨2, xf, xt, nm, xv, vs⟩ : SayV) from sayRd_yes hl (unhide HRS) ((rdSayOk_spec (unhide HRS)).2 ⟨hok, by have h := heq; rw [unhide HST, unhide HSB] at h; have h2 := congrArg (fun t : ByteArray => t.data.toList) h; simpa using h2⟩))
        subst heq
        clear hok HST HSB
        obtain ⟨y, ty⟩ := fill6 (unhide RZ) (.int .i64 2) (.int .i64 xf) (.int .i64 xt) (.string nm) (.int .i64 xv) (.slice sa sn sc)
        have HEND := hide (show RetRdS bs w (.returned (.tuple #[.agg #[.int .i64 2, .int .i64 xf, .int .i64 xt, .string nm, .int .i64 xv, .slice sa sn sc], .bool true])) _ from by obtain ⟨S, so, sg⟩ := unhide VO; exact ⟨_, S, by rw [unhide HYES]; rfl, hide (by rw [unhide HYES]; exact ⟨_, rfl, so.turn ty (fun k hk hm => by have := sg k hk; simp at hm; omega)⟩), hide (fun k hk => by have := sg k hk; omega), (unhide BZ).trans (ty.below (unhide BZ).size (by simp))⟩)
        obtain ⟨⟨y0, y1, y2, y3, y4, y5⟩, -⟩ := y.six
        have HY := hide (And.intro y0 (And.intro y1 (And.intro y2 (And.intro y3 (And.intro y4 y5)))))
        clear ty y y0 y1 y2 y3 y4 y5
        obtain ⟨⟨r0, r1, r2, r3, r4, r5⟩, q0, q1, q2, q3, q4, q5⟩ := (unhide RZ).six
        obtain ⟨⟨c0, c1, c2⟩, -⟩ := (unhide SZ).box.three'
        obtain ⟨⟨s0, s1, s2, s3, s4, s5⟩, -⟩ := (unhide XZ).six
        go_wp2_with fail
        obtain ⟨y0, y1, y2, y3, y4, y5⟩ := unhide HY
        refine bodyPost_ret (v := .tuple #[.agg #[.int .i64 2, .int .i64 xf, .int .i64 xt, .string nm, .int .i64 xv, .slice sa sn sc], .bool true]) ?_ rfl ?_
        · simp [results, Tryz.results19, go_sem, y0, y1, y2, y3, y4, y5]
        · exact unhide HEND
    obtain ⟨hkN, rfl⟩ := hgo
    have hkN' : (k : Int) < (N : Int) := by omega
    go_wp2_with fail
    clear e0 e1 e2
    refine (name_any w.heap.size (w.heap.size + 1) wr (.slice a bs.length cc) bs p false (by omega) (unhide SR9)).mono ?_
    rintro e w93 ⟨vn, p94, bad95, rfl, H97, S98, T96⟩
    have R99 := hide ((unhide R9).turn (unhide T96) (by have := unhide HG; simp <;> omega))
    have X100 := hide ((unhide X9).turn (unhide T96) (by have := unhide HG; simp <;> omega))
    have E101 := hide ((unhide V9).keep (fun g hg => (unhide T96).block g ((unhide V9).lt g hg) (by have := (unhide V9).ge g hg; have := unhide HG; simp <;> omega)))
    have B102 := hide ((unhide B9).trans ((unhide T96).below (unhide B9).size (by have := unhide HG; simp <;> omega)))
    clear R9 SR9 B9 X9
    clear T96
    obtain ⟨gv, hgv⟩ : ∃ gv, gv = w93.heap.size := ⟨_, rfl⟩
    have HGV := hide (show gs < gv by have := (unhide X100).1.1; omega)
    have bA := (Below.refl w93.heap.size w93).alloc (Nat.le_refl _) (.cells #[.string vn, .int .i64 0] 57)
    have XV := boxF_new w93 [.string vn, .int .i64 0] 57
    rw [← hgv] at XV
    have XV0 := hide XV
    have RC := hide ((unhide R99).up bA)
    have SC := hide ((unhide S98).up bA)
    have XC := hide ((unhide X100).up bA)
    have VC := hide ((unhide E101).up bA)
    have BC := hide ((unhide B102).trans (bA.mono (unhide B102).size))
    have VLT := hide (show ∀ g, (Value.slice sa sn sc).ownBlock = some g → g < gv from fun g hg => by have := (unhide E101).lt g hg; omega)
    go_wp2_with fail
    simp only [List.toArray] at XV0
    rw [← hgv]
    generalize w93.alloc (.cells #[.string vn, .int .i64 0] 57) = WC at *
    clear hgv bA XV R99 S98 X100 E101 B102
    have HAT := hide (unhide SC).at'
    refine (number_any w.heap.size (w.heap.size + 1) WC (.slice a bs.length cc) bs p94 bad95 6 (by omega) (by omega) (by omega) (unhide SC)).mono ?_
    rintro e w103 ⟨vx, p104, bad105, rfl, H107, S108, T106⟩
    have R109 := hide ((unhide RC).turn (unhide T106) (by have := unhide HG; simp <;> omega))
    have X110 := hide ((unhide XC).turn (unhide T106) (by have := unhide HG; simp <;> omega))
    have E111 := hide ((unhide VC).keep (fun g hg => (unhide T106).block g ((unhide VC).lt g hg) (by have := (unhide VC).ge g hg; have := unhide HG; simp <;> omega)))
    have E112 := hide ((unhide XV0).turn (unhide T106) (by have := unhide HG; have := unhide HGV; simp <;> omega))
    have B113 := hide ((unhide BC).trans ((unhide T106).below (unhide BC).size (by have := unhide HG; simp <;> omega)))
    clear RC SC BC XC
    clear T106
    have TVN := hide (trackV_step (unhide HAT) hkN (unhide TV9) (unhide H97) (unhide H107))
    have FVN := hide (show ∀ x ∈ vs ++ [⟨vn, vx⟩], x.a0.size ≤ 255 ∧ IntFit x.a1 from fun x hx => by
      rcases List.mem_append.1 hx with hx | hx
      · exact unhide FV9 x hx
      · simp at hx
        subst hx
        exact ⟨stepT_size (unhide H97), stepN_fit (unhide H107)⟩)
    have TV := (Turn.refl [gv] w103).setCell (g := gv) (by simp) 1 (.int .i64 vx)
    obtain ⟨⟨v0, v1⟩, g0, g1⟩ := bfTwo (unhide E112)
    have XW := hide ((unhide E112).set 1 (.int .i64 vx) (by simp))
    simp only [List.set] at XW
    have S3 := hide ((unhide S108).turn TV (by have := unhide HG; have := unhide HGV; simp <;> omega) (by have := unhide HG; have := unhide HGV; simp <;> omega))
    have X3 := hide ((unhide X110).turn TV (by have := unhide HG; have := unhide HGV; simp <;> omega))
    have R3 := hide ((unhide R109).turn TV (by have := unhide HG; have := unhide HGV; simp <;> omega))
    have V3 := hide ((unhide E111).keep (fun g hg => TV.block g ((unhide E111).lt g hg) (by have := unhide VLT g hg; simp <;> omega)))
    have B3 := hide ((unhide B113).trans (TV.below (unhide B113).size (by have := unhide HG; have := unhide HGV; simp <;> omega)))
    have hz3 : (w103.setCell ⟨gv, 1, none⟩ (.int .i64 vx)).heap.size = w103.heap.size := by simp
    have b4 := (Below.refl (w103.setCell ⟨gv, 1, none⟩ (.int .i64 vx)).heap.size (w103.setCell ⟨gv, 1, none⟩ (.int .i64 vx))).alloc (Nat.le_refl _) (.cells #[.string vn, .int .i64 vx] 57)
    have V4 := hide ((unhide V3).up b4)
    have S4 := hide ((unhide S3).up b4)
    have X4 := hide ((unhide X3).up b4)
    have R4 := hide ((unhide R3).up b4)
    have B4 := hide ((unhide B3).trans (b4.mono (unhide B3).size))
    have N4 := boxF_new (w103.setCell ⟨gv, 1, none⟩ (.int .i64 vx)) [.string vn, .int .i64 vx] 57
    rw [hz3] at N4
    have HN4 := hide (bfTwo N4).1
    have HB4 := hide (show gs + 1 ≤ ((w103.setCell ⟨gv, 1, none⟩ (.int .i64 vx)).alloc (.cells #[.string vn, .int .i64 vx] 57)).heap.size by have := (unhide X4).1.1; omega)
    obtain ⟨⟨w0, w1x⟩, -⟩ := bfTwo (unhide XW)
    obtain ⟨⟨c0, c1, c2, c3, c4, c5⟩, f0, f1, f2, f3, f4, f5⟩ := (unhide X110).six
    obtain ⟨⟨k0, k1, k2, k3, k4, k5⟩, -⟩ := (unhide X3).six
    clear hz3 b4 N4 TV
    go_wp2_with (first
      | (at_builtin; refine wpList_vrAppend rfl _ _ rfl (gs + 1) (.slice sa sn sc) vs ⟨vn, vx⟩ w103.heap.size rfl rfl (unhide V4) (unhide HN4).1 (unhide HN4).2 (by have := unhide VL9; omega) (unhide HB4) ?_; intro g5 n5 c5x w5 r5 gr5 _; have t5 : Turn ((Value.slice sa sn sc).ownBlock.toList) _ w5 := Turn.of_grown gr5 (fun k hk => .inl (by rw [hk]; simp)); have NM := hide (show ∀ g ∈ (Value.slice sa sn sc).ownBlock.toList, gs + 1 ≤ g from fun g hg => (unhide V4).ge g (by simpa using hg)); have V5 := hide r5; have S5 := hide ((unhide S4).turn t5 (fun hm => by have := unhide NM _ hm; have := unhide HG; omega) (fun g hg => by have := unhide NM g hg; have := unhide HG; omega)); have X5 := hide ((unhide X4).turn t5 (fun hm => by have := unhide NM _ hm; omega)); have R5 := hide ((unhide R4).turn t5 (fun hm => by have := unhide NM _ hm; have := unhide HG; omega)); have B5 := hide ((unhide B4).trans (t5.below (unhide B4).size (fun g hg => by have := unhide NM g hg; have := unhide HG; omega))); clear r5 gr5 t5; obtain ⟨⟨m0, m1, m2, m3, m4, m5⟩, n0x, n1x, n2x, n3x, n4x, n5x⟩ := (unhide X5).six)
      | fail)
    have T6 := (Turn.refl [gs] w5).setCell (g := gs) (by simp) 5 (.slice (some ⟨g5, 0, none⟩) n5 c5x)
    have X6 := hide ((unhide X5).set 5 (.slice (some ⟨g5, 0, none⟩) n5 c5x) (by simp))
    simp only [List.set] at X6
    have S6 := hide ((unhide S5).turn T6 (by have := unhide HG; simp <;> omega) (by have := unhide HG; simp <;> omega))
    have R6 := hide ((unhide R5).turn T6 (by have := unhide HG; simp <;> omega))
    have V6 := hide ((unhide V5).keep (fun g hg => T6.block g ((unhide V5).lt g hg) (by have := (unhide V5).ge g hg; simp <;> omega)))
    have B6 := hide ((unhide B5).trans (T6.below (unhide B5).size (by have := unhide HG; simp <;> omega)))
    clear m0 m1 m2 m3 m4 m5 n0x n1x n2x n3x n4x n5x T6
    go_roundw
    case rel => exact ⟨k + 1, some ⟨g5, 0, none⟩, n5, c5x, _, _, _, by omega, by go_num, S6, X6, V6, hide (by have := unhide VL9; simp; omega), TVN, FVN, R6, B6⟩
    case measure => simp [intOf]; omega
end Go.Proofs.YtiebfcefmdiajaaGreatDoor
