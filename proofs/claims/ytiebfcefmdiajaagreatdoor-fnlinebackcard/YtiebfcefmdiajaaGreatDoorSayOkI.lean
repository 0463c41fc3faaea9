/-
  SayOk of the program.
-/
import Derived.Test.YtiebfcefmdiajaaGreatDoorMerged12
import Derived.Laws.Cover1
set_option linter.unusedVariables false
namespace Go.Proofs.YtiebfcefmdiajaaGreatDoor
open Go.RowKit Go.Maps Go.Deep

theorem nodeOk_any (n : Int) (w : World) : Calls Tryz.prog 50 #[.int .i64 n] w fun e w' => e = .returned (.bool (nodeB n)) ∧ w' = w := by
  by_cases g : 0 ≤ n
  · have HR := hide (show decide (n ≤ 9) = nodeB n by simp [nodeB, g])
    go_enter Tryz.func50, Tryz.ntmps50
    go_wp2
    go_ret
    exact ⟨ret_bool (unhide HR), rfl⟩
  · have HR := hide (show false = nodeB n by simp [nodeB, g])
    go_enter Tryz.func50, Tryz.ntmps50
    go_wp2
    go_ret
    exact ⟨ret_bool (unhide HR), rfl⟩
/-- the value that stands for a kind -/
def sayKind (k : Int) : Value := if k = 1 then .iface 113 (.agg #[]) else if k = 2 then .iface 114 (.agg #[]) else if k = 3 then .iface 115 (.agg #[]) else .nilIface
set_option maxHeartbeats 1600000 in
theorem sayKindOf_any (k : Int) (w : World) : Calls Tryz.prog 45 #[.int .i64 k] w fun e w' => e = .returned (sayKind k) ∧ w' = w := by
  unfold sayKind
  by_cases k1 : k = 1
  · subst k1
    go_enter Tryz.func45, Tryz.ntmps45
    go_wp2
    go_ret
    exact ⟨rfl, rfl⟩
  by_cases k2 : k = 2
  · subst k2
    go_enter Tryz.func45, Tryz.ntmps45
    go_wp2
    go_ret
    exact ⟨rfl, rfl⟩
  by_cases k3 : k = 3
  · subst k3
    go_enter Tryz.func45, Tryz.ntmps45
    go_wp2
    go_ret
    exact ⟨rfl, rfl⟩
  rw [if_neg k1, if_neg k2, if_neg k3]
  have e1 : (k == 1) = false := by simpa using k1
  have e2 : (k == 2) = false := by simpa using k2
  have e3 : (k == 3) = false := by simpa using k3
  go_enter Tryz.func45, Tryz.ntmps45
  go_wp2
  go_ret
  exact ⟨rfl, rfl⟩
set_option maxHeartbeats 1600000 in
theorem bareFits_any (kind src dst val : Int) (name : ByteArray) (n : Nat) (a : Option Addr) (c : Nat) (w : World) (hn : n ≤ 1048576) :
    Calls Tryz.prog 149 #[.agg #[], .agg #[.int .i64 kind, .int .i64 src, .int .i64 dst, .string name, .int .i64 val, .slice a n c]] w fun e w' => e = .returned (.bool (decide (val = 0) && decide (n = 0))) ∧ Below w.heap.size w w' := by
  by_cases hv : val = 0
  · subst hv
    have HE := hide (show ((n : Int) == 0) = (decide ((0 : Int) = 0) && decide (n = 0)) by rw [Bool.eq_iff_iff]; simp)
    go_enter Tryz.func149, Tryz.ntmps149
    go_wp2
    go_ret
    exact ⟨ret_bool (unhide HE), by go_grown⟩
  · have HE := hide (show false = (decide (val = 0) && decide (n = 0)) by simp [hv])
    have qv : (val == 0) = false := by simpa using hv
    go_enter Tryz.func149, Tryz.ntmps149
    go_wp2
    go_ret
    exact ⟨ret_bool (unhide HE), by go_grown⟩
def tellB (ns : List VerV) : Bool := decide (1 ≤ ns.length) && stampB ns
set_option maxHeartbeats 6400000 in
theorem tellFits_row (kind src dst val : Int) (name : ByteArray) (ns : List VerV) (b off c : Nat) (w : World) (h1 : 1 ≤ (ns.length : Int)) (h12 : (ns.length : Int) ≤ 12) (hc : VerAt w b off ns) (hb : b < w.heap.size) (hs : VerOk ns) :
    Calls Tryz.prog 152 #[.agg #[], .agg #[.int .i64 kind, .int .i64 src, .int .i64 dst, .string name, .int .i64 val, .slice (some ⟨b, off, none⟩) ns.length c]] w fun e w' => e = .returned (.bool (stampB ns)) ∧ Below w.heap.size w w' := by
  have HS := hide hs
  have HC := hide hc
  have g1 : ¬ (ns.length : Int) < 1 := by omega
  have g12 : ¬ 12 < (ns.length : Int) := by omega
  clear hs hc
  obtain ⟨W0, HW0⟩ : ∃ W0, Hid (W0 = (w.alloc (.cells #[] 114)).alloc (.cells #[.int .i64 kind, .int .i64 src, .int .i64 dst, .string name, .int .i64 val, .slice (some ⟨b, off, none⟩) ns.length c] 24)) := ⟨_, rfl⟩
  have HBX := hide (show BoxIs W0 (w.heap.size + 1) [.int .i64 kind, .int .i64 src, .int .i64 dst, .string name, .int .i64 val, .slice (some ⟨b, off, none⟩) ns.length c] by have := boxMade (w.alloc (.cells #[] 114)) [.int .i64 kind, .int .i64 src, .int .i64 dst, .string name, .int .i64 val, .slice (some ⟨b, off, none⟩) ns.length c] 24; rw [unhide HW0]; simpa using this)
  have HB0 := hide (show Below w.heap.size w W0 by rw [unhide HW0]; exact ((Below.refl _ _).alloc (Nat.le_refl _) _).alloc (by simp) _)
  have HC0 := hide (show ∀ X, Below W0.heap.size W0 X → VerAt X b off ns from fun X bx => (unhide HC).below ((unhide HB0).trans (bx.mono (unhide HB0).size)) hb)
  go_enter Tryz.func152, Tryz.ntmps152
  go_wp2_with fail
  rw [← unhide HW0]
  go_loopw [20] (fun i wr => ∃ k : Nat, k ≤ ns.length ∧ i = .int .i64 k ∧ Hid (StampTo ns k) ∧ Hid (Below W0.heap.size W0 wr)) (fun i _ => ns.length - (intOf i).toNat)
  case atStart => exact ⟨0, Nat.zero_le _, rfl, stamp_zero ns, Below.refl _ _⟩
  case round =>
    obtain ⟨k, hk, rfl, HG, HBr⟩ := hrel
    by_cases hlt : k < ns.length
    · obtain ⟨c0, c1⟩ := unhide HC0 wr (unhide HBr) k hlt
      have hname := hide (unhide HS _ (List.getElem_mem hlt)).1
      have HP := hide (fun W => implPlain_any ns[k].a0 W (unhide hname))
      rcases ver_cases ns[k] with ⟨hv, p1, p2, p3⟩ | ⟨hv, hcase⟩
      · rw [p1] at HP
        by_cases hk0 : k = 0
        · have HG2 := hide (show StampTo ns (k + 1) by subst hk0; exact stamp_step0 hlt hv)
          have d0 : decide (0 < k) = false := by simp; omega
          clear hv hk0
          generalize ns[k].a0 = nm at *
          generalize ns[k].a1 = vl at *
          go_wp2_with fail
          refine (unhide HP _).mono ?_
          rintro e w1 ⟨rfl, b1⟩
          obtain ⟨e0, e1⟩ := vbox b1
          have B1 := hide ((unhide HBr).trans (Below.mono (Below.trans (by go_grown : Below wr.heap.size wr _) (b1.mono (by simp))) (unhide HBr).size))
          clear b1
          go_wp2_with fail
          go_quiet (fail)
          go_wp2_with fail
          go_roundw
          case rel => exact ⟨k + 1, by omega, by go_num, HG2, hide ((unhide B1).trans ((belowN _ _).mono (unhide B1).size))⟩
          case measure => simp [intOf]; omega
        · obtain ⟨j, hj⟩ : ∃ j, k = j + 1 := ⟨k - 1, by omega⟩
          have hjl : j < ns.length := by omega
          have HUP := hide (show lessS ns[j].a0 ns[k].a0 = true → StampTo ns (k + 1) by subst hj; exact stamp_step hlt (unhide HG) hv)
          have HDN := hide (show lessS ns[j].a0 ns[k].a0 = false → false = stampB ns by subst hj; exact fun h => (stamp_down hlt h).symm)
          have HJ := hide (fun X (bx : Below W0.heap.size W0 X) => (unhide HC0 X bx j hjl).1)
          have HX := hide (fun X (bx : Below W0.heap.size W0 X) => ((unhide HBX).up bx).six.2.2.2.2.2)
          have hsub : (k : Int) - 1 = (j : Int) := by omega
          have hwr : IntKind.i64.wrap (j : Int) = (j : Int) := wrap_small _ (by omega) (by omega)
          have d0 : decide (0 < k) = true := by simp; omega
          have d1 : (j : Int) < (ns.length : Int) := by omega
          have HLE := hide (geq_leq ns[k].a0 ns[j].a0)
          clear hv hj hk0
          generalize ns[k].a0 = nm at *
          generalize ns[k].a1 = vl at *
          generalize ns[j].a0 = nj at *
          go_wp2_with fail
          refine (unhide HP _).mono ?_
          rintro e w1 ⟨rfl, b1⟩
          obtain ⟨e0, e1⟩ := vbox b1
          have B1 := hide ((unhide HBr).trans (Below.mono (Below.trans (by go_grown : Below wr.heap.size wr _) (b1.mono (by simp))) (unhide HBr).size))
          have f0 := unhide HJ w1 (unhide B1)
          have f1 := unhide HX w1 (unhide B1)
          clear b1
          go_wp2_with fail
          go_quiet (fail)
          rw [unhide HLE]
          cases hless : lessS nj nm
          · go_wp2_with fail
            go_ret
            exact ⟨ret_bool (unhide HDN hless), (unhide HB0).trans (((unhide B1).trans ((belowN _ _).mono (unhide B1).size)).mono (unhide HB0).size)⟩
          · have HG2 := hide (unhide HUP hless)
            go_wp2_with fail
            go_roundw
            case rel => exact ⟨k + 1, by omega, by go_num, HG2, hide ((unhide B1).trans ((belowN _ _).mono (unhide B1).size))⟩
            case measure => simp [intOf]; omega
      · have HR := hide (stamp_bad hlt hv).symm
        clear hv
        generalize ns[k].a0 = nm at *
        generalize ns[k].a1 = vl at *
        rcases hcase with p1 | ⟨p1, p2⟩ | ⟨p1, p2, p3⟩
        all_goals
          rw [p1] at HP
          go_wp2_with fail
          refine (unhide HP _).mono ?_
          rintro e w1 ⟨rfl, b1⟩
          obtain ⟨e0, e1⟩ := vbox b1
          have B1 := hide ((unhide HBr).trans (Below.mono (Below.trans (by go_grown : Below wr.heap.size wr _) (b1.mono (by simp))) (unhide HBr).size))
          clear b1
          go_wp2_with fail
          go_ret
          exact ⟨ret_bool (unhide HR), (unhide HB0).trans ((unhide B1).mono (unhide HB0).size)⟩
    · have e : k = ns.length := by omega
      have HR := hide (show true = stampB ns from (stamp_good (by omega) (by rw [e] at HG; exact unhide HG)).symm)
      clear e
      go_wp2_with fail
      go_ret
      exact ⟨ret_bool (unhide HR), (unhide HB0).trans ((unhide HBr).mono (unhide HB0).size)⟩
set_option maxHeartbeats 3200000 in
theorem tellFits_any (kind src dst val : Int) (name : ByteArray) (ns : List VerV) (a : Option Addr) (c : Nat) (w : World) (hl : ns.length ≤ 1048576) (h : VerIn w a ns) (hs : VerOk ns) :
    Calls Tryz.prog 152 #[.agg #[], .agg #[.int .i64 kind, .int .i64 src, .int .i64 dst, .string name, .int .i64 val, .slice a ns.length c]] w fun e w' => e = .returned (.bool (tellB ns)) ∧ Below w.heap.size w w' := by
  by_cases g1 : (ns.length : Int) < 1
  · have HR := hide (show false = tellB ns by simp [tellB]; omega)
    generalize ns.length = n at *
    go_enter Tryz.func152, Tryz.ntmps152
    go_wp2_with fail
    go_ret
    exact ⟨ret_bool (unhide HR), by go_grown⟩
  by_cases g2 : 12 < (ns.length : Int)
  · have HR := hide (show false = tellB ns by
      unfold tellB
      rw [stamp_long (by omega)]
      simp)
    generalize ns.length = n at *
    go_enter Tryz.func152, Tryz.ntmps152
    go_wp2_with fail
    go_ret
    exact ⟨ret_bool (unhide HR), by go_grown⟩
  have e : tellB ns = stampB ns := by simp [tellB]; omega
  rw [e]
  rcases h with rfl | ⟨b, off, rfl, hb, hc⟩
  · simp at g1
  · exact tellFits_row kind src dst val name ns b off c w (by omega) (by omega) hc hb hs
set_option maxHeartbeats 6400000 in
set_option maxRecDepth 20000 in
theorem implSayOk_val (kind src dst val : Int) (name : ByteArray) (stamp : List VerV) (a : Option Addr) (c : Nat) (w : World) (hs : SmallSay ⟨kind, src, dst, name, val, stamp⟩) (h : VerIn w a stamp) :
    Calls Tryz.prog 26 #[.agg #[.int .i64 kind, .int .i64 src, .int .i64 dst, .string name, .int .i64 val, .slice a stamp.length c]] w fun e w' => e = .returned (.bool (sayOkB ⟨kind, src, dst, name, val, stamp⟩)) ∧ Below w.heap.size w w' := by
  have HP := hide (fun W => implPlain_any name W (by have := hs.1.1; unfold maxLen; simp only at this; omega))
  have hln : stamp.length ≤ 1048576 := hs.1.2.1
  have HT := hide (fun W (b : Below w.heap.size w W) => tellFits_any kind src dst val name stamp a c W hln (h.below b) hs.2.1.2.2)
  have HBF := hide (fun W => bareFits_any kind src dst val name stamp.length a c W hln)
  have HK := hide (fun W => sayKindOf_any kind W)
  have BX0 := hide (boxMade w [.int .i64 kind, .int .i64 src, .int .i64 dst, .string name, .int .i64 val, .slice a stamp.length c] 24)
  clear hs h
  obtain ⟨R, HR⟩ : ∃ R, Hid (R = sayOkB ⟨kind, src, dst, name, val, stamp⟩) := ⟨_, rfl⟩
  rw [← unhide HR]
  by_cases g5 : src = dst
  · have HE := hide ((ok_false (s := ⟨kind, src, dst, name, val, stamp⟩) (.inl (by simp [g5]))).trans (unhide HR).symm)
    subst g5
    generalize stamp.length = n at *
    go_enter Tryz.func26, Tryz.ntmps26
    go_wp2_with fail
    go_ret
    exact ⟨ret_bool (unhide HE), by go_grown⟩
  have q5 : (src == dst) = false := by simpa using g5
  have HN1 := hide (fun W => nodeOk_any src W)
  have HN2 := hide (fun W => nodeOk_any dst W)
  cases g1 : nodeB src
  · have HE := hide ((ok_false (s := ⟨kind, src, dst, name, val, stamp⟩) (.inr (.inl g1))).trans (unhide HR).symm)
    rw [g1] at HN1
    clear g5 g1
    generalize stamp.length = n at *
    go_enter Tryz.func26, Tryz.ntmps26
    go_wp2_with fail
    refine (unhide HN1 _).mono ?_
    rintro e w1 ⟨rfl, hw⟩
    rw [hw]
    clear hw
    go_wp2_with fail
    go_ret
    exact ⟨ret_bool (unhide HE), by go_grown⟩
  cases g2 : nodeB dst
  · have HE := hide ((ok_false (s := ⟨kind, src, dst, name, val, stamp⟩) (.inr (.inr (.inl g2)))).trans (unhide HR).symm)
    rw [g1] at HN1
    rw [g2] at HN2
    clear g5 g1 g2
    generalize stamp.length = n at *
    go_enter Tryz.func26, Tryz.ntmps26
    go_wp2_with fail
    refine (unhide HN1 _).mono ?_
    rintro e w1 ⟨rfl, hw⟩
    rw [hw]
    clear hw
    go_wp2_with fail
    refine (unhide HN2 _).mono ?_
    rintro e w2 ⟨rfl, hw⟩
    rw [hw]
    clear hw
    go_wp2_with fail
    go_ret
    exact ⟨ret_bool (unhide HE), by go_grown⟩
  by_cases kk : kind = 1 ∨ kind = 2 ∨ kind = 3
  · obtain ⟨T, HT0⟩ : ∃ T, Hid (sayKind kind = .iface T (.agg #[])) := by
      rcases kk with rfl | rfl | rfl <;> exact ⟨_, rfl⟩
    cases g6 : plainB name
    · have HE := hide ((ok_false (s := ⟨kind, src, dst, name, val, stamp⟩) (.inr (.inr (.inr (.inl g6))))).trans (unhide HR).symm)
      rw [g1] at HN1
      rw [g2] at HN2
      rw [g6] at HP
      rw [unhide HT0] at HK
      clear g5 g1 g2 g6 kk
      generalize stamp.length = n at *
      go_enter Tryz.func26, Tryz.ntmps26
      go_wp2_with fail
      refine (unhide HN1 _).mono ?_
      rintro e w1 ⟨rfl, hw⟩
      rw [hw]
      clear hw
      go_wp2_with fail
      refine (unhide HN2 _).mono ?_
      rintro e w2 ⟨rfl, hw⟩
      rw [hw]
      clear hw
      go_wp2_with fail
      refine (unhide HK _).mono ?_
      rintro e w3 ⟨rfl, hw⟩
      rw [hw]
      clear hw
      go_wp2_with fail
      refine (unhide HP _).mono ?_
      rintro e w4 ⟨rfl, b4⟩
      have B4 := hide (show Below w.heap.size w w4 from Below.trans (by go_grown) (b4.mono (by simp)))
      clear b4
      go_wp2_with fail
      go_ret
      exact ⟨ret_bool (unhide HE), unhide B4⟩
    · have HE := hide ((ok_tail (s := ⟨kind, src, dst, name, val, stamp⟩) g5 g1 g2 g6).trans (unhide HR).symm)
      rw [g1] at HN1
      rw [g2] at HN2
      rw [g6] at HP
      clear g5 g1 g2 g6 HT0 T
      rcases kk with rfl | rfl | rfl
      · have HE2 := hide (show (decide (val = 0) && decide (stamp.length = 0)) = R by rw [← unhide HE]; simp [tailB])
        rw [show sayKind 1 = .iface 113 (.agg #[]) from rfl] at HK
        generalize stamp.length = n at *
        go_enter Tryz.func26, Tryz.ntmps26
        go_wp2_with fail
        refine (unhide HN1 _).mono ?_
        rintro e w1 ⟨rfl, hw⟩
        rw [hw]
        clear hw
        go_wp2_with fail
        refine (unhide HN2 _).mono ?_
        rintro e w2 ⟨rfl, hw⟩
        rw [hw]
        clear hw
        go_wp2_with fail
        refine (unhide HK _).mono ?_
        rintro e w3 ⟨rfl, hw⟩
        rw [hw]
        clear hw
        go_wp2_with fail
        refine (unhide HP _).mono ?_
        rintro e w4 ⟨rfl, b4⟩
        have B4 := hide (show Below w.heap.size w w4 from Below.trans (by go_grown) (b4.mono (by simp)))
        obtain ⟨x0, x1, x2, x3, x4, x5⟩ := ((unhide BX0).up b4).six
        have hz4 : w.heap.size < w4.heap.size := by have := b4.size; simp at this; omega
        clear b4
        go_wp2_with fail
        refine (unhide HBF _).mono ?_
        rintro e w5 ⟨rfl, b5⟩
        have B5 := hide ((unhide B4).trans (b5.mono (unhide B4).size))
        clear b5
        go_wp2_with fail
        go_ret
        exact ⟨ret_bool (unhide HE2), unhide B5⟩
      · have HE2 := hide (show tellB stamp = R by rw [← unhide HE]; simp [tailB, tellB])
        rw [show sayKind 2 = .iface 114 (.agg #[]) from rfl] at HK
        generalize stamp.length = n at *
        go_enter Tryz.func26, Tryz.ntmps26
        go_wp2_with fail
        refine (unhide HN1 _).mono ?_
        rintro e w1 ⟨rfl, hw⟩
        rw [hw]
        clear hw
        go_wp2_with fail
        refine (unhide HN2 _).mono ?_
        rintro e w2 ⟨rfl, hw⟩
        rw [hw]
        clear hw
        go_wp2_with fail
        refine (unhide HK _).mono ?_
        rintro e w3 ⟨rfl, hw⟩
        rw [hw]
        clear hw
        go_wp2_with fail
        refine (unhide HP _).mono ?_
        rintro e w4 ⟨rfl, b4⟩
        have B4 := hide (show Below w.heap.size w w4 from Below.trans (by go_grown) (b4.mono (by simp)))
        obtain ⟨x0, x1, x2, x3, x4, x5⟩ := ((unhide BX0).up b4).six
        have hz4 : w.heap.size < w4.heap.size := by have := b4.size; simp at this; omega
        clear b4
        go_wp2_with fail
        refine (unhide HT _ (unhide B4)).mono ?_
        rintro e w5 ⟨rfl, b5⟩
        have B5 := hide ((unhide B4).trans (b5.mono (unhide B4).size))
        clear b5
        go_wp2_with fail
        go_ret
        exact ⟨ret_bool (unhide HE2), unhide B5⟩
      · have HE2 := hide (show (decide (val = 0) && decide (stamp.length = 0)) = R by rw [← unhide HE]; simp [tailB])
        rw [show sayKind 3 = .iface 115 (.agg #[]) from rfl] at HK
        generalize stamp.length = n at *
        go_enter Tryz.func26, Tryz.ntmps26
        go_wp2_with fail
        refine (unhide HN1 _).mono ?_
        rintro e w1 ⟨rfl, hw⟩
        rw [hw]
        clear hw
        go_wp2_with fail
        refine (unhide HN2 _).mono ?_
        rintro e w2 ⟨rfl, hw⟩
        rw [hw]
        clear hw
        go_wp2_with fail
        refine (unhide HK _).mono ?_
        rintro e w3 ⟨rfl, hw⟩
        rw [hw]
        clear hw
        go_wp2_with fail
        refine (unhide HP _).mono ?_
        rintro e w4 ⟨rfl, b4⟩
        have B4 := hide (show Below w.heap.size w w4 from Below.trans (by go_grown) (b4.mono (by simp)))
        obtain ⟨x0, x1, x2, x3, x4, x5⟩ := ((unhide BX0).up b4).six
        have hz4 : w.heap.size < w4.heap.size := by have := b4.size; simp at this; omega
        clear b4
        go_wp2_with fail
        refine (unhide HBF _).mono ?_
        rintro e w5 ⟨rfl, b5⟩
        have B5 := hide ((unhide B4).trans (b5.mono (unhide B4).size))
        clear b5
        go_wp2_with fail
        go_ret
        exact ⟨ret_bool (unhide HE2), unhide B5⟩
  · have HE := hide ((ok_false (s := ⟨kind, src, dst, name, val, stamp⟩) (.inr (.inr (.inr (.inr (by
      have k2 : ¬ kind = 2 := fun e => kk (.inr (.inl e))
      have k1 : ¬ (kind = 1 ∨ kind = 3) := fun e => e.elim (fun e => kk (.inl e)) (fun e => kk (.inr (.inr e)))
      simp [tailB, k2, k1])))))).trans (unhide HR).symm)
    rw [g1] at HN1
    rw [g2] at HN2
    have HK0 := hide (show sayKind kind = .nilIface by
      unfold sayKind
      rw [if_neg (fun e => kk (.inl e)), if_neg (fun e => kk (.inr (.inl e))), if_neg (fun e => kk (.inr (.inr e)))])
    rw [unhide HK0] at HK
    clear g5 g1 g2 kk
    generalize stamp.length = n at *
    go_enter Tryz.func26, Tryz.ntmps26
    go_wp2_with fail
    refine (unhide HN1 _).mono ?_
    rintro e w1 ⟨rfl, hw⟩
    rw [hw]
    clear hw
    go_wp2_with fail
    refine (unhide HN2 _).mono ?_
    rintro e w2 ⟨rfl, hw⟩
    rw [hw]
    clear hw
    go_wp2_with fail
    refine (unhide HK _).mono ?_
    rintro e w3 ⟨rfl, hw⟩
    rw [hw]
    clear hw
    go_wp2_with fail
    go_ret
    exact ⟨ret_bool (unhide HE), by go_grown⟩
theorem implSayOk_any (d : SayV) (v : Value) (w : World) (hs : SmallSay d) (h : SayRd w v d) : Calls Tryz.prog 26 #[v] w fun e w' => e = .returned (.bool (sayOkB d)) ∧ Below w.heap.size w w' := by
  obtain ⟨v5, rfl, a, c, rfl, h⟩ := h
  exact implSayOk_val d.kind d.src d.dst d.val d.name d.stamp a c w hs h
end Go.Proofs.YtiebfcefmdiajaaGreatDoor
