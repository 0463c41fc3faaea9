/-
  The specification's SayOk.
-/
/-
  Words in memory: for reading and of one's own; the laws' own helpers over one: how much it holds, how it is copied, compared, and how one that comes in is opened.
-/
/-
  The specification's SayOk.
-/
import Derived.Test.YtiebfcefmdiajaaGreatDoorMerged7
import Derived.BigQuiet
import Derived.Deep.QuietTactic
import Derived.Handy
import Derived.Laws.Cover1
import Derived.Test.YtiebfcefmdiajaaGreatDoorBoxes
import Derived.OpenShut
set_option linter.unusedVariables false
namespace Go.Proofs.YtiebfcefmdiajaaGreatDoor
open Go.RowKit Go.Maps Go.Deep

set_option maxHeartbeats 3200000 in
theorem l9Stamp_row (w : World) (b off cap : Nat) (ns : List VerV) (hl : (ns.length : Int) ≤ 12) (hc : VerAt w b off ns) (hb : b < w.heap.size) (hs : VerOk ns) :
    Calls Tryz.prog 36 #[.slice (some ⟨b, off, none⟩) ns.length cap] w fun e w' => e = .returned (.bool (stampB ns)) ∧ Below w.heap.size w w' := by
  have HS := hide hs
  have HC := hide hc
  have g12 : ¬ 12 < (ns.length : Int) := by omega
  clear hs hc
  go_enter Tryz.func36, Tryz.ntmps36
  go_wp2_with fail
  go_loopw [3] (fun i wr => ∃ k : Nat, k ≤ ns.length ∧ i = .int .i64 k ∧ Hid (StampTo ns k) ∧ Hid (Below w.heap.size w wr)) (fun i _ => ns.length - (intOf i).toNat)
  case atStart => exact ⟨0, Nat.zero_le _, rfl, stamp_zero ns, Below.refl _ _⟩
  case round =>
    obtain ⟨k, hk, rfl, HG, HBr⟩ := hrel
    by_cases hlt : k < ns.length
    · obtain ⟨c0, c1⟩ := unhide HC k hlt
      rw [← (unhide HBr).cell (by exact hb)] at c0 c1
      have hname := hide (unhide HS _ (List.getElem_mem hlt)).1
      have HP := hide (fun W => specPlain9_any ns[k].a0 W (unhide hname))
      rcases ver_cases ns[k] with ⟨hv, p1, p2, p3⟩ | ⟨hv, hcase⟩
      · rw [p1] at HP
        by_cases hk0 : k = 0
        · have HG2 := hide (show StampTo ns (k + 1) by subst hk0; exact stamp_step0 hlt hv)
          have d0 : decide (0 < k) = false := by simp; omega
          clear hv hk0
          generalize ns[k].a0 = nm at *
          generalize ns[k].a1 = vl at *
          go_wp2_with fail
          refine (unhide HP _).mono ?_
          rintro e w1 ⟨rfl, hw⟩
          rw [hw]
          clear hw
          go_wp2_with fail
          go_quiet (fail)
          go_wp2_with fail
          go_roundw
          case rel => exact ⟨k + 1, by omega, by go_num, HG2, hide ((unhide HBr).trans ((belowN _ _).mono (unhide HBr).size))⟩
          case measure => simp [intOf]; omega
        · obtain ⟨j, hj⟩ : ∃ j, k = j + 1 := ⟨k - 1, by omega⟩
          have hjl : j < ns.length := by omega
          obtain ⟨e0, e1⟩ := unhide HC j hjl
          rw [← (unhide HBr).cell (by exact hb)] at e0 e1
          have HUP := hide (show lessS ns[j].a0 ns[k].a0 = true → StampTo ns (k + 1) by subst hj; exact stamp_step hlt (unhide HG) hv)
          have HDN := hide (show lessS ns[j].a0 ns[k].a0 = false → false = stampB ns by subst hj; exact fun h => (stamp_down hlt h).symm)
          unfold lessS at HUP HDN
          have hsub : (k : Int) - 1 = (j : Int) := by omega
          have hwr : IntKind.i64.wrap (j : Int) = (j : Int) := wrap_small _ (by omega) (by omega)
          have d0 : decide (0 < k) = true := by simp; omega
          have d1 : (j : Int) < (ns.length : Int) := by omega
          have d2 : (k : Int) < (ns.length : Int) := by omega
          clear hv hj hk0
          generalize ns[k].a0 = nm at *
          generalize ns[k].a1 = vl at *
          generalize ns[j].a0 = nj at *
          generalize ns[j].a1 = vj at *
          go_wp2_with fail
          refine (unhide HP _).mono ?_
          rintro e w1 ⟨rfl, hw⟩
          rw [hw]
          clear hw
          go_wp2_with fail
          go_quiet (fail)
          cases hless : Op.bytesLess nj.toList nm.toList
          · go_wp2_with fail
            go_ret
            exact ⟨ret_bool (unhide HDN hless), (unhide HBr).trans ((belowN _ _).mono (unhide HBr).size)⟩
          · have HG2 := hide (unhide HUP hless)
            go_wp2_with fail
            go_roundw
            case rel => exact ⟨k + 1, by omega, by go_num, HG2, hide ((unhide HBr).trans ((belowN _ _).mono (unhide HBr).size))⟩
            case measure => simp [intOf]; omega
      · have HR := hide (stamp_bad hlt hv).symm
        clear hv
        generalize ns[k].a0 = nm at *
        generalize ns[k].a1 = vl at *
        rcases hcase with p1 | ⟨p1, p2⟩ | ⟨p1, p2, p3⟩
        all_goals
          rw [p1] at HP
          go_wp2_with fail
          refine (unhide HP _).mono ?_
          rintro e w1 ⟨rfl, hw⟩
          rw [hw]
          clear hw
          go_wp2_with fail
          go_ret
          exact ⟨ret_bool (unhide HR), unhide HBr⟩
    · have e : k = ns.length := by omega
      have HR := hide (show true = stampB ns from (stamp_good (by omega) (by rw [e] at HG; exact unhide HG)).symm)
      clear e
      go_wp2_with fail
      go_ret
      exact ⟨ret_bool (unhide HR), unhide HBr⟩
theorem l9Stamp_none (w : World) (a : Option Addr) (cap : Nat) : Calls Tryz.prog 36 #[.slice a 0 cap] w fun e w' => e = .returned (.bool (stampB [])) ∧ Below w.heap.size w w' := by
  go_enter Tryz.func36, Tryz.ntmps36
  go_wp2_with fail
  refine wp_loop_rounds 1 ?_
  rw [rounds_succ]
  go_wp2_with fail
  go_ret
  exact ⟨rfl, Below.refl _ _⟩
theorem l9Stamp_long (w : World) (a : Option Addr) (cap : Nat) (ns : List VerV) (hl : ¬ (ns.length : Int) ≤ 12) : Calls Tryz.prog 36 #[.slice a ns.length cap] w fun e w' => e = .returned (.bool (stampB ns)) ∧ Below w.heap.size w w' := by
  have HR := hide (show false = stampB ns from (stamp_long (by omega)).symm)
  have g : 12 < (ns.length : Int) := by omega
  generalize ns.length = n at *
  go_enter Tryz.func36, Tryz.ntmps36
  go_wp2_with fail
  go_ret
  exact ⟨ret_bool (unhide HR), Below.refl _ _⟩
theorem l9Stamp_any (w : World) (v : Value) (ns : List VerV) (hs : VerOk ns) (h : VerRd w v ns) : Calls Tryz.prog 36 #[v] w fun e w' => e = .returned (.bool (stampB ns)) ∧ Below w.heap.size w w' := by
  obtain ⟨a, c, rfl, h⟩ := h
  by_cases hl : (ns.length : Int) ≤ 12
  · rcases h with rfl | ⟨b, off, rfl, hb, hc⟩
    · exact l9Stamp_none w a c
    · exact l9Stamp_row w b off c ns hl hc hb hs
  · exact l9Stamp_long w a c ns hl
end Go.Proofs.YtiebfcefmdiajaaGreatDoor

set_option linter.unusedVariables false
namespace Go.Proofs.YtiebfcefmdiajaaGreatDoor
open Go.RowKit Go.Maps Go.Deep Go.ChangeShapes Go.WideShapes Go.ChangeAt

def SayFit (s : SayV) : Prop := (s.name.size ≤ maxLen ∧ s.stamp.length ≤ maxLen ∧ VerOk s.stamp) ∧ (-9223372036854775808 ≤ s.kind ∧ s.kind ≤ 9223372036854775807) ∧ (-9223372036854775808 ≤ s.src ∧ s.src ≤ 9223372036854775807) ∧ (-9223372036854775808 ≤ s.dst ∧ s.dst ≤ 9223372036854775807) ∧ (-9223372036854775808 ≤ s.val ∧ s.val ≤ 9223372036854775807)
def SmallSay (s : SayV) : Prop := (s.name.size ≤ 1048576 ∧ VerSmall s.stamp) ∧ SayFit s
def SayRd (w : World) (v : Value) (s : SayV) : Prop := ∃ v5, v = .agg #[.int .i64 s.kind, .int .i64 s.src, .int .i64 s.dst, .string s.name, .int .i64 s.val, v5] ∧ VerRd w v5 s.stamp
def SayOwn (S : List Nat) (w : World) (v : Value) (s : SayV) : Prop := ∃ v5, v = .agg #[.int .i64 s.kind, .int .i64 s.src, .int .i64 s.dst, .string s.name, .int .i64 s.val, v5] ∧ VerOwn S w v5 s.stamp
theorem SayRd.up {w w' : World} {v : Value} {d : SayV} (h : SayRd w v d) (hb : Below w.heap.size w w') : SayRd w' v d := by
  obtain ⟨v0, e, h0⟩ := h
  exact ⟨v0, e, h0.up hb⟩
theorem SayOwn.rd {S : List Nat} {w : World} {v : Value} {d : SayV} (h : SayOwn S w v d) : SayRd w v d := by
  obtain ⟨v0, e, h0⟩ := h
  exact ⟨v0, e, h0.rd⟩
theorem SayOwn.turn {S S' : List Nat} {w w' : World} {v : Value} {d : SayV} (h : SayOwn S w v d) (ht : Turn S' w w') (hS : ∀ k ∈ S, k ∉ S') : SayOwn S w' v d := by
  obtain ⟨v0, e, h0⟩ := h
  exact ⟨v0, e, h0.turn ht hS⟩
theorem SayOwn.up {S : List Nat} {w w' : World} {v : Value} {d : SayV} (h : SayOwn S w v d) (hb : Below w.heap.size w w') : SayOwn S w' v d := h.turn (Turn.of_below (S := []) hb) (by simp)
theorem SayOwn.lt {S : List Nat} {w : World} {v : Value} {d : SayV} (h : SayOwn S w v d) : ∀ k ∈ S, k < w.heap.size := by
  obtain ⟨v0, e, h0⟩ := h
  exact h0.lt
theorem SayRd.form {w : World} {v : Value} {d : SayV} (h : SayRd w v d) : ∃ k f t nm vl a n c, v = .agg #[.int .i64 k, .int .i64 f, .int .i64 t, .string nm, .int .i64 vl, .slice a n c] := by
  obtain ⟨v0, rfl, h0⟩ := h
  obtain ⟨a0, c0, rfl⟩ := h0.len
  exact ⟨_, _, _, _, _, _, _, _, rfl⟩
def nSay (d : SayV) : Nat := 2 * d.stamp.length
theorem nSay_le {d : SayV} (h : SmallSay d) : nSay d ≤ 100000000 := by have := h.1.2.1; unfold nSay; omega
theorem bcell {W w1 : World} (hb : Below W.heap.size W w1) : (∀ b o, b < W.heap.size → w1.cell? ⟨b, o, none⟩ = W.cell? ⟨b, o, none⟩) ∧ (∀ b o, b < W.heap.size → w1.frozen? ⟨b, o, none⟩ = W.frozen? ⟨b, o, none⟩) :=
  ⟨fun b o h => hb.cell (p := ⟨b, o, none⟩) h, fun b o h => hb.frozen (p := ⟨b, o, none⟩) h⟩
set_option maxHeartbeats 3200000 in
theorem eqSay_kit (d : SayV) (v v' : Value) (w : World) (hs : SmallSay d) (h : SayRd w v d) (h' : SayRd w v' d) :
    Calls Tryz.prog 8 #[v, v'] w fun e w' => e = .returned (.bool true) ∧ Below w.heap.size w w' := by
  obtain ⟨v0, rfl, i0⟩ := h
  obtain ⟨v0', rfl, i0'⟩ := h'
  obtain ⟨kind, src, dst, name, val, stamp⟩ := d
  have hl := hs.1.2.1
  simp only at hl i0 i0' ⊢
  have HA := hide (fun W (b : Below w.heap.size w W) => eqVerS_rd W v0 v0' stamp (by omega) (i0.up b) (i0'.up b))
  obtain ⟨a0, c0, rfl⟩ := i0.len
  obtain ⟨a0', c0', rfl⟩ := i0'.len
  clear i0 i0' hs hl
  go_enter Tryz.func8, Tryz.ntmps8
  go_wp2_with fail
  refine (unhide HA _ (by go_grown)).mono ?_
  rintro e w1 ⟨rfl, b1⟩
  have B1 := hide (show Below w.heap.size w w1 from Below.trans (by go_grown) (b1.mono (by simp; omega)))
  clear b1
  go_wp2_with fail
  go_ret
  exact ⟨rfl, unhide B1⟩
end Go.Proofs.YtiebfcefmdiajaaGreatDoor

set_option linter.unusedVariables false
namespace Go.Proofs.YtiebfcefmdiajaaGreatDoor
open Go.RowKit Go.Maps Go.Deep

theorem ok_false {s : SayV} (h : decide (s.src ≠ s.dst) = false ∨ nodeB s.src = false ∨ nodeB s.dst = false ∨ plainB s.name = false ∨ tailB s = false) : false = sayOkB s := by
  unfold sayOkB
  rcases h with h | h | h | h | h <;> simp [h]
theorem ok_tail {s : SayV} (h1 : s.src ≠ s.dst) (h2 : nodeB s.src = true) (h3 : nodeB s.dst = true) (h4 : plainB s.name = true) : tailB s = sayOkB s := by
  unfold sayOkB
  simp [h1, h2, h3, h4]
theorem node_low {n : Int} (h : n < 0) : nodeB n = false := by simp [nodeB]; omega
theorem node_high {n : Int} (h : 9 < n) : nodeB n = false := by simp [nodeB]; omega
theorem node_ok {n : Int} (h0 : ¬ n < 0) (h1 : ¬ 9 < n) : nodeB n = true := by simp [nodeB]; omega
set_option maxHeartbeats 6400000 in
theorem specSayOk_val (kind src dst val : Int) (name : ByteArray) (stamp : List VerV) (a : Option Addr) (c : Nat) (w : World) (hs : SmallSay ⟨kind, src, dst, name, val, stamp⟩) (h : VerIn w a stamp) :
    Calls Tryz.prog 14 #[.agg #[.int .i64 kind, .int .i64 src, .int .i64 dst, .string name, .int .i64 val, .slice a stamp.length c]] w fun e w' => e = .returned (.bool (sayOkB ⟨kind, src, dst, name, val, stamp⟩)) ∧ Below w.heap.size w w' := by
  have HP := hide (fun W => specPlain9_any name W (by have := hs.1.1; unfold maxLen; simp only at this; omega))
  have HT := hide (fun W (b : Below w.heap.size w W) => l9Stamp_any W (.slice a stamp.length c) stamp hs.2.1.2.2 ⟨a, c, rfl, h.below b⟩)
  have hln : stamp.length ≤ 1048576 := hs.1.2.1
  clear hs h
  obtain ⟨R, HR⟩ : ∃ R, Hid (R = sayOkB ⟨kind, src, dst, name, val, stamp⟩) := ⟨_, rfl⟩
  rw [← unhide HR]
  by_cases g1 : src < 0
  · have HE := hide ((ok_false (s := ⟨kind, src, dst, name, val, stamp⟩) (.inr (.inl (node_low g1)))).trans (unhide HR).symm)
    generalize stamp.length = n at *
    go_enter Tryz.func14, Tryz.ntmps14
    go_wp2_with fail
    go_ret
    exact ⟨ret_bool (unhide HE), by go_grown⟩
  by_cases g2 : 9 < src
  · have HE := hide ((ok_false (s := ⟨kind, src, dst, name, val, stamp⟩) (.inr (.inl (node_high g2)))).trans (unhide HR).symm)
    generalize stamp.length = n at *
    go_enter Tryz.func14, Tryz.ntmps14
    go_wp2_with fail
    go_ret
    exact ⟨ret_bool (unhide HE), by go_grown⟩
  by_cases g3 : dst < 0
  · have HE := hide ((ok_false (s := ⟨kind, src, dst, name, val, stamp⟩) (.inr (.inr (.inl (node_low g3))))).trans (unhide HR).symm)
    generalize stamp.length = n at *
    go_enter Tryz.func14, Tryz.ntmps14
    go_wp2_with fail
    go_ret
    exact ⟨ret_bool (unhide HE), by go_grown⟩
  by_cases g4 : 9 < dst
  · have HE := hide ((ok_false (s := ⟨kind, src, dst, name, val, stamp⟩) (.inr (.inr (.inl (node_high g4))))).trans (unhide HR).symm)
    generalize stamp.length = n at *
    go_enter Tryz.func14, Tryz.ntmps14
    go_wp2_with fail
    go_ret
    exact ⟨ret_bool (unhide HE), by go_grown⟩
  by_cases g5 : src = dst
  · have HE := hide ((ok_false (s := ⟨kind, src, dst, name, val, stamp⟩) (.inl (by simp [g5]))).trans (unhide HR).symm)
    subst g5
    generalize stamp.length = n at *
    go_enter Tryz.func14, Tryz.ntmps14
    go_wp2_with fail
    go_ret
    exact ⟨ret_bool (unhide HE), by go_grown⟩
  have q5 : (src == dst) = false := by simpa using g5
  cases g6 : plainB name
  · have HE := hide ((ok_false (s := ⟨kind, src, dst, name, val, stamp⟩) (.inr (.inr (.inr (.inl g6))))).trans (unhide HR).symm)
    rw [g6] at HP
    clear g5 g6
    generalize stamp.length = n at *
    go_enter Tryz.func14, Tryz.ntmps14
    go_wp2_with fail
    refine (unhide HP _).mono ?_
    rintro e w1 ⟨rfl, hw⟩
    rw [hw]
    clear hw
    go_wp2_with fail
    go_ret
    exact ⟨ret_bool (unhide HE), by go_grown⟩
  rw [g6] at HP
  have HE := hide ((ok_tail (s := ⟨kind, src, dst, name, val, stamp⟩) g5 (node_ok g1 g2) (node_ok g3 g4) g6).trans (unhide HR).symm)
  clear g5 g6
  by_cases k2 : kind = 2
  · subst k2
    by_cases hl0 : stamp.length = 0
    · have HE2 := hide (show false = R by rw [← unhide HE]; simp [tailB, hl0])
      rw [hl0]
      go_enter Tryz.func14, Tryz.ntmps14
      go_wp2_with fail
      refine (unhide HP _).mono ?_
      rintro e w1 ⟨rfl, hw⟩
      rw [hw]
      clear hw
      go_wp2_with fail
      go_ret
      exact ⟨ret_bool (unhide HE2), by go_grown⟩
    · have HE2 := hide (show stampB stamp = R by rw [← unhide HE]; simp [tailB]; omega)
      have hl1 : (0 : Int) < (stamp.length : Int) := by omega
      clear hl0
      go_enter Tryz.func14, Tryz.ntmps14
      go_wp2_with fail
      refine (unhide HP _).mono ?_
      rintro e w1 ⟨rfl, hw⟩
      rw [hw]
      clear hw
      go_wp2_with fail
      refine (unhide HT _ (by go_grown)).mono ?_
      rintro e w2 ⟨rfl, b2⟩
      have B2 := hide (show Below w.heap.size w w2 from Below.trans (by go_grown) (b2.mono (by simp)))
      clear b2
      go_wp2_with fail
      go_ret
      exact ⟨ret_bool (unhide HE2), unhide B2⟩
  by_cases k1 : kind = 1 ∨ kind = 3
  · have HE2 := hide (show (decide (val = 0) && decide (stamp.length = 0)) = R by rw [← unhide HE]; simp [tailB, k2, k1])
    by_cases hv : val = 0
    · subst hv
      have HE3 := hide (show ((stamp.length : Int) == 0) = R by
        rw [← unhide HE2, Bool.eq_iff_iff]
        simp)
      clear k2
      generalize stamp.length = n at *
      rcases k1 with rfl | rfl
      all_goals
        go_enter Tryz.func14, Tryz.ntmps14
        go_wp2_with fail
        refine (unhide HP _).mono ?_
        rintro e w1 ⟨rfl, hw⟩
        rw [hw]
        clear hw
        go_wp2_with fail
        go_ret
        exact ⟨ret_bool (unhide HE3), by go_grown⟩
    · have HE3 := hide (show false = R by rw [← unhide HE2]; simp [hv])
      have qv : (val == 0) = false := by simpa using hv
      clear k2 hv
      generalize stamp.length = n at *
      rcases k1 with rfl | rfl
      all_goals
        go_enter Tryz.func14, Tryz.ntmps14
        go_wp2_with fail
        refine (unhide HP _).mono ?_
        rintro e w1 ⟨rfl, hw⟩
        rw [hw]
        clear hw
        go_wp2_with fail
        go_ret
        exact ⟨ret_bool (unhide HE3), by go_grown⟩
  · have HE2 := hide (show false = R by rw [← unhide HE]; simp [tailB, k2, k1])
    have q1 : (kind == 1) = false := by rw [beq_eq_false_iff_ne]; intro e; exact k1 (.inl e)
    have q2 : (kind == 2) = false := by simpa using k2
    have q3 : (kind == 3) = false := by rw [beq_eq_false_iff_ne]; intro e; exact k1 (.inr e)
    clear k1 k2
    generalize stamp.length = n at *
    go_enter Tryz.func14, Tryz.ntmps14
    go_wp2_with fail
    refine (unhide HP _).mono ?_
    rintro e w1 ⟨rfl, hw⟩
    rw [hw]
    clear hw
    go_wp2_with fail
    go_ret
    exact ⟨ret_bool (unhide HE2), by go_grown⟩
theorem specSayOk_any (d : SayV) (v : Value) (w : World) (hs : SmallSay d) (h : SayRd w v d) : Calls Tryz.prog 14 #[v] w fun e w' => e = .returned (.bool (sayOkB d)) ∧ Below w.heap.size w w' := by
  obtain ⟨v5, rfl, a, c, rfl, h⟩ := h
  exact specSayOk_val d.kind d.src d.dst d.val d.name d.stamp a c w hs h
end Go.Proofs.YtiebfcefmdiajaaGreatDoor
