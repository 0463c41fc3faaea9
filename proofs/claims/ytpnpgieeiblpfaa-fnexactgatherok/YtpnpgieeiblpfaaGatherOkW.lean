/-
  GatherOk of both sides.
-/
import Derived.Test.YtpnpgieeiblpfaaGathers
import Derived.Test.YtpnpgieeiblpfaaGatherS
import Derived.Test.YtpnpgieeiblpfaaGatherI
import Derived.Test.YtpnpgieeiblpfaaChoiceS
import Derived.Test.YtpnpgieeiblpfaaChoiceI1
import Derived.Test.YtpnpgieeiblpfaaStampI
set_option linter.unusedVariables false
namespace Go.Proofs.Ytpnpgieeiblpfaa
open Go.RowKit Go.Maps Go.Deep

def gatherB (g : GatherV) : Bool := insB g.ins && (decide (g.wins.length = g.ins.length) && (winsB g.wins && mstampB g.shown))
theorem gather_parts {w : World} {g : GatherV} {a0 a1 a2 : Option Addr} {n0 c0 n1 c1 n2 c2 : Nat} (h : GatherRd w (.agg #[.slice a0 n0 c0, .slice a1 n1 c1, .slice a2 n2 c2]) g) : n0 = g.ins.length ∧ n1 = g.wins.length ∧ ∀ W, Below w.heap.size w W → StringSRd W (.slice a0 n0 c0) g.ins ∧ ItemSSRd W (.slice a1 n1 c1) g.wins ∧ MarkSRd W (.slice a2 n2 c2) g.shown := by
  have key : ∀ W, Below w.heap.size w W → StringSRd W (.slice a0 n0 c0) g.ins ∧ ItemSSRd W (.slice a1 n1 c1) g.wins ∧ MarkSRd W (.slice a2 n2 c2) g.shown := fun W b => by
    obtain ⟨v0, v1, v2, e, h0, h1, h2⟩ := h.up b
    simp only [Value.agg.injEq, Array.mk.injEq, List.cons.injEq, and_true] at e
    obtain ⟨rfl, rfl, rfl⟩ := e
    exact ⟨h0, h1, h2⟩
  obtain ⟨k0, k1, _⟩ := key w (Below.refl _ _)
  obtain ⟨_, _, e0, _⟩ := k0
  obtain ⟨_, _, e1, _⟩ := k1
  simp only [Value.slice.injEq] at e0 e1
  exact ⟨e0.2.1, e1.2.1, key⟩
theorem inputsOk_rd (ins : List ByteArray) (a : Option Addr) (n c : Nat) (w : World) (hs : SmallStringS ins) (hcap : n ≤ c) (h : StringSRd w (.slice a n c) ins) :
    Calls Try.prog 43 #[.slice a n c] w fun e w' => e = .returned (.bool (insB ins)) ∧ Below w.heap.size w w' := by
  obtain ⟨a', c', e, h⟩ := h
  simp only [Value.slice.injEq] at e
  obtain ⟨rfl, rfl, rfl⟩ := e
  exact inputsOk_any ins a c w hs hcap h
set_option maxHeartbeats 3200000 in
theorem specGatherOk_any (d : GatherV) (v : Value) (w : World) {S : List Nat} (hs : SmallGather d) (h : GatherOwn S w v d) :
    Calls Try.prog 21 #[v] w fun e w' => e = .returned (.bool (gatherB d)) ∧ Below w.heap.size w w' := by
  obtain ⟨a0, n0, c0, a1, n1, c1, a2, n2, c2, rfl⟩ := h.rd.form
  obtain ⟨e0, e1, hp⟩ := gather_parts h.rd
  have hroom := h.2.2 a0 n0 c0 _ _ rfl
  have HP := hide hp
  have HS := hide hs
  have hz0 := hs.1.1
  have hz1 := hs.2.1.1
  have HB := hide (show gatherB d = (insB d.ins && (decide (n1 = n0) && (winsB d.wins && mstampB d.shown))) by rw [e0, e1]; rfl)
  rw [← e0] at hz0
  rw [← e1] at hz1
  have H1 := hide (fun W (b : Below w.heap.size w W) => l16Ins_any d.ins (.slice a0 n0 c0) W hs.1 (hp W b).1)
  have H2 := hide (fun W (b : Below w.heap.size w W) => l15Ok_any d.wins (.slice a1 n1 c1) W hs.2.1 (hp W b).2.1)
  have H3 := hide (fun W (b : Below w.heap.size w W) => specStampOk_any d.shown (.slice a2 n2 c2) W hs.2.2 (hp W b).2.2)
  clear h hp hs e0 e1 hroom HP HS
  rw [unhide HB]
  clear HB
  generalize insB d.ins = r1 at *
  generalize winsB d.wins = r2 at *
  generalize mstampB d.shown = r3 at *
  obtain ⟨bx, bb, zz⟩ := boxNew3 w (.slice a0 n0 c0) (.slice a1 n1 c1) (.slice a2 n2 c2) 46
  obtain ⟨x0, x1, x2⟩ := bx.three
  go_enter Try.func21, Try.ntmps21
  go_wp2_with fail
  generalize w.alloc (.cells #[.slice a0 n0 c0, .slice a1 n1 c1, .slice a2 n2 c2] 46) = W at *
  have X := hide bx
  have B0 := hide bb
  clear bx bb zz x0 x1 x2
  refine (unhide H1 _ (unhide B0)).mono ?_
  rintro e w1 ⟨rfl, b1⟩
  have X1 := hide ((unhide X).up b1)
  have B1 := hide ((unhide B0).trans (b1.mono (unhide B0).size))
  clear b1 X B0 H1
  obtain ⟨x0, x1, x2⟩ := (unhide X1).three
  cases r1
  · go_wp2_with fail
    go_ret
    exact ⟨rfl, unhide B1⟩
  by_cases hn : n1 = n0
  · subst hn
    go_wp2_with fail
    clear x0 x1 x2
    refine (unhide H2 _ (unhide B1)).mono ?_
    rintro e w2 ⟨rfl, b2⟩
    have X2 := hide ((unhide X1).up b2)
    have B2 := hide ((unhide B1).trans (b2.mono (unhide B1).size))
    clear b2 X1 B1 H2
    obtain ⟨x0, x1, x2⟩ := (unhide X2).three
    cases r2
    · go_wp2_with fail
      go_ret
      exact ⟨ret_bool (by simp), unhide B2⟩
    go_wp2_with fail
    clear x0 x1 x2
    refine (unhide H3 _ (unhide B2)).mono ?_
    rintro e w3 ⟨rfl, b3⟩
    have B3 := hide ((unhide B2).trans (b3.mono (unhide B2).size))
    clear b3 X2 B2 H3
    go_wp2_with fail
    go_ret
    exact ⟨ret_bool (by simp), unhide B3⟩
  · have q1 : ((n1 : Int) == (n0 : Int)) = false := by rw [beq_eq_false_iff_ne]; omega
    have q2 := hide (decide_eq_false hn)
    clear hn
    go_wp2_with fail
    go_ret
    exact ⟨ret_bool (by rw [unhide q2]; rfl), unhide B1⟩
set_option maxHeartbeats 3200000 in
theorem implGatherOk_any (d : GatherV) (v : Value) (w : World) {S : List Nat} (hs : SmallGather d) (h : GatherOwn S w v d) :
    Calls Try.prog 23 #[v] w fun e w' => e = .returned (.bool (gatherB d)) ∧ Below w.heap.size w w' := by
  obtain ⟨a0, n0, c0, a1, n1, c1, a2, n2, c2, rfl⟩ := h.rd.form
  obtain ⟨e0, e1, hp⟩ := gather_parts h.rd
  have hroom := h.2.2 a0 n0 c0 _ _ rfl
  have HP := hide hp
  have HS := hide hs
  have hz0 := hs.1.1
  have hz1 := hs.2.1.1
  have HB := hide (show gatherB d = (insB d.ins && (decide (n1 = n0) && (winsB d.wins && mstampB d.shown))) by rw [e0, e1]; rfl)
  rw [← e0] at hz0
  rw [← e1] at hz1
  have H1 := hide (fun W (b : Below w.heap.size w W) => inputsOk_rd d.ins a0 n0 c0 W hs.1 hroom (hp W b).1)
  have H2 := hide (fun W (b : Below w.heap.size w W) => windowsOk_any d.wins (.slice a1 n1 c1) W hs.2.1 (hp W b).2.1)
  have H3 := hide (fun W (b : Below w.heap.size w W) => implStampOk_any d.shown (.slice a2 n2 c2) W hs.2.2 (hp W b).2.2)
  clear h hp hs e0 e1 hroom HP HS
  rw [unhide HB]
  clear HB
  generalize insB d.ins = r1 at *
  generalize winsB d.wins = r2 at *
  generalize mstampB d.shown = r3 at *
  obtain ⟨bx, bb, zz⟩ := boxNew3 w (.slice a0 n0 c0) (.slice a1 n1 c1) (.slice a2 n2 c2) 46
  obtain ⟨x0, x1, x2⟩ := bx.three
  go_enter Try.func23, Try.ntmps23
  go_wp2_with fail
  generalize w.alloc (.cells #[.slice a0 n0 c0, .slice a1 n1 c1, .slice a2 n2 c2] 46) = W at *
  have X := hide bx
  have B0 := hide bb
  clear bx bb zz x0 x1 x2
  refine (unhide H1 _ (unhide B0)).mono ?_
  rintro e w1 ⟨rfl, b1⟩
  have X1 := hide ((unhide X).up b1)
  have B1 := hide ((unhide B0).trans (b1.mono (unhide B0).size))
  clear b1 X B0 H1
  obtain ⟨x0, x1, x2⟩ := (unhide X1).three
  cases r1
  · go_wp2_with fail
    go_ret
    exact ⟨rfl, unhide B1⟩
  by_cases hn : n1 = n0
  · subst hn
    go_wp2_with fail
    clear x0 x1 x2
    refine (unhide H2 _ (unhide B1)).mono ?_
    rintro e w2 ⟨rfl, b2⟩
    have X2 := hide ((unhide X1).up b2)
    have B2 := hide ((unhide B1).trans (b2.mono (unhide B1).size))
    clear b2 X1 B1 H2
    obtain ⟨x0, x1, x2⟩ := (unhide X2).three
    cases r2
    · go_wp2_with fail
      go_ret
      exact ⟨ret_bool (by simp), unhide B2⟩
    go_wp2_with fail
    clear x0 x1 x2
    refine (unhide H3 _ (unhide B2)).mono ?_
    rintro e w3 ⟨rfl, b3⟩
    have B3 := hide ((unhide B2).trans (b3.mono (unhide B2).size))
    clear b3 X2 B2 H3
    go_wp2_with fail
    go_ret
    exact ⟨ret_bool (by simp), unhide B3⟩
  · have q1 : ((n1 : Int) == (n0 : Int)) = false := by rw [beq_eq_false_iff_ne]; omega
    have q2 := hide (decide_eq_false hn)
    clear hn
    go_wp2_with fail
    go_ret
    exact ⟨ret_bool (by rw [unhide q2]; rfl), unhide B1⟩
end Go.Proofs.Ytpnpgieeiblpfaa
