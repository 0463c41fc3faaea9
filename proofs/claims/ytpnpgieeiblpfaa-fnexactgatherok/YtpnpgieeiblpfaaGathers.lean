/-
  Gatherers in memory, for reading: inputs, windows, the stamp that was shown last; the laws' own helpers over one: how much it holds, how it is copied, compared, and how one that comes in is opened.
-/
import Derived.Test.YtpnpgieeiblpfaaMerged4
import Derived.Test.YtpnpgieeiblpfaaStrRows
import Derived.Test.YtpnpgieeiblpfaaBoxes
import Derived.Test.YtpnpgieeiblpfaaBoxes3
import Derived.OpenShut
import Derived.Handy
set_option linter.unusedVariables false
namespace Go.Proofs.Ytpnpgieeiblpfaa
open Go.RowKit Go.Maps Go.Deep Go.ChangeShapes Go.WideShapes Go.ChangeAt

structure GatherV where
  ins : List ByteArray
  wins : List (List ItemV)
  shown : List MarkV
def GatherFit (g : GatherV) : Prop := StringSFit g.ins ∧ ItemSSFit g.wins ∧ MarkSFit g.shown
def SmallGather (g : GatherV) : Prop := SmallStringS g.ins ∧ SmallItemSS g.wins ∧ SmallMarkS g.shown
def GatherRd (w : World) (v : Value) (g : GatherV) : Prop := ∃ v0 v1 v2, v = .agg #[v0, v1, v2] ∧ StringSRd w v0 g.ins ∧ ItemSSRd w v1 g.wins ∧ MarkSRd w v2 g.shown
theorem GatherRd.up {w w' : World} {v : Value} {g : GatherV} (h : GatherRd w v g) (hb : Below w.heap.size w w') : GatherRd w' v g := by
  obtain ⟨v0, v1, v2, e, h0, h1, h2⟩ := h
  exact ⟨v0, v1, v2, e, h0.up hb, h1.up hb, h2.up hb⟩
theorem GatherRd.form {w : World} {v : Value} {g : GatherV} (h : GatherRd w v g) : ∃ a0 n0 c0 a1 n1 c1 a2 n2 c2, v = .agg #[.slice a0 n0 c0, .slice a1 n1 c1, .slice a2 n2 c2] := by
  obtain ⟨v0, v1, v2, rfl, h0, h1, h2⟩ := h
  obtain ⟨a0, n0, c0, rfl⟩ := h0.form
  obtain ⟨a1, n1, c1, rfl⟩ := h1.form
  obtain ⟨a2, n2, c2, rfl⟩ := h2.form
  exact ⟨_, _, _, _, _, _, _, _, _, rfl⟩
/-- for laws that mark nothing: what was copied may be read -/
def GatherRoom (v : Value) : Prop := ∀ a n c v1 v2, v = .agg #[.slice a n c, v1, v2] → n ≤ c
def GatherOwn (S : List Nat) (w : World) (v : Value) (g : GatherV) : Prop := S = [] ∧ GatherRd w v g ∧ GatherRoom v
theorem GatherOwn.rd {S : List Nat} {w : World} {v : Value} {g : GatherV} (h : GatherOwn S w v g) : GatherRd w v g := h.2.1
theorem GatherOwn.up {S : List Nat} {w w' : World} {v : Value} {g : GatherV} (h : GatherOwn S w v g) (hb : Below w.heap.size w w') : GatherOwn S w' v g := ⟨h.1, h.2.1.up hb, h.2.2⟩
theorem GatherOwn.lt {S : List Nat} {w : World} {v : Value} {g : GatherV} (h : GatherOwn S w v g) : ∀ k ∈ S, k < w.heap.size := by rw [h.1]; simp
def nGather (g : GatherV) : Nat := g.ins.length
theorem nGather_le {g : GatherV} (h : SmallGather g) : nGather g ≤ 100000000 := by have := h.1.1; unfold nGather; omega
theorem BoxIs.three {w : World} {g : Nat} {a b c : Value} (h : BoxIs w g [a, b, c]) : w.cell? ⟨g, 0, none⟩ = some a ∧ w.cell? ⟨g, 1, none⟩ = some b ∧ w.cell? ⟨g, 2, none⟩ = some c := ⟨h.2 0 _ rfl, h.2 1 _ rfl, h.2 2 _ rfl⟩
theorem boxNew3 (w : World) (a b c : Value) (T : TypeId) : BoxIs (w.alloc (.cells #[a, b, c] T)) w.heap.size [a, b, c] ∧ Below w.heap.size w (w.alloc (.cells #[a, b, c] T)) ∧ w.heap.size < (w.alloc (.cells #[a, b, c] T)).heap.size :=
  ⟨boxMade w [a, b, c] T, (Below.refl _ _).alloc (Nat.le_refl _) _, by simp⟩
set_option maxHeartbeats 3200000 in
theorem szGather_kit (d : GatherV) (v : Value) (w : World) (hf : GatherFit d) (h : GatherRd w v d) :
    Calls Try.prog 20 #[v, .int .i64 1048576] w fun e w' => ∃ q : Int, e = .returned (.int .i64 q) ∧ Hid (0 ≤ q → SmallGather d) ∧ Below w.heap.size w w' := by
  have HF := hide hf
  have HR := hide h
  obtain ⟨a0, n0, c0, a1, n1, c1, a2, n2, c2, rfl⟩ := h.form
  have HP := hide (fun W (b : Below w.heap.size w W) => show StringSRd W (.slice a0 n0 c0) d.ins ∧ ItemSSRd W (.slice a1 n1 c1) d.wins ∧ MarkSRd W (.slice a2 n2 c2) d.shown from by
    obtain ⟨v0, v1, v2, e, h0, h1, h2⟩ := (unhide HR).up b
    simp only [Value.agg.injEq, Array.mk.injEq, List.cons.injEq, and_true] at e
    obtain ⟨rfl, rfl, rfl⟩ := e
    exact ⟨h0, h1, h2⟩)
  obtain ⟨bx, bb, zz⟩ := boxNew3 w (.slice a0 n0 c0) (.slice a1 n1 c1) (.slice a2 n2 c2) 42
  clear h hf HR
  obtain ⟨x0, x1, x2⟩ := bx.three
  go_enter Try.func20, Try.ntmps20
  go_wp2_with fail
  generalize w.alloc (.cells #[.slice a0 n0 c0, .slice a1 n1 c1, .slice a2 n2 c2] 42) = W at *
  have BX := hide bx
  have B0 := hide bb
  clear bx bb zz x0 x1 x2
  refine (szStringS_kitL d.ins _ 1048576 W (by omega) (by omega) (unhide HF).1 (unhide HP _ (unhide B0)).1).mono ?_
  rintro e w1 ⟨q1, rfl, hq1, H1, b1⟩
  have BX1 := hide ((unhide BX).up b1)
  have B1 := hide ((unhide B0).trans (b1.mono (unhide B0).size))
  clear b1 BX B0
  obtain ⟨x0, x1, x2⟩ := (unhide BX1).three
  by_cases g1 : q1 < 0
  · go_wp2_with fail
    go_ret
    exact ⟨-1, rfl, hide (fun h => by omega), unhide B1⟩
  go_wp2_with fail
  clear x0 x1 x2
  refine (szItemSS_kitL d.wins _ q1 w1 (by omega) (by omega) (unhide HF).2.1 (unhide HP _ (unhide B1)).2.1).mono ?_
  rintro e w2 ⟨q2, rfl, hq2, H2, b2⟩
  have BX2 := hide ((unhide BX1).up b2)
  have B2 := hide ((unhide B1).trans (b2.mono (unhide B1).size))
  clear b2 BX1 B1
  obtain ⟨x0, x1, x2⟩ := (unhide BX2).three
  by_cases g2 : q2 < 0
  · go_wp2_with fail
    go_ret
    exact ⟨-1, rfl, hide (fun h => by omega), unhide B2⟩
  go_wp2_with fail
  clear x0 x1 x2
  refine (szMarkS_kitL d.shown _ q2 w2 (by omega) (by omega) (unhide HF).2.2 (unhide HP _ (unhide B2)).2.2).mono ?_
  rintro e w3 ⟨q3, rfl, hq3, H3, b3⟩
  have B3 := hide ((unhide B2).trans (b3.mono (unhide B2).size))
  clear b3 BX2 B2
  by_cases g3 : q3 < 0
  · go_wp2_with fail
    go_ret
    exact ⟨-1, rfl, hide (fun h => by omega), unhide B3⟩
  have HE := hide (show SmallGather d from ⟨unhide H1 (by omega), unhide H2 (by omega), unhide H3 (by omega)⟩)
  go_wp2_with fail
  go_ret
  exact ⟨q3, rfl, hide (fun _ => unhide HE), unhide B3⟩
theorem BoxF.three {w : World} {g : Nat} {a b c : Value} (h : BoxF w g [a, b, c]) : (w.cell? ⟨g, 0, none⟩ = some a ∧ w.cell? ⟨g, 1, none⟩ = some b ∧ w.cell? ⟨g, 2, none⟩ = some c) ∧ (w.frozen? ⟨g, 0, none⟩ = false ∧ w.frozen? ⟨g, 1, none⟩ = false ∧ w.frozen? ⟨g, 2, none⟩ = false) :=
  ⟨h.1.three, h.2 0 (by simp), h.2 1 (by simp), h.2 2 (by simp)⟩
theorem toStringS_hi (ts : List ByteArray) (v : Value) (w : World) (hs : SmallStringS ts) (h : StringSRd w v ts) :
    Calls Try.prog 41 #[v] w fun e w' => e = .returned (.slice (some ⟨w.heap.size, 0, none⟩) ts.length ts.length) ∧ Hid (StringSOwn [w.heap.size] w' (.slice (some ⟨w.heap.size, 0, none⟩) ts.length ts.length) ts) ∧ Below w.heap.size w w' := by
  obtain ⟨a, c, rfl, h⟩ := h
  rcases h with rfl | ⟨b, off, rfl, hb, hc⟩
  · refine (toStringS_none w a c).mono ?_
    rintro e w' ⟨rfl, h2, h3⟩
    exact ⟨rfl, hide (.inr ⟨w.heap.size, 0, 0, rfl, rfl, h2, fun i hi => by simp at hi, fun i hi => by simp at hi⟩), h3⟩
  · refine (toStringS_row w b off c ts hs.1 hc hb).mono ?_
    rintro e w' ⟨rfl, hr, h2, h3⟩
    refine ⟨rfl, .inr ⟨w.heap.size, 0, ts.length, rfl, rfl, h2, fun i hi => ?_, fun i _ => hr.frozenAt _⟩, h3⟩
    rw [Nat.zero_add, hr.cellAt _ (by omega)]
    simp [hi]
theorem toMarkS_hi (ns : List MarkV) (v : Value) (w : World) (hs : SmallMarkS ns) (h : MarkSRd w v ns) :
    Calls Try.prog 42 #[v] w fun e w' => e = .returned (.slice (some ⟨w.heap.size, 0, none⟩) ns.length ns.length) ∧ Hid (MarkSOwn [w.heap.size] w' (.slice (some ⟨w.heap.size, 0, none⟩) ns.length ns.length) ns) ∧ Below w.heap.size w w' := by
  refine (toMarkS_own ns v w hs h).mono ?_
  rintro e w' ⟨rfl, h1, _, h3⟩
  exact ⟨rfl, hide h1, h3⟩
set_option maxHeartbeats 6400000 in
theorem toGather_kit (d : GatherV) (v : Value) (w : World) (hs : SmallGather d) (h : GatherRd w v d) :
    Calls Try.prog 22 #[v] w fun e w' => ∃ v S, e = .returned v ∧ Hid (GatherOwn S w' v d) ∧ Hid (∀ k ∈ S, w.heap.size ≤ k) ∧ Below w.heap.size w w' := by
  have HS := hide hs
  have HR := hide h
  obtain ⟨a0, n0, c0, a1, n1, c1, a2, n2, c2, rfl⟩ := h.form
  have HP := hide (fun W (b : Below w.heap.size w W) => show StringSRd W (.slice a0 n0 c0) d.ins ∧ ItemSSRd W (.slice a1 n1 c1) d.wins ∧ MarkSRd W (.slice a2 n2 c2) d.shown from by
    obtain ⟨v0, v1, v2, e, h0, h1, h2⟩ := (unhide HR).up b
    simp only [Value.agg.injEq, Array.mk.injEq, List.cons.injEq, and_true] at e
    obtain ⟨rfl, rfl, rfl⟩ := e
    exact ⟨h0, h1, h2⟩)
  clear h hs HR
  obtain ⟨x0, x1, x2, b0, hz⟩ := boxes3 w [.slice a0 n0 c0, .slice a1 n1 c1, .slice a2 n2 c2] [.slice none 0 0, .slice none 0 0, .slice none 0 0] [.slice none 0 0, .slice none 0 0, .slice none 0 0] 42 46 46
  go_enter Try.func22, Try.ntmps22
  go_wp2_with fail
  simp only [List.toArray] at x0 x1 x2 b0 hz
  generalize ((w.alloc (.cells #[.slice a0 n0 c0, .slice a1 n1 c1, .slice a2 n2 c2] 42)).alloc (.cells #[.slice none 0 0, .slice none 0 0, .slice none 0 0] 46)).alloc (.cells #[.slice none 0 0, .slice none 0 0, .slice none 0 0] 46) = W0 at *
  have X0 := hide x0
  have X1 := hide x1
  have X2 := hide x2
  have B0 := hide b0
  have HZ := hide hz
  clear x0 x1 x2 b0 hz
  refine (toStringS_hi d.ins _ W0 (unhide HS).1 (unhide HP _ (unhide B0)).1).mono ?_
  rintro e w1 ⟨rfl, O1, b1⟩
  have Y0 := hide ((unhide X0).up b1)
  have Y1 := hide ((unhide X1).up b1)
  have Y2 := hide ((unhide X2).up b1)
  have B1 := hide ((unhide B0).trans (b1.mono (unhide B0).size))
  have Z1 := hide b1.size
  clear b1 X0 X1 X2 B0
  obtain ⟨⟨p0, p1, p2⟩, -⟩ := (unhide Y0).three
  obtain ⟨⟨q0, q1, q2⟩, f0, f1, f2⟩ := (unhide Y2).three
  go_wp2_with fail
  clear p0 p1 p2 q0 q1 q2 f0 f1 f2
  have T1 : Turn [w.heap.size + 2] w1 (w1.setCell ⟨w.heap.size + 2, 0, none⟩ (.slice (some ⟨W0.heap.size, 0, none⟩) d.ins.length d.ins.length)) := (Turn.refl _ _).setCell (by simp) _ _
  have A0 := hide ((unhide Y0).turn T1 (by simp))
  have A1 := hide ((unhide Y1).turn T1 (by simp))
  have A2 := hide ((unhide Y2).set 0 (.slice (some ⟨W0.heap.size, 0, none⟩) d.ins.length d.ins.length) (by simp))
  have OA := hide ((unhide O1).turn T1 (fun k hk hm => by have := unhide HZ; simp at hk hm; omega))
  have BA := hide ((unhide B1).trans (T1.below (unhide B1).size (fun k hk => by simp at hk; omega)))
  have ZA := hide (Nat.le_trans (unhide Z1) T1.size)
  simp only [List.set] at A2
  clear T1 Y0 Y1 Y2 O1 B1 Z1
  generalize w1.setCell ⟨w.heap.size + 2, 0, none⟩ (.slice (some ⟨W0.heap.size, 0, none⟩) d.ins.length d.ins.length) = W1 at *
  refine (toItemSS_hi d.wins _ W1 (unhide HS).2.1 (unhide HP _ (unhide BA)).2.1).mono ?_
  rintro e w2 ⟨ia, iN, ic, rfl, O2, b2⟩
  have Y0 := hide ((unhide A0).up b2)
  have Y1 := hide ((unhide A1).up b2)
  have Y2 := hide ((unhide A2).up b2)
  have OB := hide ((unhide OA).up b2)
  have B2 := hide ((unhide BA).trans (b2.mono (unhide BA).size))
  have Z2 := hide (Nat.le_trans (unhide ZA) b2.size)
  clear b2 A0 A1 A2 OA BA
  obtain ⟨⟨p0, p1, p2⟩, -⟩ := (unhide Y0).three
  obtain ⟨⟨q0, q1, q2⟩, f0, f1, f2⟩ := (unhide Y2).three
  go_wp2_with fail
  clear p0 p1 p2 q0 q1 q2 f0 f1 f2
  have T2 : Turn [w.heap.size + 2] w2 (w2.setCell ⟨w.heap.size + 2, 1, none⟩ (.slice ia iN ic)) := (Turn.refl _ _).setCell (by simp) _ _
  have A0 := hide ((unhide Y0).turn T2 (by simp))
  have A1 := hide ((unhide Y1).turn T2 (by simp))
  have A2 := hide ((unhide Y2).set 1 (.slice ia iN ic) (by simp))
  have OC := hide ((unhide OB).turn T2 (fun k hk hm => by have := unhide HZ; simp at hk hm; omega))
  have O2b := hide (fun W S (hS : ∀ j ∈ S, j ≤ w.heap.size + 2) (hW : Turn S (w2.setCell ⟨w.heap.size + 2, 1, none⟩ (.slice ia iN ic)) W) => unhide O2 W ((w.heap.size + 2) :: S) (fun j hj => by have := unhide HZ; have := unhide ZA; simp at hj; rcases hj with hj | hj; omega; have := hS j hj; omega) ((T2.mono (fun k hk => .inl (by simp at hk; simp [hk]))).trans (hW.mono (fun k hk => .inl (by simp [hk])))))
  have BB := hide ((unhide B2).trans (T2.below (unhide B2).size (fun k hk => by simp at hk; omega)))
  have ZB := hide (Nat.le_trans (unhide Z2) T2.size)
  simp only [List.set] at A2
  clear T2 Y0 Y1 Y2 OB B2 Z2 O2
  generalize w2.setCell ⟨w.heap.size + 2, 1, none⟩ (.slice ia iN ic) = W2 at *
  refine (toMarkS_hi d.shown _ W2 (unhide HS).2.2 (unhide HP _ (unhide BB)).2.2).mono ?_
  rintro e w3 ⟨rfl, O3, b3⟩
  have Y1 := hide ((unhide A1).up b3)
  have Y2 := hide ((unhide A2).up b3)
  have OD := hide ((unhide OC).up b3)
  have O2c := hide (fun W S (hS : ∀ j ∈ S, j ≤ w.heap.size + 2) (hW : Turn S w3 W) => unhide O2b W S hS ((Turn.of_below (S := S) b3).trans hW))
  have B3 := hide ((unhide BB).trans (b3.mono (unhide BB).size))
  have Z3 := hide (Nat.le_trans (unhide ZB) b3.size)
  have O3L := hide (unhide ZB)
  clear b3 A0 A1 A2 OC BB O2b
  obtain ⟨⟨s0, s1, s2⟩, h0, h1, h2⟩ := (unhide Y1).three
  obtain ⟨⟨q0, q1, q2⟩, f0, f1, f2⟩ := (unhide Y2).three
  have hnl : w.heap.size + 2 ≠ w.heap.size + 1 := by omega
  go_wp2_with fail
  refine bodyPost_ret (v := .agg #[.slice (some ⟨W0.heap.size, 0, none⟩) d.ins.length d.ins.length, .slice ia iN ic, .slice (some ⟨W2.heap.size, 0, none⟩) d.shown.length d.shown.length]) (by simp [results, Try.results22, go_sem, s0, s1, s2]) rfl ?_
  have key : ∀ W, Turn [w.heap.size + 1, w.heap.size + 2] w3 W → ∃ v S, Ending.returned (.agg #[.slice (some ⟨W0.heap.size, 0, none⟩) d.ins.length d.ins.length, .slice ia iN ic, .slice (some ⟨W2.heap.size, 0, none⟩) d.shown.length d.shown.length]) = .returned v ∧ Hid (GatherOwn S W v d) ∧ Hid (∀ k ∈ S, w.heap.size ≤ k) ∧ Below w.heap.size w W := fun W ht =>
    ⟨_, [], rfl, hide ⟨rfl, ⟨_, _, _, rfl, ((unhide OD).turn ht (fun k hk hm => by have := unhide HZ; simp at hk hm; omega)).rd, unhide O2c W _ (fun j hj => by simp at hj; omega) ht, ((unhide O3).turn ht (fun k hk hm => by have := unhide HZ; have := unhide ZB; simp at hk hm; omega)).rd⟩, fun a n c v1 v2 e => by
      simp only [Value.agg.injEq, Array.mk.injEq, List.cons.injEq, Value.slice.injEq] at e
      omega⟩, hide (by simp), (unhide B3).trans (ht.below (unhide B3).size (fun k hk => by simp at hk; omega))⟩
  exact key _ (((((Turn.refl _ _).setCell (by simp) _ _).setCell (by simp) _ _).setCell (by simp) _ _).setCell (by simp) _ _)
set_option maxHeartbeats 3200000 in
theorem eqGather_kit (d : GatherV) (v v' : Value) (w : World) (hs : SmallGather d) (h : GatherRd w v d) (h' : GatherRd w v' d) :
    Calls Try.prog 24 #[v, v'] w fun e w' => e = .returned (.bool true) ∧ Below w.heap.size w w' := by
  obtain ⟨v0, v1, v2, rfl, i0, i1, i2⟩ := h
  obtain ⟨v0', v1', v2', rfl, i0', i1', i2'⟩ := h'
  have HA := hide (fun W (b : Below w.heap.size w W) => eqStringS_kit d.ins v0 v0' W hs.1 (i0.up b) (i0'.up b))
  have HB := hide (fun W (b : Below w.heap.size w W) => eqItemSS_kit d.wins v1 v1' W hs.2.1 (i1.up b) (i1'.up b))
  have HC := hide (fun W (b : Below w.heap.size w W) => eqMarkS_kit d.shown v2 v2' W hs.2.2 (i2.up b) (i2'.up b))
  obtain ⟨a0, n0, c0, rfl⟩ := i0.form
  obtain ⟨a1, n1, c1, rfl⟩ := i1.form
  obtain ⟨a2, n2, c2, rfl⟩ := i2.form
  obtain ⟨a0', n0', c0', rfl⟩ := i0'.form
  obtain ⟨a1', n1', c1', rfl⟩ := i1'.form
  obtain ⟨a2', n2', c2', rfl⟩ := i2'.form
  clear i0 i1 i2 i0' i1' i2' hs
  obtain ⟨bx, bb, zz⟩ := boxNew3 w (.slice a0 n0 c0) (.slice a1 n1 c1) (.slice a2 n2 c2) 46
  obtain ⟨by', bc, zy⟩ := boxNew3 (w.alloc (.cells #[.slice a0 n0 c0, .slice a1 n1 c1, .slice a2 n2 c2] 46)) (.slice a0' n0' c0') (.slice a1' n1' c1') (.slice a2' n2' c2') 46
  rw [show (w.alloc (.cells #[.slice a0 n0 c0, .slice a1 n1 c1, .slice a2 n2 c2] 46)).heap.size = w.heap.size + 1 by simp] at by'
  have X := hide (bx.up bc)
  have Y := hide by'
  have B0 := hide (bb.trans (bc.mono bb.size))
  clear bx bb zz bc zy by'
  go_enter Try.func24, Try.ntmps24
  go_wp2_with fail
  generalize (w.alloc (.cells #[.slice a0 n0 c0, .slice a1 n1 c1, .slice a2 n2 c2] 46)).alloc (.cells #[.slice a0' n0' c0', .slice a1' n1' c1', .slice a2' n2' c2'] 46) = W at *
  refine (unhide HA _ (unhide B0)).mono ?_
  rintro e w1 ⟨rfl, b1⟩
  have X1 := hide ((unhide X).up b1)
  have Y1 := hide ((unhide Y).up b1)
  have B1 := hide ((unhide B0).trans (b1.mono (unhide B0).size))
  clear b1 X Y B0
  obtain ⟨p0, p1, p2⟩ := (unhide X1).three
  obtain ⟨q0, q1, q2⟩ := (unhide Y1).three
  go_wp2_with fail
  clear p0 p1 p2 q0 q1 q2
  refine (unhide HB _ (unhide B1)).mono ?_
  rintro e w2 ⟨rfl, b2⟩
  have X2 := hide ((unhide X1).up b2)
  have Y2 := hide ((unhide Y1).up b2)
  have B2 := hide ((unhide B1).trans (b2.mono (unhide B1).size))
  clear b2 X1 Y1 B1
  obtain ⟨p0, p1, p2⟩ := (unhide X2).three
  obtain ⟨q0, q1, q2⟩ := (unhide Y2).three
  go_wp2_with fail
  clear p0 p1 p2 q0 q1 q2
  refine (unhide HC _ (unhide B2)).mono ?_
  rintro e w3 ⟨rfl, b3⟩
  have B3 := hide ((unhide B2).trans (b3.mono (unhide B2).size))
  clear b3
  go_wp2_with fail
  go_ret
  exact ⟨rfl, unhide B3⟩
theorem cellsInsG : Try.prog.cellsOf 39 = 1 := by kernel_rfl
theorem cellsWinsG : Try.prog.cellsOf 22 = 1 := by kernel_rfl
theorem cellsShownG : Try.prog.cellsOf 40 = 1 := by kernel_rfl
theorem cellsGather : Try.prog.cellsOf 42 = 3 := by kernel_rfl
theorem aggOf {P : Program} {W : World} {r : Reach} {base n : Nat} {t : TypeId} {fs : Array Field} {v : Value} (ht : P.underlying t = some (.struct fs)) (hn : P.cellsOf t = n) (h : Value.okWide P W r base t v) : ∃ cs : Array Value, v = .agg cs ∧ cs.size = n := by
  simp only [Value.okWide, ht] at h
  obtain ⟨cs, h1, h2, _⟩ := h
  exact ⟨cs, h1, by rw [h2, hn]⟩
theorem array3 {cs : Array Value} (h : cs.size = 3) : ∃ a b c, cs = #[a, b, c] := by
  obtain ⟨l⟩ := cs
  match l, h with
  | [a, b, c], _ => exact ⟨a, b, c, rfl⟩
set_option maxRecDepth 20000 in
theorem openGather {H : Type} {enc : TypeId × Value → H} {w : World} {base : Nat} {spare : Nat → Bool} {held : Bool} {c0 c1 c2 : Value} {d : DataW H} {p : List MemPlace}
    (h : DataW.Trod enc Try.prog w base spare held 42 (.agg #[c0, c1, c2]) d p) : ∃ r : GatherV, GatherRd w (.agg #[c0, c1, c2]) r ∧ GatherFit r := by
  obtain ⟨fuel, hf⟩ := h
  obtain ⟨xs, k, hk, hxy, _, hxl, hf⟩ := DataW.trod_struct Try.underlying42 hf
  match xs, hxl with
  | [y0, y1, y2], _ =>
    have g0 := hf 0 _ rfl
    have g1 := hf 1 _ rfl
    have g2 := hf 2 _ rfl
    simp [Value.cells, cellsInsG, cellsWinsG, cellsShownG] at g0 g1 g2
    have form : ∀ {t e : TypeId} {c : Value} {m : Nat} {y : DataW H × List MemPlace}, Try.prog.underlying t = some (.slice e) → DataW.trod enc Try.prog w base spare held m t [c] = some y → ∃ a n cp, c = .slice a n cp := by
      intro t e c m y hu hg
      rcases open_slice hu hg with ⟨hcs, _⟩ | ⟨a1, l1, c1, _, _, _, _, hcs, _⟩
      · simp at hcs; exact ⟨_, _, _, hcs⟩
      · simp at hcs; exact ⟨_, _, _, hcs⟩
    obtain ⟨a0, n0, p0, rfl⟩ := form Try.underlying39 g0
    obtain ⟨a1, n1, p1, rfl⟩ := form Try.underlying22 g1
    obtain ⟨a2, n2, p2, rfl⟩ := form Try.underlying40 g2
    obtain ⟨l0, rfl, hl0, hi0, ho0⟩ := openStringS ⟨_, g0⟩
    obtain ⟨l1, rfl, hl1, hi1, ho1⟩ := openItemSS ⟨_, g1⟩
    obtain ⟨l2, rfl, hl2, hi2, ho2⟩ := openMarkS ⟨_, g2⟩
    exact ⟨⟨l0, l1, l2⟩, ⟨_, _, _, rfl, ⟨a0, p0, rfl, hi0⟩, ⟨a1, p1, rfl, hi1⟩, ⟨a2, p2, rfl, hi2⟩⟩, ⟨hl0, ho0⟩, ⟨hl1, ho1⟩, ⟨hl2, ho2⟩⟩
end Go.Proofs.Ytpnpgieeiblpfaa
