/-
  Gatherers in memory, for reading: inputs, windows, the stamp that was shown last; the laws' own helpers over one: how much it holds, how it is copied, compared, and how one that comes in is opened.
-/
import Derived.Test.YtcjomdbklgjojaaWinsOpen
import Derived.Test.YtcjomdbklgjojaaStrRows
import Derived.Test.YtcjomdbklgjojaaBoxes
import Derived.Test.YtcjomdbklgjojaaBoxes3
import Derived.OpenShut
import Derived.Handy
set_option linter.unusedVariables false
namespace Go.Proofs.Ytcjomdbklgjojaa
open Go.RowKit Go.Maps Go.Deep Go.ChangeShapes Go.WideShapes Go.ChangeAt

structure GatherV where
  ins : List ByteArray
  wins : List (List ItemV)
  shown : List MarkV
def GatherFit (g : GatherV) : Prop := StringSFit g.ins ∧ ItemSSFit g.wins ∧ MarkSFit g.shown
def SmallGather (g : GatherV) : Prop := SmallStringS g.ins ∧ SmallItemSS g.wins ∧ SmallMarkS g.shown
def GatherRd (w : World) (v : Value) (g : GatherV) : Prop := ∃ v0 v1 v2, v = .agg #[v0, v1, v2] ∧ StringSRd w v0 g.ins ∧ ItemSSRd w v1 g.wins ∧ MarkSRd w v2 g.shown
theorem GatherRd.up {w w' : World} {v : Value} {g : GatherV} (h : GatherRd w v g) (hb : Below w.heap.size w w') : GatherRd w' v g := by
  obtain ⟨v0, v1, v2, e, h0, h1, h2⟩ := h
  exact ⟨v0, v1, v2, e, h0.up hb, h1.up hb, h2.up hb⟩
theorem GatherRd.form {w : World} {v : Value} {g : GatherV} (h : GatherRd w v g) : ∃ a0 n0 c0 a1 n1 c1 a2 n2 c2, v = .agg #[.slice a0 n0 c0, .slice a1 n1 c1, .slice a2 n2 c2] := by
  obtain ⟨v0, v1, v2, rfl, h0, h1, h2⟩ := h
  obtain ⟨a0, n0, c0, rfl⟩ := h0.form
  obtain ⟨a1, n1, c1, rfl⟩ := h1.form
  obtain ⟨a2, n2, c2, rfl⟩ := h2.form
  exact ⟨_, _, _, _, _, _, _, _, _, rfl⟩
/-- for laws that mark nothing: what was copied may be read -/
def GatherRoom (v : Value) : Prop := ∀ a n c v1 v2, v = .agg #[.slice a n c, v1, v2] → n ≤ c
def GatherOwn (S : List Nat) (w : World) (v : Value) (g : GatherV) : Prop := S = [] ∧ GatherRd w v g ∧ GatherRoom v
theorem GatherOwn.rd {S : List Nat} {w : World} {v : Value} {g : GatherV} (h : GatherOwn S w v g) : GatherRd w v g := h.2.1
theorem GatherOwn.up {S : List Nat} {w w' : World} {v : Value} {g : GatherV} (h : GatherOwn S w v g) (hb : Below w.heap.size w w') : GatherOwn S w' v g := ⟨h.1, h.2.1.up hb, h.2.2⟩
theorem GatherOwn.lt {S : List Nat} {w : World} {v : Value} {g : GatherV} (h : GatherOwn S w v g) : ∀ k ∈ S, k < w.heap.size := by rw [h.1]; simp
def nGather (g : GatherV) : Nat := g.ins.length
theorem nGather_le {g : GatherV} (h : SmallGather g) : nGather g ≤ 100000000 := by have := h.1.1; unfold nGather; omega
theorem BoxIs.three {w : World} {g : Nat} {a b c : Value} (h : BoxIs w g [a, b, c]) : w.cell? ⟨g, 0, none⟩ = some a ∧ w.cell? ⟨g, 1, none⟩ = some b ∧ w.cell? ⟨g, 2, none⟩ = some c := ⟨h.2 0 _ rfl, h.2 1 _ rfl, h.2 2 _ rfl⟩
theorem boxNew3 (w : World) (a b c : Value) (T : TypeId) : BoxIs (w.alloc (.cells #[a, b, c] T)) w.heap.size [a, b, c] ∧ Below w.heap.size w (w.alloc (.cells #[a, b, c] T)) ∧ w.heap.size < (w.alloc (.cells #[a, b, c] T)).heap.size :=
  ⟨boxMade w [a, b, c] T, (Below.refl _ _).alloc (Nat.le_refl _) _, by simp⟩
theorem BoxF.three {w : World} {g : Nat} {a b c : Value} (h : BoxF w g [a, b, c]) : (w.cell? ⟨g, 0, none⟩ = some a ∧ w.cell? ⟨g, 1, none⟩ = some b ∧ w.cell? ⟨g, 2, none⟩ = some c) ∧ (w.frozen? ⟨g, 0, none⟩ = false ∧ w.frozen? ⟨g, 1, none⟩ = false ∧ w.frozen? ⟨g, 2, none⟩ = false) :=
  ⟨h.1.three, h.2 0 (by simp), h.2 1 (by simp), h.2 2 (by simp)⟩
theorem toStringS_hi (ts : List ByteArray) (v : Value) (w : World) (hs : SmallStringS ts) (h : StringSRd w v ts) :
    Calls Try.prog 6 #[v] w fun e w' => e = .returned (.slice (some ⟨w.heap.size, 0, none⟩) ts.length ts.length) ∧ Hid (StringSOwn [w.heap.size] w' (.slice (some ⟨w.heap.size, 0, none⟩) ts.length ts.length) ts) ∧ Below w.heap.size w w' := by
  obtain ⟨a, c, rfl, h⟩ := h
  rcases h with rfl | ⟨b, off, rfl, hb, hc⟩
  · refine (toStringS_none w a c).mono ?_
    rintro e w' ⟨rfl, h2, h3⟩
    exact ⟨rfl, hide (.inr ⟨w.heap.size, 0, 0, rfl, rfl, h2, fun i hi => by simp at hi, fun i hi => by simp at hi⟩), h3⟩
  · refine (toStringS_row w b off c ts hs.1 hc hb).mono ?_
    rintro e w' ⟨rfl, hr, h2, h3⟩
    refine ⟨rfl, .inr ⟨w.heap.size, 0, ts.length, rfl, rfl, h2, fun i hi => ?_, fun i _ => hr.frozenAt _⟩, h3⟩
    rw [Nat.zero_add, hr.cellAt _ (by omega)]
    simp [hi]
set_option maxHeartbeats 3200000 in
theorem eqGather_kit (d : GatherV) (v v' : Value) (w : World) (hs : SmallGather d) (h : GatherRd w v d) (h' : GatherRd w v' d) :
    Calls Try.prog 8 #[v, v'] w fun e w' => e = .returned (.bool true) ∧ Below w.heap.size w w' := by
  obtain ⟨v0, v1, v2, rfl, i0, i1, i2⟩ := h
  obtain ⟨v0', v1', v2', rfl, i0', i1', i2'⟩ := h'
  have HA := hide (fun W (b : Below w.heap.size w W) => eqStringS_kit d.ins v0 v0' W hs.1 (i0.up b) (i0'.up b))
  have HB := hide (fun W (b : Below w.heap.size w W) => eqItemSS_kit d.wins v1 v1' W hs.2.1 (i1.up b) (i1'.up b))
  have HC := hide (fun W (b : Below w.heap.size w W) => eqMarkS_kit d.shown v2 v2' W hs.2.2 (i2.up b) (i2'.up b))
  obtain ⟨a0, n0, c0, rfl⟩ := i0.form
  obtain ⟨a1, n1, c1, rfl⟩ := i1.form
  obtain ⟨a2, n2, c2, rfl⟩ := i2.form
  obtain ⟨a0', n0', c0', rfl⟩ := i0'.form
  obtain ⟨a1', n1', c1', rfl⟩ := i1'.form
  obtain ⟨a2', n2', c2', rfl⟩ := i2'.form
  clear i0 i1 i2 i0' i1' i2' hs
  obtain ⟨bx, bb, zz⟩ := boxNew3 w (.slice a0 n0 c0) (.slice a1 n1 c1) (.slice a2 n2 c2) 27
  obtain ⟨by', bc, zy⟩ := boxNew3 (w.alloc (.cells #[.slice a0 n0 c0, .slice a1 n1 c1, .slice a2 n2 c2] 27)) (.slice a0' n0' c0') (.slice a1' n1' c1') (.slice a2' n2' c2') 27
  rw [show (w.alloc (.cells #[.slice a0 n0 c0, .slice a1 n1 c1, .slice a2 n2 c2] 27)).heap.size = w.heap.size + 1 by simp] at by'
  have X := hide (bx.up bc)
  have Y := hide by'
  have B0 := hide (bb.trans (bc.mono bb.size))
  clear bx bb zz bc zy by'
  go_enter Try.func8, Try.ntmps8
  go_wp2_with fail
  generalize (w.alloc (.cells #[.slice a0 n0 c0, .slice a1 n1 c1, .slice a2 n2 c2] 27)).alloc (.cells #[.slice a0' n0' c0', .slice a1' n1' c1', .slice a2' n2' c2'] 27) = W at *
  refine (unhide HA _ (unhide B0)).mono ?_
  rintro e w1 ⟨rfl, b1⟩
  have X1 := hide ((unhide X).up b1)
  have Y1 := hide ((unhide Y).up b1)
  have B1 := hide ((unhide B0).trans (b1.mono (unhide B0).size))
  clear b1 X Y B0
  obtain ⟨p0, p1, p2⟩ := (unhide X1).three
  obtain ⟨q0, q1, q2⟩ := (unhide Y1).three
  go_wp2_with fail
  clear p0 p1 p2 q0 q1 q2
  refine (unhide HB _ (unhide B1)).mono ?_
  rintro e w2 ⟨rfl, b2⟩
  have X2 := hide ((unhide X1).up b2)
  have Y2 := hide ((unhide Y1).up b2)
  have B2 := hide ((unhide B1).trans (b2.mono (unhide B1).size))
  clear b2 X1 Y1 B1
  obtain ⟨p0, p1, p2⟩ := (unhide X2).three
  obtain ⟨q0, q1, q2⟩ := (unhide Y2).three
  go_wp2_with fail
  clear p0 p1 p2 q0 q1 q2
  refine (unhide HC _ (unhide B2)).mono ?_
  rintro e w3 ⟨rfl, b3⟩
  have B3 := hide ((unhide B2).trans (b3.mono (unhide B2).size))
  clear b3
  go_wp2_with fail
  go_ret
  exact ⟨rfl, unhide B3⟩
theorem cellsInsG : Try.prog.cellsOf 22 = 1 := by kernel_rfl
theorem aggOf {P : Program} {W : World} {r : Reach} {base n : Nat} {t : TypeId} {fs : Array Field} {v : Value} (ht : P.underlying t = some (.struct fs)) (hn : P.cellsOf t = n) (h : Value.okWide P W r base t v) : ∃ cs : Array Value, v = .agg cs ∧ cs.size = n := by
  simp only [Value.okWide, ht] at h
  obtain ⟨cs, h1, h2, _⟩ := h
  exact ⟨cs, h1, by rw [h2, hn]⟩
theorem array3 {cs : Array Value} (h : cs.size = 3) : ∃ a b c, cs = #[a, b, c] := by
  obtain ⟨l⟩ := cs
  match l, h with
  | [a, b, c], _ => exact ⟨a, b, c, rfl⟩
end Go.Proofs.Ytcjomdbklgjojaa
