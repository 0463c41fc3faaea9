/-
  Who listens to a stream, as a value: for reading and of one's own; both sides of SplitOk; the laws' own helpers over one.
-/
import Derived.Test.YtongnlbdpfhngaaSplitMath
import Derived.Test.YtongnlbdpfhngaaByArg
import Derived.Test.YtongnlbdpfhngaaBoxes
import Derived.OpenShut
set_option linter.unusedVariables false
namespace Go.Proofs.Ytongnlbdpfhngaa
open Go.RowKit Go.Maps Go.Deep Go.ChangeShapes Go.WideShapes Go.ChangeAt

structure SplitV where
  buf : List UInt8
  lost : Int
def SplitFit (d : SplitV) : Prop := d.buf.length ≤ maxLen ∧ (-9223372036854775808 ≤ d.lost ∧ d.lost ≤ 9223372036854775807)
def SmallSplit (d : SplitV) : Prop := d.buf.length ≤ 1048576
def SplitRd (w : World) (v : Value) (d : SplitV) : Prop := ∃ v0, v = .agg #[v0, .int .i64 d.lost] ∧ ByRd w v0 d.buf
def SplitOwn (S : List Nat) (w : World) (v : Value) (d : SplitV) : Prop := ∃ v0, v = .agg #[v0, .int .i64 d.lost] ∧ ByOwn S w v0 d.buf
theorem SplitRd.up {w w' : World} {v : Value} {d : SplitV} (h : SplitRd w v d) (hb : Below w.heap.size w w') : SplitRd w' v d := by
  obtain ⟨v0, e, h0⟩ := h
  exact ⟨v0, e, h0.up hb⟩
theorem SplitOwn.rd {S : List Nat} {w : World} {v : Value} {d : SplitV} (h : SplitOwn S w v d) : SplitRd w v d := by
  obtain ⟨v0, e, h0⟩ := h
  exact ⟨v0, e, h0.rd⟩
theorem SplitOwn.turn {S S' : List Nat} {w w' : World} {v : Value} {d : SplitV} (h : SplitOwn S w v d) (ht : Turn S' w w') (hS : ∀ k ∈ S, k ∉ S') : SplitOwn S w' v d := by
  obtain ⟨v0, e, h0⟩ := h
  exact ⟨v0, e, h0.turn ht hS⟩
theorem SplitOwn.up {S : List Nat} {w w' : World} {v : Value} {d : SplitV} (h : SplitOwn S w v d) (hb : Below w.heap.size w w') : SplitOwn S w' v d := h.turn (Turn.of_below (S := []) hb) (by simp)
theorem SplitOwn.lt {S : List Nat} {w : World} {v : Value} {d : SplitV} (h : SplitOwn S w v d) : ∀ k ∈ S, k < w.heap.size := by
  obtain ⟨v0, e, h0⟩ := h
  exact h0.lt
theorem SplitRd.form {w : World} {v : Value} {d : SplitV} (h : SplitRd w v d) : ∃ a0 n0 c0 fs, v = .agg #[.slice a0 n0 c0, .int .i64 fs] := by
  obtain ⟨v0, rfl, h0⟩ := h
  obtain ⟨a0, c0, rfl⟩ := h0.len
  exact ⟨_, _, _, _, rfl⟩
def nSplit (d : SplitV) : Nat := d.buf.length
theorem nSplit_le {d : SplitV} (h : SmallSplit d) : nSplit d ≤ 100000000 := by unfold SmallSplit at h; unfold nSplit; omega
def splitOkB (d : SplitV) : Bool := decide (0 ≤ d.lost) && decide (d.buf.length ≤ 270) && waitB d.buf

set_option maxHeartbeats 1600000 in
theorem szSplit_kit (d : SplitV) (v : Value) (w : World) (hf : SplitFit d) (h : SplitRd w v d) :
    Calls Try.prog 4 #[v, .int .i64 1048576] w fun e w' => ∃ q : Int, e = .returned (.int .i64 q) ∧ Hid (0 ≤ q → SmallSplit d) ∧ Below w.heap.size w w' := by
  obtain ⟨v0, rfl, h0⟩ := h
  obtain ⟨a0, c0, rfl⟩ := h0.len
  obtain ⟨buf, lost⟩ := d
  simp only [SmallSplit] at hf h0 ⊢
  have HA := hide (fun W => szByteS_any W a0 buf.length c0 1048576 (by omega) (by omega) hf.1)
  have H0 := hide (show 0 ≤ szB buf.length 1048576 → buf.length ≤ 1048576 by unfold szB; split <;> omega)
  clear hf h0
  generalize szB buf.length 1048576 = q0 at *
  by_cases g0 : q0 < 0
  · go_enter Try.func4, Try.ntmps4
    go_wp2_with fail
    refine (unhide HA _).mono ?_
    rintro e w1 ⟨rfl, rfl⟩
    go_wp2_with fail
    go_ret
    exact ⟨_, rfl, hide (fun h => by omega), by go_grown⟩
  · go_enter Try.func4, Try.ntmps4
    go_wp2_with fail
    refine (unhide HA _).mono ?_
    rintro e w1 ⟨rfl, rfl⟩
    go_wp2_with fail
    go_ret
    exact ⟨_, rfl, hide (fun h => unhide H0 h), by go_grown⟩
theorem bcell {W w1 : World} (hb : Below W.heap.size W w1) : (∀ b o, b < W.heap.size → w1.cell? ⟨b, o, none⟩ = W.cell? ⟨b, o, none⟩) ∧ (∀ b o, b < W.heap.size → w1.frozen? ⟨b, o, none⟩ = W.frozen? ⟨b, o, none⟩) :=
  ⟨fun b o h => hb.cell (p := ⟨b, o, none⟩) h, fun b o h => hb.frozen (p := ⟨b, o, none⟩) h⟩
set_option maxHeartbeats 1600000 in
theorem toSplit_kit (d : SplitV) (v : Value) (w : World) (hs : SmallSplit d) (h : SplitRd w v d) :
    Calls Try.prog 6 #[v] w fun e w' => ∃ v S, e = .returned v ∧ Hid (SplitOwn S w' v d) ∧ Hid (∀ k ∈ S, w.heap.size ≤ k) ∧ Below w.heap.size w w' := by
  obtain ⟨v0, rfl, ⟨a0, c0, rfl, i0, _⟩⟩ := h
  obtain ⟨buf, lost⟩ := d
  simp only [SmallSplit] at hs i0 ⊢
  have HA := hide (fun W (b : Below w.heap.size w W) => toByteS_own W a0 c0 buf hs (i0.up b))
  clear i0
  go_enter Try.func6, Try.ntmps6
  go_wp2_with fail
  refine (unhide HA _ (by go_grown)).mono ?_
  rintro e w1 ⟨rfl, o1, z1, b1⟩
  have O1 := hide o1
  have B1 := hide (show Below w.heap.size w w1 from Below.trans (by go_grown) (b1.mono (by simp; omega)))
  obtain ⟨hc, hf⟩ := bcell b1
  clear o1 b1
  simp at z1
  have O1' := hide (show ByOwn [w.heap.size + 1 + 1 + 1] w1 (.slice (some ⟨w.heap.size + 1 + 1 + 1, 0, none⟩) buf.length buf.length) buf by simpa using unhide O1)
  clear O1
  go_wp2_with fail
  have r0 : ∀ i, i < 2 → ∃ x, w1.cell? ⟨w.heap.size + 1, i, none⟩ = some x := by
    intro i hi
    rw [hc _ _ (by simp), World.cell?_alloc_past _ _ _ (by simp), World.cell?_alloc_at _ _ _ _ (by simp)]
    match i, hi with
    | 0, _ => exact ⟨_, rfl⟩
    | 1, _ => exact ⟨_, rfl⟩
  obtain ⟨q0, r0'⟩ := r0 0 (by omega)
  obtain ⟨q1, r1'⟩ := r0 1 (by omega)
  refine bodyPost_ret (v := .agg #[.slice (some ⟨w.heap.size + 1 + 1 + 1, 0, none⟩) buf.length buf.length, .int .i64 lost]) (by simp [results, Try.results6, go_sem, r0', r1']) rfl ?_
  have key : ∀ W, Turn [w.heap.size + 1, w.heap.size + 1 + 1] w1 W → ∃ v S, Ending.returned (.agg #[.slice (some ⟨w.heap.size + 1 + 1 + 1, 0, none⟩) buf.length buf.length, .int .i64 lost]) = .returned v ∧ Hid (SplitOwn S W v ⟨buf, lost⟩) ∧ Hid (∀ k ∈ S, w.heap.size ≤ k) ∧ Below w.heap.size w W := fun W ht =>
    ⟨_, [w.heap.size + 1 + 1 + 1], rfl, ⟨_, rfl, (unhide O1').turn ht (fun k hk hm => by simp at hk hm; omega)⟩, hide (fun k hk => by simp at hk; omega), (unhide B1).trans (ht.below (unhide B1).size (fun k hk => by simp at hk; omega))⟩
  exact key _ (((((Turn.refl _ _).setCell (by simp) _ _).setCell (by simp) _ _).setCell (by simp) _ _).setCell (by simp) _ _)
set_option maxHeartbeats 1600000 in
theorem eqSplit_kit (d : SplitV) (v v' : Value) (w : World) (hs : SmallSplit d) (h : SplitRd w v d) (h' : SplitRd w v' d) :
    Calls Try.prog 9 #[v, v'] w fun e w' => e = .returned (.bool true) ∧ Below w.heap.size w w' := by
  obtain ⟨v0, rfl, i0⟩ := h
  obtain ⟨v0', rfl, i0'⟩ := h'
  obtain ⟨buf, lost⟩ := d
  simp only [SmallSplit] at hs i0 i0' ⊢
  have HA := hide (fun W (b : Below w.heap.size w W) => eqByteS_same W v0 v0' buf (by unfold maxLen; omega) (i0.up b) (i0'.up b))
  obtain ⟨a0, c0, rfl⟩ := i0.len
  obtain ⟨a0', c0', rfl⟩ := i0'.len
  clear i0 i0' hs
  go_enter Try.func9, Try.ntmps9
  go_wp2_with fail
  refine (unhide HA _ (by go_grown)).mono ?_
  rintro e w1 ⟨rfl, b1⟩
  have B1 := hide (show Below w.heap.size w w1 from Below.trans (by go_grown) (b1.mono (by simp; omega)))
  have z1 : w.heap.size + 1 < w1.heap.size := by have := b1.size; simp at this; omega
  have z0 : w.heap.size < w1.heap.size := by omega
  obtain ⟨hc, hf⟩ := bcell b1
  clear b1
  go_wp2_with fail
  go_ret
  exact ⟨rfl, unhide B1⟩

theorem cellsI : Try.prog.cellsOf 3 = 1 := by kernel_rfl
theorem cellsBy : Try.prog.cellsOf 22 = 1 := by kernel_rfl
theorem aggOf {P : Program} {W : World} {r : Reach} {base n : Nat} {t : TypeId} {fs : Array Field} {v : Value} (ht : P.underlying t = some (.struct fs)) (hn : P.cellsOf t = n) (h : Value.okWide P W r base t v) : ∃ cs : Array Value, v = .agg cs ∧ cs.size = n := by
  simp only [Value.okWide, ht] at h
  obtain ⟨cs, h1, h2, _⟩ := h
  exact ⟨cs, h1, by rw [h2, hn]⟩
theorem array2 {cs : Array Value} (h : cs.size = 2) : ∃ a b, cs = #[a, b] := by
  obtain ⟨l⟩ := cs
  match l, h with
  | [a, b], _ => exact ⟨a, b, rfl⟩
theorem cellsSplit : Try.prog.cellsOf 24 = 2 := by kernel_rfl
set_option maxRecDepth 20000 in
theorem openSplit {H : Type} {enc : TypeId × Value → H} {w : World} {base : Nat} {spare : Nat → Bool} {held : Bool} {c0 c1 : Value} {d : DataW H} {p : List MemPlace}
    (h : DataW.Trod enc Try.prog w base spare held 24 (.agg #[c0, c1]) d p) : ∃ r : SplitV, SplitRd w (.agg #[c0, c1]) r ∧ SplitFit r := by
  obtain ⟨fuel, hf⟩ := h
  obtain ⟨xs, k, hk, hxy, _, hxl, hf⟩ := DataW.trod_struct Try.underlying24 hf
  match xs, hxl with
  | [y0, y1], _ =>
    have g0 := hf 0 _ rfl
    have g1 := hf 1 _ rfl
    simp [Value.cells, cellsI, cellsBy] at g0 g1
    obtain ⟨a0, cap0, bs0, rfl, l0, k0, r0⟩ := open_byte_cell g0
    obtain ⟨n1, e1, _, hs1⟩ := DataW.trod_int Try.underlying3 g1
    simp at e1
    subst e1
    exact ⟨⟨bs0, n1⟩, ⟨_, rfl, ⟨_, _, rfl, r0, k0⟩⟩, l0, bounds_i64 hs1⟩
end Go.Proofs.Ytongnlbdpfhngaa
