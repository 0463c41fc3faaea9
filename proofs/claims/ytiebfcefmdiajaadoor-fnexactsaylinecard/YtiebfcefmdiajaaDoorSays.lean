/-
  Words in memory: for reading and of one's own; the laws' own helpers over one: how much it holds, how it is copied, compared, and how one that comes in is opened.
-/
import Derived.Test.YtiebfcefmdiajaaDoorSayMath
import Derived.Test.YtiebfcefmdiajaaDoorBoxes
import Derived.OpenShut
import Derived.Handy
set_option linter.unusedVariables false
namespace Go.Proofs.YtiebfcefmdiajaaDoor
open Go.RowKit Go.Maps Go.Deep Go.ChangeShapes Go.WideShapes Go.ChangeAt

def SayFit (s : SayV) : Prop := (s.name.size ≤ maxLen ∧ s.stamp.length ≤ maxLen ∧ VerOk s.stamp) ∧ (-9223372036854775808 ≤ s.kind ∧ s.kind ≤ 9223372036854775807) ∧ (-9223372036854775808 ≤ s.src ∧ s.src ≤ 9223372036854775807) ∧ (-9223372036854775808 ≤ s.dst ∧ s.dst ≤ 9223372036854775807) ∧ (-9223372036854775808 ≤ s.val ∧ s.val ≤ 9223372036854775807)
def SmallSay (s : SayV) : Prop := (s.name.size ≤ 1048576 ∧ VerSmall s.stamp) ∧ SayFit s
def SayRd (w : World) (v : Value) (s : SayV) : Prop := ∃ v5, v = .agg #[.int .i64 s.kind, .int .i64 s.src, .int .i64 s.dst, .string s.name, .int .i64 s.val, v5] ∧ VerRd w v5 s.stamp
def SayOwn (S : List Nat) (w : World) (v : Value) (s : SayV) : Prop := ∃ v5, v = .agg #[.int .i64 s.kind, .int .i64 s.src, .int .i64 s.dst, .string s.name, .int .i64 s.val, v5] ∧ VerOwn S w v5 s.stamp
theorem SayRd.up {w w' : World} {v : Value} {d : SayV} (h : SayRd w v d) (hb : Below w.heap.size w w') : SayRd w' v d := by
  obtain ⟨v0, e, h0⟩ := h
  exact ⟨v0, e, h0.up hb⟩
theorem SayOwn.rd {S : List Nat} {w : World} {v : Value} {d : SayV} (h : SayOwn S w v d) : SayRd w v d := by
  obtain ⟨v0, e, h0⟩ := h
  exact ⟨v0, e, h0.rd⟩
theorem SayOwn.turn {S S' : List Nat} {w w' : World} {v : Value} {d : SayV} (h : SayOwn S w v d) (ht : Turn S' w w') (hS : ∀ k ∈ S, k ∉ S') : SayOwn S w' v d := by
  obtain ⟨v0, e, h0⟩ := h
  exact ⟨v0, e, h0.turn ht hS⟩
theorem SayOwn.up {S : List Nat} {w w' : World} {v : Value} {d : SayV} (h : SayOwn S w v d) (hb : Below w.heap.size w w') : SayOwn S w' v d := h.turn (Turn.of_below (S := []) hb) (by simp)
theorem SayOwn.lt {S : List Nat} {w : World} {v : Value} {d : SayV} (h : SayOwn S w v d) : ∀ k ∈ S, k < w.heap.size := by
  obtain ⟨v0, e, h0⟩ := h
  exact h0.lt
theorem SayRd.form {w : World} {v : Value} {d : SayV} (h : SayRd w v d) : ∃ k f t nm vl a n c, v = .agg #[.int .i64 k, .int .i64 f, .int .i64 t, .string nm, .int .i64 vl, .slice a n c] := by
  obtain ⟨v0, rfl, h0⟩ := h
  obtain ⟨a0, c0, rfl⟩ := h0.len
  exact ⟨_, _, _, _, _, _, _, _, rfl⟩
def nSay (d : SayV) : Nat := 2 * d.stamp.length
theorem nSay_le {d : SayV} (h : SmallSay d) : nSay d ≤ 100000000 := by have := h.1.2.1; unfold nSay; omega
theorem bcell {W w1 : World} (hb : Below W.heap.size W w1) : (∀ b o, b < W.heap.size → w1.cell? ⟨b, o, none⟩ = W.cell? ⟨b, o, none⟩) ∧ (∀ b o, b < W.heap.size → w1.frozen? ⟨b, o, none⟩ = W.frozen? ⟨b, o, none⟩) :=
  ⟨fun b o h => hb.cell (p := ⟨b, o, none⟩) h, fun b o h => hb.frozen (p := ⟨b, o, none⟩) h⟩
set_option maxHeartbeats 3200000 in
theorem szSay_kit (d : SayV) (v : Value) (w : World) (hf : SayFit d) (h : SayRd w v d) :
    Calls Tryd.prog 4 #[v, .int .i64 1048576] w fun e w' => ∃ q : Int, e = .returned (.int .i64 q) ∧ Hid (0 ≤ q → SmallSay d) ∧ Below w.heap.size w w' := by
  obtain ⟨v0, rfl, a0, c0, rfl, h0⟩ := h
  have HFIT := hide hf
  obtain ⟨kind, src, dst, name, val, stamp⟩ := d
  simp only at h0 ⊢
  obtain ⟨⟨hn, hsl, hso⟩, _⟩ := hf
  simp only at hn hsl hso
  have HZ := hide (fun W left (b : Below w.heap.size w W) (h1 : 0 ≤ left) (h2 : left ≤ 1048576) => szVerS_in W a0 c0 stamp left h1 h2 hsl (h0.below b) hso)
  unfold maxLen at hn
  clear h0 hsl hso
  by_cases g0 : 1048576 - (name.size : Int) < 0
  · go_enter Tryd.func4, Tryd.ntmps4
    go_wp2_with fail
    go_ret
    exact ⟨-1, rfl, hide (fun h => by omega), by go_grown⟩
  · go_enter Tryd.func4, Tryd.ntmps4
    go_wp2_with fail
    refine (unhide HZ _ _ (by go_grown) (by omega) (by omega)).mono ?_
    rintro e w1 ⟨⟨r, rfl, r1, r2⟩, b1⟩
    have B1 := hide (show Below w.heap.size w w1 from Below.trans (by go_grown) (b1.mono (by simp)))
    have HR := hide r2
    clear b1 r2
    by_cases g1 : r < 0
    · go_wp2_with fail
      go_ret
      exact ⟨_, rfl, hide (fun h => by omega), unhide B1⟩
    · go_wp2_with fail
      go_ret
      exact ⟨_, rfl, hide (fun h => ⟨⟨by show name.size ≤ 1048576; omega, unhide HR h⟩, unhide HFIT⟩), unhide B1⟩
set_option maxHeartbeats 3200000 in
theorem toSay_kit (d : SayV) (v : Value) (w : World) (hs : SmallSay d) (h : SayRd w v d) :
    Calls Tryd.prog 6 #[v] w fun e w' => ∃ v S, e = .returned v ∧ Hid (SayOwn S w' v d) ∧ Hid (∀ k ∈ S, w.heap.size ≤ k) ∧ Below w.heap.size w w' := by
  obtain ⟨v0, rfl, a0, c0, rfl, i0⟩ := h
  obtain ⟨kind, src, dst, name, val, stamp⟩ := d
  have hl := hs.1.2.1
  simp only at hl i0 ⊢
  have HA := hide (fun W (b : Below w.heap.size w W) => toVerS_own W a0 c0 stamp hl (i0.below b))
  clear i0 hs
  go_enter Tryd.func6, Tryd.ntmps6
  go_wp2_with fail
  refine (unhide HA _ (by go_grown)).mono ?_
  rintro e w1 ⟨rfl, o1, z1, b1⟩
  have O1 := hide o1
  have B1 := hide (show Below w.heap.size w w1 from Below.trans (by go_grown) (b1.mono (by simp; omega)))
  obtain ⟨hc, hf⟩ := bcell b1
  clear o1 b1
  simp at z1
  have O1' := hide (show VerOwn [w.heap.size + 1 + 1 + 1] w1 (.slice (some ⟨w.heap.size + 1 + 1 + 1, 0, none⟩) stamp.length stamp.length) stamp by simpa using unhide O1)
  clear O1
  have r0 : ∀ i, i < 6 → ∃ x, w1.cell? ⟨w.heap.size + 1, i, none⟩ = some x := by
    intro i hi
    rw [hc _ _ (by simp), World.cell?_alloc_past _ _ _ (by simp), World.cell?_alloc_at _ _ _ _ (by simp)]
    match i, hi with
    | 0, _ => exact ⟨_, rfl⟩
    | 1, _ => exact ⟨_, rfl⟩
    | 2, _ => exact ⟨_, rfl⟩
    | 3, _ => exact ⟨_, rfl⟩
    | 4, _ => exact ⟨_, rfl⟩
    | 5, _ => exact ⟨_, rfl⟩
  obtain ⟨q0, r0'⟩ := r0 0 (by omega)
  obtain ⟨q1, r1'⟩ := r0 1 (by omega)
  obtain ⟨q2, r2'⟩ := r0 2 (by omega)
  obtain ⟨q3, r3'⟩ := r0 3 (by omega)
  obtain ⟨q4, r4'⟩ := r0 4 (by omega)
  obtain ⟨q5, r5'⟩ := r0 5 (by omega)
  clear r0
  go_wp2_with fail
  refine bodyPost_ret (v := .agg #[.int .i64 kind, .int .i64 src, .int .i64 dst, .string name, .int .i64 val, .slice (some ⟨w.heap.size + 1 + 1 + 1, 0, none⟩) stamp.length stamp.length]) (by simp [results, Tryd.results6, go_sem, r0', r1', r2', r3', r4', r5']) rfl ?_
  have key : ∀ W, Turn [w.heap.size + 1, w.heap.size + 1 + 1] w1 W → ∃ v S, Ending.returned (.agg #[.int .i64 kind, .int .i64 src, .int .i64 dst, .string name, .int .i64 val, .slice (some ⟨w.heap.size + 1 + 1 + 1, 0, none⟩) stamp.length stamp.length]) = .returned v ∧ Hid (SayOwn S W v ⟨kind, src, dst, name, val, stamp⟩) ∧ Hid (∀ k ∈ S, w.heap.size ≤ k) ∧ Below w.heap.size w W := fun W ht =>
    ⟨_, [w.heap.size + 1 + 1 + 1], rfl, ⟨_, rfl, (unhide O1').turn ht (fun k hk hm => by simp at hk hm; omega)⟩, hide (fun k hk => by simp at hk; omega), (unhide B1).trans (ht.below (unhide B1).size (fun k hk => by simp at hk; omega))⟩
  exact key _ ((((((((Turn.refl _ _).setCell (by simp) _ _).setCell (by simp) _ _).setCell (by simp) _ _).setCell (by simp) _ _).setCell (by simp) _ _).setCell (by simp) _ _).setCell (by simp) _ _)
set_option maxHeartbeats 3200000 in
theorem eqSay_kit (d : SayV) (v v' : Value) (w : World) (hs : SmallSay d) (h : SayRd w v d) (h' : SayRd w v' d) :
    Calls Tryd.prog 8 #[v, v'] w fun e w' => e = .returned (.bool true) ∧ Below w.heap.size w w' := by
  obtain ⟨v0, rfl, i0⟩ := h
  obtain ⟨v0', rfl, i0'⟩ := h'
  obtain ⟨kind, src, dst, name, val, stamp⟩ := d
  have hl := hs.1.2.1
  simp only at hl i0 i0' ⊢
  have HA := hide (fun W (b : Below w.heap.size w W) => eqVerS_rd W v0 v0' stamp (by omega) (i0.up b) (i0'.up b))
  obtain ⟨a0, c0, rfl⟩ := i0.len
  obtain ⟨a0', c0', rfl⟩ := i0'.len
  clear i0 i0' hs hl
  go_enter Tryd.func8, Tryd.ntmps8
  go_wp2_with fail
  refine (unhide HA _ (by go_grown)).mono ?_
  rintro e w1 ⟨rfl, b1⟩
  have B1 := hide (show Below w.heap.size w w1 from Below.trans (by go_grown) (b1.mono (by simp; omega)))
  clear b1
  go_wp2_with fail
  go_ret
  exact ⟨rfl, unhide B1⟩
theorem cellsI : Tryd.prog.cellsOf 3 = 1 := by kernel_rfl
theorem cellsStr : Tryd.prog.cellsOf 9 = 1 := by kernel_rfl
theorem cellsVs : Tryd.prog.cellsOf 22 = 1 := by kernel_rfl
theorem aggOf {P : Program} {W : World} {r : Reach} {base n : Nat} {t : TypeId} {fs : Array Field} {v : Value} (ht : P.underlying t = some (.struct fs)) (hn : P.cellsOf t = n) (h : Value.okWide P W r base t v) : ∃ cs : Array Value, v = .agg cs ∧ cs.size = n := by
  simp only [Value.okWide, ht] at h
  obtain ⟨cs, h1, h2, _⟩ := h
  exact ⟨cs, h1, by rw [h2, hn]⟩
theorem array6 {cs : Array Value} (h : cs.size = 6) : ∃ a b c d e f, cs = #[a, b, c, d, e, f] := by
  obtain ⟨l⟩ := cs
  match l, h with
  | [a, b, c, d, e, f], _ => exact ⟨a, b, c, d, e, f, rfl⟩
theorem cellsSay : Tryd.prog.cellsOf 24 = 6 := by kernel_rfl
theorem open_ver_cell {H : Type} {enc : TypeId × Value → H} {w : World} {base : Nat} {spare : Nat → Bool} {held : Bool} {v : Value} {fuel : Nat} {y : DataW H × List MemPlace}
    (h : DataW.trod enc Tryd.prog w base spare held fuel 22 [v] = some y) : ∃ a c, ∃ ns : List VerV, v = .slice a ns.length c ∧ ns.length ≤ maxLen ∧ VerIn w a ns ∧ VerOk ns := by
  have h' := h
  rcases open_slice Tryd.underlying22 h with ⟨hcs, _⟩ | ⟨a', len', cap', m, n, D, Pl, hcs, _⟩
  · simp at hcs
    subst hcs
    exact ⟨none, 0, [], rfl, by unfold maxLen; simp, .inl rfl, fun _ h => by cases h⟩
  · simp at hcs
    subst hcs
    obtain ⟨ns, rfl, h1, h2, h3⟩ := openVerS (a := some a') (len := len') (cap := cap') ⟨fuel, h'⟩
    exact ⟨_, _, ns, rfl, h1, h2, h3⟩
set_option maxRecDepth 20000 in
theorem openSay {H : Type} {enc : TypeId × Value → H} {w : World} {base : Nat} {spare : Nat → Bool} {held : Bool} {c0 c1 c2 c3 c4 c5 : Value} {d : DataW H} {p : List MemPlace}
    (h : DataW.Trod enc Tryd.prog w base spare held 24 (.agg #[c0, c1, c2, c3, c4, c5]) d p) : ∃ r : SayV, SayRd w (.agg #[c0, c1, c2, c3, c4, c5]) r ∧ SayFit r := by
  obtain ⟨fuel, hf⟩ := h
  obtain ⟨xs, k, hk, hxy, _, hxl, hf⟩ := DataW.trod_struct Tryd.underlying24 hf
  match xs, hxl with
  | [y0, y1, y2, y3, y4, y5], _ =>
    have g0 := hf 0 _ rfl
    have g1 := hf 1 _ rfl
    have g2 := hf 2 _ rfl
    have g3 := hf 3 _ rfl
    have g4 := hf 4 _ rfl
    have g5 := hf 5 _ rfl
    simp [Value.cells, cellsI, cellsStr, cellsVs] at g0 g1 g2 g3 g4 g5
    obtain ⟨n0, e0, _, hs0⟩ := DataW.trod_int Tryd.underlying3 g0
    obtain ⟨n1, e1, _, hs1⟩ := DataW.trod_int Tryd.underlying3 g1
    obtain ⟨n2, e2, _, hs2⟩ := DataW.trod_int Tryd.underlying3 g2
    obtain ⟨n3, e3, _, hs3⟩ := DataW.trod_string Tryd.underlying9 g3
    obtain ⟨n4, e4, _, hs4⟩ := DataW.trod_int Tryd.underlying3 g4
    obtain ⟨a5, cap5, ns5, rfl, l5, r5, o5⟩ := open_ver_cell g5
    simp at e0 e1 e2 e3 e4
    subst e0 e1 e2 e3 e4
    exact ⟨⟨n0, n1, n2, n3, n4, ns5⟩, ⟨_, rfl, _, _, rfl, r5⟩, ⟨hs3, l5, o5⟩, bounds_i64 hs0, bounds_i64 hs1, bounds_i64 hs2, bounds_i64 hs4⟩
end Go.Proofs.YtiebfcefmdiajaaDoor
