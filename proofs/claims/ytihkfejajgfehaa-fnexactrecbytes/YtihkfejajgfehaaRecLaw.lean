/-
  The law's own helpers over one record: how much it holds, how it is copied, how one that comes in is opened.
-/
import Derived.Test.YtihkfejajgfehaaRecs
import Derived.OpenShut
set_option linter.unusedVariables false
namespace Go.Proofs.Ytihkfejajgfehaa
open Go.RowKit Go.Maps Go.Deep Go.ChangeShapes Go.WideShapes Go.ChangeAt

set_option maxHeartbeats 800000 in
theorem szRec_any (r : RecV) (w : World) (hf : RecFit r) :
    Calls Try.prog 5 #[recVal r, .int .i64 1048576] w fun e w' => ∃ q : Int, e = .returned (.int .i64 q) ∧ (0 ≤ q → r.name.size ≤ 1048576 ∧ r.text.size ≤ 1048576) ∧ Below w.heap.size w w' := by
  obtain ⟨kind, name, num, text⟩ := r
  obtain ⟨hn, ht, _, _⟩ := hf
  simp only at hn ht
  unfold maxLen at hn ht
  unfold recVal
  by_cases g1 : (1048576 : Int) - (name.size : Int) < 0
  · go_enter Try.func5, Try.ntmps5
    go_wp2
    go_ret
    exact ⟨_, rfl, fun h => by omega, (Below.refl _ _).alloc (Nat.le_refl _) _⟩
  · by_cases g2 : (1048576 : Int) - (name.size : Int) - (text.size : Int) < 0
    · go_enter Try.func5, Try.ntmps5
      go_wp2
      go_ret
      exact ⟨_, rfl, fun h => by omega, (Below.refl _ _).alloc (Nat.le_refl _) _⟩
    · go_enter Try.func5, Try.ntmps5
      go_wp2
      go_ret
      exact ⟨_, rfl, fun h => ⟨show name.size ≤ 1048576 by omega, show text.size ≤ 1048576 by omega⟩, (Below.refl _ _).alloc (Nat.le_refl _) _⟩
set_option maxHeartbeats 800000 in
theorem toRec_any (r : RecV) (w : World) : Calls Try.prog 7 #[recVal r] w fun e w' => e = .returned (recVal r) ∧ Below w.heap.size w w' := by
  obtain ⟨kind, name, num, text⟩ := r
  unfold recVal
  go_enter Try.func7, Try.ntmps7
  go_wp2
  go_returns
  exact ⟨rfl, by go_grown⟩

theorem cellsI : Try.prog.cellsOf 3 = 1 := by kernel_rfl
theorem cellsS : Try.prog.cellsOf 9 = 1 := by kernel_rfl
theorem intRange {k : Int} (h : (Lit.int .i64 k).wf = true) : -9223372036854775808 ≤ k ∧ k ≤ 9223372036854775807 := bounds_i64 h
theorem aggOf {P : Program} {W : World} {r : Reach} {base n : Nat} {t : TypeId} {fs : Array Field} {v : Value} (ht : P.underlying t = some (.struct fs)) (hn : P.cellsOf t = n) (h : Value.okWide P W r base t v) : ∃ cs : Array Value, v = .agg cs ∧ cs.size = n := by
  simp only [Value.okWide, ht] at h
  obtain ⟨cs, h1, h2, _⟩ := h
  exact ⟨cs, h1, by rw [h2, hn]⟩
theorem array4 {cs : Array Value} (h : cs.size = 4) : ∃ a b c d, cs = #[a, b, c, d] := by
  obtain ⟨l⟩ := cs
  match l, h with
  | [a, b, c, d], _ => exact ⟨a, b, c, d, rfl⟩
theorem cellsRec : Try.prog.cellsOf 23 = 4 := by kernel_rfl
set_option maxRecDepth 20000 in
theorem openRec {H : Type} {enc : TypeId × Value → H} {w : World} {base : Nat} {spare : Nat → Bool} {held : Bool} {c0 c1 c2 c3 : Value} {d : DataW H} {p : List MemPlace}
    (h : DataW.Trod enc Try.prog w base spare held 23 (.agg #[c0, c1, c2, c3]) d p) : ∃ r : RecV, Value.agg #[c0, c1, c2, c3] = recVal r ∧ RecFit r := by
  obtain ⟨fuel, hf⟩ := h
  obtain ⟨xs, k, hk, hxy, _, hxl, hf⟩ := DataW.trod_struct Try.underlying23 hf
  match xs, hxl with
  | [y0, y1, y2, y3], _ =>
    have g0 := hf 0 _ rfl
    have g1 := hf 1 _ rfl
    have g2 := hf 2 _ rfl
    have g3 := hf 3 _ rfl
    simp [Value.cells, cellsI, cellsS] at g0 g1 g2 g3
    obtain ⟨n0, e0, _, hs0⟩ := DataW.trod_int Try.underlying3 g0
    obtain ⟨n1, e1, _, hs1⟩ := DataW.trod_string Try.underlying9 g1
    obtain ⟨n2, e2, _, hs2⟩ := DataW.trod_int Try.underlying3 g2
    obtain ⟨n3, e3, _, hs3⟩ := DataW.trod_string Try.underlying9 g3
    simp at e0 e1 e2 e3
    subst e0 e1 e2 e3
    exact ⟨⟨n0, n1, n2, n3⟩, rfl, hs1, hs3, intRange hs0, intRange hs2⟩
end Go.Proofs.Ytihkfejajgfehaa
