/-
  StampAgree of the program.
-/
import Derived.Test.YteonbigmggeneaaDoorMerged46
import Derived.Laws.StructEq
import Derived.RangeFuncBox
set_option linter.unusedVariables false
namespace Go.Proofs.YteonbigmggeneaaDoor
open Go.RowKit Go.Maps Go.Deep Go.Shelf

attribute [local go_sem] Oper.semAt_some

theorem cmpMark (x0 y0 : ByteArray) (x1 y1 : Int) (w : World) : (Op.equalIn 10000 39 (.agg #[.string x0, .int .i64 x1]) (.agg #[.string y0, .int .i64 y1])).run Tryd.prog w = .ok ((x0.toList == y0.toList) && (x1 == y1)) w := by
  rw [run_equalIn_struct w 9999 39 _ _ (by kernel_rfl) (by kernel_rfl)]
  have hf : (Tryd.prog.fieldsOf 39).toList.map (fun f => (f.name, f.type, f.offset)) = [("Src", 9, 0), ("Ver", 3, 1)] := by kernel_rfl
  have hp : ∀ (T : TypeId) (a b : Value) (k : Nat) (v : Value), (isAgg T).run Tryd.prog w = .ok false w → (#[a, b] : Array Value)[k]? = some v → (part T #[a, b] k).run Tryd.prog w = .ok v w := by
    intro T a b k v ha hv
    unfold part
    simp only [Sem.run_bind, ha, Result.andThen_ok, Bool.false_eq_true, if_false, hv, Sem.run_pure]
  have hs : (isAgg 9).run Tryd.prog w = .ok false w := by kernel_rfl
  have hi : (isAgg 3).run Tryd.prog w = .ok false w := by kernel_rfl
  generalize (Tryd.prog.fieldsOf 39).toList = fs at hf ⊢
  match fs, hf with
  | [], hf => simp at hf
  | [_], hf => simp at hf
  | _ :: _ :: _ :: _, hf => simp at hf
  | [f0, f1], hf =>
    simp only [List.map_cons, List.map_nil, List.cons.injEq, Prod.mk.injEq, and_true] at hf
    obtain ⟨⟨n0, t0, o0⟩, ⟨n1, t1, o1⟩⟩ := hf
    simp only [Op.eqFields, n0, n1, t0, t1, o0, o1]
    rw [if_pos (by decide), if_pos (by decide)]
    simp only [Sem.run_bind]
    rw [hp _ _ _ 0 (.string x0) hs rfl, Result.andThen_ok, hp _ _ _ 0 (.string y0) hs rfl, Result.andThen_ok, run_equalIn_string w 9998 9 x0 y0 Tryd.underlying9, Result.andThen_ok]
    cases (x0.toList == y0.toList)
    · simp
    · simp only [Bool.not_true, Bool.false_eq_true, if_false, Sem.run_bind]
      rw [hp _ _ _ 1 (.int .i64 x1) hi rfl, Result.andThen_ok, hp _ _ _ 1 (.int .i64 y1) hi rfl, Result.andThen_ok, run_equalIn_int w 9998 3 .i64 .i64 x1 y1 Tryd.underlying3, Result.andThen_ok]
      cases (x1 == y1) <;> simp

/-- a pair that does not agree -/
def badP (p : MarkV × MarkV) : Bool := decide (0 < p.1.a1) && decide (0 < p.2.a1) && !((p.1.a0.toList == p.2.a0.toList) && (p.1.a1 == p.2.a1))
def agreeS (xa xb : List MarkV) : Bool := (sideL xa xb).all fun p => !badP p
def agreeOut (xa xb : List MarkV) : Bool := mstampB xa && mstampB xb && agreeS xa xb
def NoBad (pre : List (MarkV × MarkV)) : Prop := ∀ y ∈ pre, badP y = false
theorem agree_yes {xa xb : List MarkV} (h : NoBad (sideL xa xb)) : agreeS xa xb = true := by
  unfold agreeS
  rw [List.all_eq_true]
  intro y hy
  simp [h y hy]
theorem agree_no {xa xb : List MarkV} {pre : List (MarkV × MarkV)} {last : MarkV × MarkV} (h : pre ++ [last] <+: sideL xa xb) (hb : badP last = true) : agreeS xa xb = false := by
  unfold agreeS
  rw [List.all_eq_false]
  obtain ⟨t, ht⟩ := h
  exact ⟨last, by rw [← ht]; simp, by simp [hb]⟩
end Go.Proofs.YteonbigmggeneaaDoor
