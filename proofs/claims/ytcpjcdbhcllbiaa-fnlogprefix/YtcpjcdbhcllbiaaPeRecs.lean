/-
  Two rows of records that are the same are told as the same.
-/
import Derived.Test.YtcpjcdbhcllbiaaRecRowsOwn
import Derived.Test.YtcpjcdbhcllbiaaRecs
import Derived.BigQuiet
import Derived.Deep.QuietTactic
import Derived.Handy
set_option linter.unusedVariables false
namespace Go.Proofs.Ytcpjcdbhcllbiaa
open Go.RowKit Go.Maps Go.Deep

theorem eqvRec (x y : RecV) (w : World) : (Op.equalIn 10000 32 (recVal x) (recVal y)).run Try.prog w = .ok ((x.kind == y.kind) && ((x.name.toList == y.name.toList) && ((x.num == y.num) && (x.text.toList == y.text.toList)))) w := by
  unfold recVal
  rw [run_equalIn_struct w 9999 32 _ _ (by kernel_rfl) (by kernel_rfl)]
  have hf : (Try.prog.fieldsOf 32).toList.map (fun f => (f.name, f.type, f.offset)) = [("Kind", 3, 0), ("Name", 9, 1), ("Num", 3, 2), ("Text", 9, 3)] := by kernel_rfl
  have hp : ∀ (T : TypeId) (a b c d : Value) (k : Nat) (v : Value), (isAgg T).run Try.prog w = .ok false w → (#[a, b, c, d] : Array Value)[k]? = some v → (part T #[a, b, c, d] k).run Try.prog w = .ok v w := by
    intro T a b c d k v ha hv
    unfold part
    simp only [Sem.run_bind, ha, Result.andThen_ok, Bool.false_eq_true, if_false, hv, Sem.run_pure]
  have hs : (isAgg 9).run Try.prog w = .ok false w := by kernel_rfl
  have hi : (isAgg 3).run Try.prog w = .ok false w := by kernel_rfl
  generalize (Try.prog.fieldsOf 32).toList = fs at hf ⊢
  match fs, hf with
  | [], hf => simp at hf
  | [_], hf => simp at hf
  | [_, _], hf => simp at hf
  | [_, _, _], hf => simp at hf
  | _ :: _ :: _ :: _ :: _ :: _, hf => simp at hf
  | [f0, f1, f2, f3], hf =>
    simp only [List.map_cons, List.map_nil, List.cons.injEq, Prod.mk.injEq, and_true] at hf
    obtain ⟨⟨n0, t0, o0⟩, ⟨n1, t1, o1⟩, ⟨n2, t2, o2⟩, ⟨n3, t3, o3⟩⟩ := hf
    simp only [Op.eqFields, n0, n1, n2, n3, t0, t1, t2, t3, o0, o1, o2, o3]
    rw [if_pos (by decide), if_pos (by decide), if_pos (by decide), if_pos (by decide)]
    simp only [Sem.run_bind]
    rw [hp _ _ _ _ _ 0 (.int .i64 x.kind) hi rfl, Result.andThen_ok, hp _ _ _ _ _ 0 (.int .i64 y.kind) hi rfl, Result.andThen_ok, run_equalIn_int w 9998 3 .i64 .i64 x.kind y.kind Try.underlying3, Result.andThen_ok]
    cases (x.kind == y.kind)
    · simp
    simp only [Bool.not_true, Bool.false_eq_true, if_false, Sem.run_bind]
    rw [hp _ _ _ _ _ 1 (.string x.name) hs rfl, Result.andThen_ok, hp _ _ _ _ _ 1 (.string y.name) hs rfl, Result.andThen_ok, run_equalIn_string w 9998 9 x.name y.name Try.underlying9, Result.andThen_ok]
    cases (x.name.toList == y.name.toList)
    · simp
    simp only [Bool.not_true, Bool.false_eq_true, if_false, Sem.run_bind]
    rw [hp _ _ _ _ _ 2 (.int .i64 x.num) hi rfl, Result.andThen_ok, hp _ _ _ _ _ 2 (.int .i64 y.num) hi rfl, Result.andThen_ok, run_equalIn_int w 9998 3 .i64 .i64 x.num y.num Try.underlying3, Result.andThen_ok]
    cases (x.num == y.num)
    · simp
    simp only [Bool.not_true, Bool.false_eq_true, if_false, Sem.run_bind]
    rw [hp _ _ _ _ _ 3 (.string x.text) hs rfl, Result.andThen_ok, hp _ _ _ _ _ 3 (.string y.text) hs rfl, Result.andThen_ok, run_equalIn_string w 9998 9 x.text y.text Try.underlying9, Result.andThen_ok]
    cases (x.text.toList == y.text.toList) <;> simp
theorem eqvRec_same (x : RecV) (w : World) : (Op.equalIn 10000 32 (recVal x) (recVal x)).run Try.prog w = .ok true w := by
  rw [eqvRec]
  simp
set_option maxHeartbeats 3200000 in
theorem peRecs_row (w : World) (b off cap b' off' cap' : Nat) (ns : List RecV) (hl : ns.length ≤ 1048576) (hc : RecAt w b off ns) (hc' : RecAt w b' off' ns) (hb : b < w.heap.size) (hb' : b' < w.heap.size) :
    Calls Try.prog 8 #[.slice (some ⟨b, off, none⟩) ns.length cap, .slice (some ⟨b', off', none⟩) ns.length cap'] w fun e w' => e = .returned (.bool true) ∧ Below w.heap.size w w' := by
  have HCM := fun (x : RecV) W => eqvRec_same x W
  unfold recVal at HCM
  go_enter Try.func8, Try.ntmps8
  go_wp2_with fail
  go_loopw [5] (fun i wr => ∃ (k : Nat), k ≤ ns.length ∧ i = .int .i64 k ∧ Below w.heap.size w wr) (fun i _ => ns.length - (intOf i).toNat)
  case atStart => exact ⟨0, Nat.zero_le _, rfl, Below.refl _ _⟩
  case round =>
    obtain ⟨k, hk, rfl, hbel⟩ := hrel
    by_cases hlt : k < ns.length
    · obtain ⟨c0, c1, c2, c3⟩ := hc k hlt
      obtain ⟨d0, d1, d2, d3⟩ := hc' k hlt
      rw [← hbel.cell (by exact hb)] at c0 c1 c2 c3
      rw [← hbel.cell (by exact hb')] at d0 d1 d2 d3
      have hcm := fun W => HCM ns[k] W
      have HB := hide hbel
      clear HCM hbel
      go_wp2_with fail
      go_quiet (fail)
      have HB2 := hide (show Below w.heap.size w (wr.drewN nq) from ⟨(unhide HB).os, (unhide HB).tape, (unhide HB).output, (unhide HB).size, (unhide HB).block⟩)
      clear c0 c1 c2 c3 d0 d1 d2 d3 hcm HB
      go_wp2_with fail
      go_roundw
      case rel => exact ⟨k + 1, by omega, by go_num, unhide HB2⟩
      case measure => simp [intOf]; omega
    · go_wp2_with fail
      go_ret
      exact ⟨rfl, hbel⟩
theorem peRecs_same (ns : List RecV) (v v' : Value) (w : World) (hl : ns.length ≤ 1048576) (h : RecSRd w v ns) (h' : RecSRd w v' ns) :
    Calls Try.prog 8 #[v, v'] w fun e w' => e = .returned (.bool true) ∧ Below w.heap.size w w' := by
  obtain ⟨a, c, rfl, h⟩ := h
  obtain ⟨a', c', rfl, h'⟩ := h'
  rcases h with rfl | ⟨b, off, rfl, hb, hc⟩
  · go_enter Try.func8, Try.ntmps8
    go_wp2
    refine wp_loop_rounds 1 ?_
    rw [rounds_succ]
    go_wp2
    go_ret
    exact ⟨rfl, Below.refl _ _⟩
  · rcases h' with rfl | ⟨b', off', rfl, hb', hc'⟩
    · go_enter Try.func8, Try.ntmps8
      go_wp2
      refine wp_loop_rounds 1 ?_
      rw [rounds_succ]
      go_wp2
      go_ret
      exact ⟨rfl, Below.refl _ _⟩
    · exact peRecs_row w b off c b' off' c' ns hl hc hc' hb hb'
end Go.Proofs.Ytcpjcdbhcllbiaa
