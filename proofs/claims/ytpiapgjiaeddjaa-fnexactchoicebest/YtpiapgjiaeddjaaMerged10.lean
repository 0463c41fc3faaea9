/-
  What the callers of the iterator over two stamps share: boxes, and what rows they read.
-/
/-
  StampAgree of the program.
-/
/-
  The version that marks have of a source: the first one tells; both sides' ways to find it.
-/
import Derived.Test.YtpiapgjiaeddjaaMerged8
import Derived.Test.YtpiapgjiaeddjaaStampI
import Derived.RangeFuncBox
import Derived.Laws.StructEq
import Derived.Test.YtpiapgjiaeddjaaMerged4
import Derived.Test.YtpiapgjiaeddjaaMarkRowsOwn
import Derived.Test.YtpiapgjiaeddjaaMerged6
import Derived.BigQuiet
import Derived.Deep.QuietTactic
import Derived.Handy
set_option linter.unusedVariables false
namespace Go.Proofs.Ytpiapgjiaeddjaa
open Go.RowKit Go.Maps Go.Deep Go.Shelf

theorem mstamp_len {ns : List MarkV} (h : mstampB ns = true) : ns.length ≤ 12 := by
  simp [mstampB] at h
  exact h.1
theorem boxed_up {W W' : World} {B : Nat} {t : TypeId} {v : Value} (h : Boxed W B t v) (hb : Below W.heap.size W W') : Boxed W' B t v := (hb.block B h.lt).trans h
/-- a mark in a box of its own -/
def BoxM (W : World) (B : Nat) (x : MarkV) : Prop := W.heap[B]? = some (.cells #[.string x.a0, .int .i64 x.a1] 62 (0, 0))
theorem boxM_cells {W : World} {B : Nat} {x : MarkV} (h : BoxM W B x) : W.cell? ⟨B, 0, none⟩ = some (.string x.a0) ∧ W.cell? ⟨B, 1, none⟩ = some (.int .i64 x.a1) := by
  constructor <;> simp [World.cell?, show W.heap[B]? = _ from h]
theorem boxM_frozen {W : World} {B : Nat} {x : MarkV} (h : BoxM W B x) (i : Nat) : W.frozen? ⟨B, i, none⟩ = false := by simp [World.frozen?, show W.heap[B]? = _ from h]
theorem ownFrom_size {α : Type} (B n : Nat) : OwnFrom B (fun (_ : α) W => n ≤ W.heap.size) := fun s W W' row hs hg hr => Nat.le_trans hs hg.size
theorem boxM_own (B : Nat) (x : MarkV) : Own (fun (_ : Unit) W => BoxM W B x) := fun s X Y row hs hg hrow =>
  (hg.block B (Array.getElem?_eq_some_iff.1 hs).1 (fun e' => by obtain ⟨o, ho, hc⟩ := hrow B e'.symm; rw [show X.heap[B]? = _ from hs] at ho; cases ho; cases hc)).trans hs
theorem markIn_low {w : World} {a : Option Addr} {ns : List MarkV} (h : MarkIn w a ns) {n₀ : Nat} {S : List Nat} (hn : w.heap.size ≤ n₀) (hS : ∀ k ∈ S, w.heap.size ≤ k) {X : World} (hb : Below w.heap.size w X) : MarkLow n₀ S X a ns := by
  rcases h with h | ⟨b, off, e, hb', hc⟩
  · exact .inl h
  · exact .inr ⟨b, off, e, ⟨by omega, fun hm => by have := hS _ hm; omega⟩, hc.below hb hb'⟩

end Go.Proofs.Ytpiapgjiaeddjaa

set_option linter.unusedVariables false
namespace Go.Proofs.Ytpiapgjiaeddjaa
open Go.RowKit Go.Maps Go.Deep Go.Shelf

attribute [local go_sem] Oper.semAt_some

theorem cmpMark (x0 y0 : ByteArray) (x1 y1 : Int) (w : World) : (Op.equalIn 10000 62 (.agg #[.string x0, .int .i64 x1]) (.agg #[.string y0, .int .i64 y1])).run Try.prog w = .ok ((x0.toList == y0.toList) && (x1 == y1)) w := by
  rw [run_equalIn_struct w 9999 62 _ _ (by kernel_rfl) (by kernel_rfl)]
  have hf : (Try.prog.fieldsOf 62).toList.map (fun f => (f.name, f.type, f.offset)) = [("Src", 9, 0), ("Ver", 3, 1)] := by kernel_rfl
  have hp : ∀ (T : TypeId) (a b : Value) (k : Nat) (v : Value), (isAgg T).run Try.prog w = .ok false w → (#[a, b] : Array Value)[k]? = some v → (part T #[a, b] k).run Try.prog w = .ok v w := by
    intro T a b k v ha hv
    unfold part
    simp only [Sem.run_bind, ha, Result.andThen_ok, Bool.false_eq_true, if_false, hv, Sem.run_pure]
  have hs : (isAgg 9).run Try.prog w = .ok false w := by kernel_rfl
  have hi : (isAgg 3).run Try.prog w = .ok false w := by kernel_rfl
  generalize (Try.prog.fieldsOf 62).toList = fs at hf ⊢
  match fs, hf with
  | [], hf => simp at hf
  | [_], hf => simp at hf
  | _ :: _ :: _ :: _, hf => simp at hf
  | [f0, f1], hf =>
    simp only [List.map_cons, List.map_nil, List.cons.injEq, Prod.mk.injEq, and_true] at hf
    obtain ⟨⟨n0, t0, o0⟩, ⟨n1, t1, o1⟩⟩ := hf
    simp only [Op.eqFields, n0, n1, t0, t1, o0, o1]
    rw [if_pos (by decide), if_pos (by decide)]
    simp only [Sem.run_bind]
    rw [hp _ _ _ 0 (.string x0) hs rfl, Result.andThen_ok, hp _ _ _ 0 (.string y0) hs rfl, Result.andThen_ok, run_equalIn_string w 9998 9 x0 y0 Try.underlying9, Result.andThen_ok]
    cases (x0.toList == y0.toList)
    · simp
    · simp only [Bool.not_true, Bool.false_eq_true, if_false, Sem.run_bind]
      rw [hp _ _ _ 1 (.int .i64 x1) hi rfl, Result.andThen_ok, hp _ _ _ 1 (.int .i64 y1) hi rfl, Result.andThen_ok, run_equalIn_int w 9998 3 .i64 .i64 x1 y1 Try.underlying3, Result.andThen_ok]
      cases (x1 == y1) <;> simp

/-- a pair that does not agree -/
def badP (p : MarkV × MarkV) : Bool := decide (0 < p.1.a1) && decide (0 < p.2.a1) && !((p.1.a0.toList == p.2.a0.toList) && (p.1.a1 == p.2.a1))
def agreeS (xa xb : List MarkV) : Bool := (sideL xa xb).all fun p => !badP p
def agreeOut (xa xb : List MarkV) : Bool := mstampB xa && mstampB xb && agreeS xa xb
def NoBad (pre : List (MarkV × MarkV)) : Prop := ∀ y ∈ pre, badP y = false
theorem agree_yes {xa xb : List MarkV} (h : NoBad (sideL xa xb)) : agreeS xa xb = true := by
  unfold agreeS
  rw [List.all_eq_true]
  intro y hy
  simp [h y hy]
theorem agree_no {xa xb : List MarkV} {pre : List (MarkV × MarkV)} {last : MarkV × MarkV} (h : pre ++ [last] <+: sideL xa xb) (hb : badP last = true) : agreeS xa xb = false := by
  unfold agreeS
  rw [List.all_eq_false]
  obtain ⟨t, ht⟩ := h
  exact ⟨last, by rw [← ht]; simp, by simp [hb]⟩
end Go.Proofs.Ytpiapgjiaeddjaa

set_option linter.unusedVariables false
namespace Go.Proofs.Ytpiapgjiaeddjaa
open Go.RowKit Go.Maps Go.Deep

def getV : List MarkV → ByteArray → Int
  | [], _ => 0
  | x :: xs, s => if x.a0 = s then x.a1 else getV xs s
theorem getV_hit (ns : List MarkV) (s : ByteArray) (k : Nat) (hk : k < ns.length) (he : ns[k].a0 = s) (hn : ∀ j (h : j < ns.length), j < k → ns[j].a0 ≠ s) : getV ns s = ns[k].a1 := by
  induction ns generalizing k with
  | nil => simp at hk
  | cons x xs ih =>
    cases k with
    | zero => simp at he; simp [getV, he]
    | succ k =>
      have h0 := hn 0 (by simp) (by omega)
      simp at h0
      simp only [getV, if_neg h0]
      simp only [List.getElem_cons_succ]
      exact ih k (by simpa using hk) (by simpa using he) (fun j h hj => by have := hn (j + 1) (by simpa using h) (by omega); simpa using this)
theorem getV_miss (ns : List MarkV) (s : ByteArray) (hn : ∀ j (h : j < ns.length), ns[j].a0 ≠ s) : getV ns s = 0 := by
  induction ns with
  | nil => rfl
  | cons x xs ih =>
    have h0 := hn 0 (by simp)
    simp at h0
    simp only [getV, if_neg h0]
    exact ih (fun j h => by have := hn (j + 1) (by simpa using h); simpa using this)
set_option maxHeartbeats 1600000 in
theorem l13Get_row (w : World) (b off cap : Nat) (ns : List MarkV) (s : ByteArray) (hl : (ns.length : Int) ≤ 1048576) (hc : MarkAt w b off ns) :
    Calls Try.prog 57 #[.slice (some ⟨b, off, none⟩) ns.length cap, .string s] w fun e w' => e = .returned (.int .i64 (getV ns s)) ∧ w' = w := by
  have HC := hide hc
  clear hc
  go_enter Try.func57, Try.ntmps57
  go_wp2_with fail
  go_loop [5] (fun i => ∃ k : Nat, k ≤ ns.length ∧ i = .int .i64 k ∧ Hid (∀ j (h : j < ns.length), j < k → ns[j].a0 ≠ s)) (fun i => ns.length - (intOf i).toNat)
  case atStart => exact ⟨0, Nat.zero_le _, rfl, fun j h hj => absurd hj (Nat.not_lt_zero _)⟩
  case round =>
    obtain ⟨k, hk, rfl, HN⟩ := hrel
    by_cases hlt : k < ns.length
    · obtain ⟨c0, c1⟩ := unhide HC k hlt
      by_cases he : ns[k].a0 = s
      · have hf := hide (getV_hit ns s k hlt he (fun j h hj => unhide HN j h hj))
        rw [he] at c0
        clear he
        generalize ns[k].a1 = vl at *
        go_wp2_with fail
        go_ret
        exact ⟨ret_int (unhide hf).symm, rfl⟩
      · have HN2 := hide (show ∀ j (h : j < ns.length), j < k + 1 → ns[j].a0 ≠ s from fun j h hj => by
          by_cases e : j = k
          · subst e; exact he
          · exact unhide HN j h (by omega))
        have qe : (ns[k].a0.toList == s.toList) = false := by rw [str_same]; simpa using he
        clear he
        generalize ns[k].a0 = nm at *
        generalize ns[k].a1 = vl at *
        go_wp2_with fail
        go_round
        case rel => exact ⟨k + 1, by omega, by go_num, HN2⟩
        case measure => simp [intOf]; omega
    · have hf := hide (getV_miss ns s (fun j h => unhide HN j h (by omega)))
      go_wp2_with fail
      go_ret
      exact ⟨ret_int (unhide hf).symm, rfl⟩
theorem l13Get_none (w : World) (a : Option Addr) (cap : Nat) (s : ByteArray) : Calls Try.prog 57 #[.slice a 0 cap, .string s] w fun e w' => e = .returned (.int .i64 (getV [] s)) ∧ w' = w := by
  go_enter Try.func57, Try.ntmps57
  go_wp2_with fail
  refine wp_loop_rounds 1 ?_
  rw [rounds_succ]
  go_wp2_with fail
  go_ret
  exact ⟨rfl, rfl⟩
theorem l13Get_any (ns : List MarkV) (v : Value) (s : ByteArray) (w : World) (hs : SmallMarkS ns) (h : MarkSRd w v ns) : Calls Try.prog 57 #[v, .string s] w fun e w' => e = .returned (.int .i64 (getV ns s)) ∧ w' = w := by
  obtain ⟨a, c, rfl, h⟩ := h
  rcases h with rfl | ⟨b, off, rfl, hb, hc⟩
  · exact l13Get_none w a c s
  · exact l13Get_row w b off c ns s (by have := hs.1.1; omega) hc
set_option maxHeartbeats 1600000 in
theorem verIn_row (w : World) (b off cap : Nat) (ns : List MarkV) (s : ByteArray) (hl : (ns.length : Int) ≤ 1048576) (hc : MarkAt w b off ns) (hb : b < w.heap.size) :
    Calls Try.prog 64 #[.slice (some ⟨b, off, none⟩) ns.length cap, .string s] w fun e w' => e = .returned (.int .i64 (getV ns s)) ∧ Below w.heap.size w w' := by
  have HC := hide hc
  clear hc
  go_enter Try.func64, Try.ntmps64
  go_wp2_with fail
  go_loopw [9] (fun i wr => ∃ k : Nat, k ≤ ns.length ∧ i = .int .i64 k ∧ Hid (∀ j (h : j < ns.length), j < k → ns[j].a0 ≠ s) ∧ Hid (Below w.heap.size w wr)) (fun i _ => ns.length - (intOf i).toNat)
  case atStart => exact ⟨0, Nat.zero_le _, rfl, fun j h hj => absurd hj (Nat.not_lt_zero _), Below.refl _ _⟩
  case round =>
    obtain ⟨k, hk, rfl, HN, HB⟩ := hrel
    by_cases hlt : k < ns.length
    · obtain ⟨c0, c1⟩ := (unhide HC).below (unhide HB) hb k hlt
      by_cases he : ns[k].a0 = s
      · have hf := hide (getV_hit ns s k hlt he (fun j h hj => unhide HN j h hj))
        rw [he] at c0
        clear he
        generalize ns[k].a1 = vl at *
        go_wp2_with fail
        go_ret
        exact ⟨ret_int (unhide hf).symm, (unhide HB).trans (Below.mono (by go_grown) (unhide HB).size)⟩
      · have HN2 := hide (show ∀ j (h : j < ns.length), j < k + 1 → ns[j].a0 ≠ s from fun j h hj => by
          by_cases e : j = k
          · subst e; exact he
          · exact unhide HN j h (by omega))
        have qe : (ns[k].a0.toList == s.toList) = false := by rw [str_same]; simpa using he
        clear he
        generalize ns[k].a0 = nm at *
        generalize ns[k].a1 = vl at *
        have HB2 := hide ((unhide HB).trans (Below.mono (by go_grown : Below wr.heap.size wr (wr.alloc (.cells #[.string nm, .int .i64 vl] 62))) (unhide HB).size))
        go_wp2_with fail
        go_roundw
        case rel => exact ⟨k + 1, by omega, by go_num, HN2, HB2⟩
        case measure => simp [intOf]; omega
    · have hf := hide (getV_miss ns s (fun j h => unhide HN j h (by omega)))
      go_wp2_with fail
      go_ret
      exact ⟨ret_int (unhide hf).symm, unhide HB⟩
theorem verIn_none (w : World) (a : Option Addr) (cap : Nat) (s : ByteArray) : Calls Try.prog 64 #[.slice a 0 cap, .string s] w fun e w' => e = .returned (.int .i64 (getV [] s)) ∧ Below w.heap.size w w' := by
  go_enter Try.func64, Try.ntmps64
  go_wp2_with fail
  refine wp_loop_rounds 1 ?_
  rw [rounds_succ]
  go_wp2_with fail
  go_ret
  exact ⟨rfl, Below.refl _ _⟩
theorem verIn_any (ns : List MarkV) (v : Value) (s : ByteArray) (w : World) (hs : SmallMarkS ns) (h : MarkSRd w v ns) : Calls Try.prog 64 #[v, .string s] w fun e w' => e = .returned (.int .i64 (getV ns s)) ∧ Below w.heap.size w w' := by
  obtain ⟨a, c, rfl, h⟩ := h
  rcases h with rfl | ⟨b, off, rfl, hb, hc⟩
  · exact verIn_none w a c s
  · exact verIn_row w b off c ns s (by have := hs.1.1; omega) hc hb
end Go.Proofs.Ytpiapgjiaeddjaa
