/-
  What is heard and what is lost when a stream ends; a row of rows put behind another.
-/
/-
  What is left of a stream waits, and may be listened to.
-/
import Derived.Test.YtlgmmibncoedgaaMerged3
import Derived.Test.YtlgmmibncoedgaaSplitFeedM
set_option linter.unusedVariables false
namespace Go.Proofs.Ytlgmmibncoedgaa
open Go.RowKit Go.Maps Go.Deep

/-- more rows of bytes, made behind all that there was -/
theorem BsIs.append {B : Nat} {w w' : World} {vs us : List Value} {ns ms : List (List UInt8)} (h : BsIs B w vs ns) (hk : KeepU w w') (hB : B ≤ w.heap.size) (h2 : BsIs w.heap.size w' us ms) : BsIs B w' (vs ++ us) (ns ++ ms) := by
  have hl := h.len
  have hl2 := h2.len
  refine ⟨by simp [hl, hl2], fun i h1 h3 => ?_, fun i j hi hj hij k k' e1 e2 => ?_⟩
  · by_cases e : i < vs.length
    · have := (h.el i e (by omega)).keepU hk
      rw [List.getElem_append_left e, List.getElem_append_left (by omega)]
      exact this
    · rw [List.length_append] at h1 h3
      have := (h2.el (i - vs.length) (by omega) (by omega)).mono hB
      rw [List.getElem_append_right (by omega), List.getElem_append_right (by omega)]
      simpa only [hl] using this
  · rw [List.length_append] at hi hj
    by_cases e : j < vs.length
    · rw [List.getElem_append_left (by omega)] at e1
      rw [List.getElem_append_left e] at e2
      exact h.inc i j (by omega) e hij k k' e1 e2
    · rw [List.getElem_append_right (by omega)] at e2
      by_cases e' : i < vs.length
      · rw [List.getElem_append_left e'] at e1
        have q1 := (h.el i e' (by omega)).lt k e1
        have q2 := (h2.el (j - vs.length) (by omega) (by omega)).ge k' e2
        omega
      · rw [List.getElem_append_right (by omega)] at e1
        exact h2.inc _ _ (by omega) (by omega) (by omega) k k' e1 e2
def endB (d : SplitV) : Bool := splitOkB d && decide (d.lost ≤ 9223372036854775807 - (d.buf.length : Int))
def endH (d : SplitV) : List (List UInt8) := if endB d then (endW d.buf).1 else []
def endI (d : SplitV) : Int := if endB d then d.lost + ((endW d.buf).2 : Int) else 0
theorem small_endH (d : SplitV) : SmallByteSS (endH d) := by
  unfold endH
  split
  · rename_i h
    simp only [endB, Bool.and_eq_true, decide_eq_true_eq] at h
    have h1 := ok_len h.1
    obtain ⟨h2, h3⟩ := end_len d.buf _ (Nat.le_refl _)
    exact ⟨by omega, h3⟩
  · exact ⟨by simp, by simp⟩
theorem bvSpread_run (B B2 : Nat) (w : World) (v u : Value) (vs us : List Value) (ms : List (List UInt8)) (hv : BvRow B w v vs) (hu : BvRow B2 w u us) (hm : BsIs B2 w us ms) (hl : vs.length + us.length ≤ 1000000) (hB : B ≤ w.heap.size) (ty : TypeId) :
    ∃ a c w', (Builtin.append_ #[36, 36] ty #[v, u]).run Try.prog w = .ok (.slice a (vs.length + us.length) c) w' ∧ BvRow B w' (.slice a (vs.length + us.length) c) (vs ++ us) ∧ w.grownBy w' v.ownBlock := by
  obtain ⟨i0, hi, hz0, hz1, hz2⟩ := infoBv_parts infoBv
  obtain ⟨au, cu, hau⟩ := hu.form
  by_cases h0 : us = []
  · subst h0
    subst hau
    cases au with
    | none =>
      obtain ⟨a, c, rfl⟩ := hv.form
      exact ⟨a, c, w, run_append_none B _ ty _ i0 1 cu Try.underlying36 hi _ _ _ hv, by simpa using hv, grown_self _ _⟩
    | some ad =>
      obtain ⟨a, c, rfl⟩ := hv.form
      exact ⟨a, c, w, run_append_zero B _ ty _ i0 1 cu ad Try.underlying36 hi _ _ _ hv, by simpa using hv, grown_self _ _⟩
  · have hpos : 0 < us.length := List.length_pos_iff.2 h0
    have hh : w.ownsRow B2 22 1 u us.length us := hu
    rcases hu.2 with ⟨_, h00⟩ | ⟨g, cap, cur, e, hB', hg, _⟩
    · omega
    · subst e
      obtain ⟨g', cap', w', h1, h2, h3, _, _⟩ := run_append_lies (P := Try.prog) (w := w) 36 ty B 22 i0 _ 1 24 Try.underlying36 hi hz0 hz1 hz2 rfl (by decide) v vs.length vs hv ⟨g, 0, none⟩ us.length cap us (by simp) (fun j x hj => by
        have hj' : j < us.length := (List.getElem?_eq_some_iff.1 hj).1
        have := hh.cellAt j (by omega)
        rw [hj] at this
        by_cases hz : j = 0
        · subst hz; simpa [Addr.add] using this
        · simpa [Addr.add, hz] using this) (fun x hx => by
        obtain ⟨j, hj, rfl⟩ := List.getElem_of_mem hx
        obtain ⟨a, n, c, e⟩ := (hm.el j hj (by have := hm.len; omega)).rd.form
        rw [e]; rfl) hpos (by unfold maxLen; omega) (by omega) hB w.heap.size rfl
      refine ⟨some ⟨g', 0, none⟩, cap', w', h1, ?_, h3⟩
      unfold BvRow
      rw [List.length_append]
      exact h2
theorem wpList_bvSpread {w : World} {ops : Array Oper} {rest : List Oper} {o : Oper} {a : Act} {Q : Exit → Act → World → Prop} (hgd : o.guard = none) (s x : Operand)
    (ho : o.op = .call { callee := .builtin .append, args := #[s, x], argTypes := #[36, 36] }) (B B2 : Nat) (v u : Value) (vs us : List Value) (ms : List (List UInt8)) (hs : a.eval s = v) (hx : a.eval x = u)
    (hv : BvRow B w v vs) (hu : BvRow B2 w u us) (hm : BsIs B2 w us ms) (hl : vs.length + us.length ≤ 1000000) (hB : B ≤ w.heap.size)
    (h : ∀ a' n c w', BvRow B w' (.slice a' n c) (vs ++ us) → w.grownBy w' v.ownBlock → wpList Try.prog ops Q rest (a.put o.dst (.slice a' n c)) w') : wpList Try.prog ops Q (o :: rest) a w := by
  obtain ⟨a', c, w', h1, h2, h3⟩ := bvSpread_run B B2 w v u vs us ms hv hu hm hl hB o.type
  refine wpList_plain hgd fun K hK => ?_
  unfold Oper.wp execOp
  simp only [ho, resolve, invoke, builtin, Sem.run_bind, Sem.run_pure, Result.andThen_ok, List.map_toArray, List.map_cons, List.map_nil, hs, hx, h1]
  exact hK _ _ (h a' _ c w' h2 h3)
def RetEndS (d : SplitV) (w : World) (e : Ending) (w' : World) : Prop := ∃ vr, e = .returned (.tuple #[vr, .int .i64 (endI d)]) ∧ Hid (ByteSSRd w' vr (endH d)) ∧ Below w.heap.size w w'
theorem retEnd_no {d : SplitV} {w w' : World} (h : endB d = false) (b : Below w.heap.size w w') : RetEndS d w (.returned (.tuple #[.slice none 0 0, .int .i64 0])) w' :=
  ⟨_, by unfold endI; rw [h]; rfl, hide (by unfold endH; rw [h]; exact ⟨none, 0, rfl, .inl rfl⟩), b⟩
def RetEndI (d : SplitV) (w : World) (e : Ending) (w' : World) : Prop := ∃ vr Q, e = .returned (.tuple #[vr, .int .i64 (endI d)]) ∧ Hid (ByteSSOwn Q w' vr (endH d)) ∧ Hid (∀ k ∈ Q, w.heap.size ≤ k) ∧ Below w.heap.size w w'
theorem retEndI_no {d : SplitV} {w w' : World} (h : endB d = false) (b : Below w.heap.size w w') : RetEndI d w (.returned (.tuple #[.slice none 0 0, .int .i64 0])) w' :=
  ⟨_, [], by unfold endI; rw [h]; rfl, hide (by unfold endH; rw [h]; exact ⟨none, 0, rfl, by simp, .inl rfl⟩), hide (by simp), b⟩
end Go.Proofs.Ytlgmmibncoedgaa

set_option linter.unusedVariables false
namespace Go.Proofs.Ytlgmmibncoedgaa
open Go.RowKit Go.Maps Go.Deep

theorem walk_waits (bs : List UInt8) : ∀ n, bs.length ≤ n → waitB (walkF n bs).2.1 = true := by
  intro n
  induction n generalizing bs with
  | zero =>
    intro h
    have e : bs = [] := List.eq_nil_of_length_eq_zero (by omega)
    subst e
    exact wait_nil
  | succ n ih =>
    intro h
    unfold walkF
    cases hw : waitB bs
    · have hp := wait_pos hw
      simp only [Bool.false_eq_true, if_false]
      by_cases hn : nextI bs = 1
      · obtain ⟨k, e1, e2, e3, e4⟩ := next_one hn
        simp only [hn, if_true, e1, Int.toNat_natCast]
        exact ih (bs.drop k) (by simp; omega)
      · simp only [hn, if_false]
        exact ih (bs.drop 1) (by simp; omega)
    · simp [hw]
theorem wait_short {bs : List UInt8} (h : waitB bs = true) : bs.length ≤ 270 := by
  have h' : frameSz bs = 0 ∨ (bs.length : Int) < frameSz bs := by simpa [waitB] using h
  rcases h' with h' | h'
  · unfold frameSz at h'
    split at h'
    · omega
    · split at h'
      · omega
      · split at h' <;> omega
  · rcases sz_cases bs with e | e | e <;> omega
theorem feed_ends {ys : List UInt8} (h : feedB ⟨[], 0⟩ ys = true) : endB (feedS ⟨[], 0⟩ ys) = true ∧ (feedS ⟨[], 0⟩ ys).lost + (sumB (feedH ⟨[], 0⟩ ys) : Int) + ((feedS ⟨[], 0⟩ ys).buf.length : Int) = (ys.length : Int) := by
  have h1 := walk_waits ys _ (Nat.le_refl _)
  have h2 := wait_short h1
  have h3 := walk_sum ys
  have h4 := (feed_yes h).2.2.2.1
  have e : feedS ⟨[], 0⟩ ys = ⟨(walkW ys).2.1, ((walkW ys).2.2 : Int)⟩ := by
    unfold feedS
    rw [h]
    simp
  have e2 : feedH ⟨[], 0⟩ ys = (walkW ys).1 := by
    unfold feedH
    rw [h]
    simp
  rw [e, e2]
  refine ⟨?_, by simp only; omega⟩
  have h1' : waitB (walkW ys).2.1 = true := h1
  have h2' : (walkW ys).2.1.length ≤ 270 := h2
  simp only [endB, splitOkB, h1', Bool.and_eq_true, decide_eq_true_eq, and_true]
  exact ⟨⟨by omega, h2'⟩, by omega⟩
theorem end_all {ys : List UInt8} (h : feedB ⟨[], 0⟩ ys = true) : endI (feedS ⟨[], 0⟩ ys) + (sumB (feedH ⟨[], 0⟩ ys) : Int) + (sumB (endH (feedS ⟨[], 0⟩ ys)) : Int) = (ys.length : Int) := by
  obtain ⟨h1, h2⟩ := feed_ends h
  have h3 := end_sum (feedS ⟨[], 0⟩ ys).buf _ (Nat.le_refl _)
  unfold endI endH
  rw [h1]
  simp only [if_true]
  omega
theorem endI_pos (ys : List UInt8) : 0 ≤ endI (feedS ⟨[], 0⟩ ys) := by
  unfold endI
  split
  · unfold feedS
    split <;> simp <;> omega
  · omega
theorem sumB_take (fh : List (List UInt8)) (k : Nat) (h : k < fh.length) : sumB (fh.take (k + 1)) = sumB (fh.take k) + fh[k].length + 5 := by
  rw [List.take_add_one, List.getElem?_eq_getElem h, sumB_append]
  simp [sumB]
  omega
theorem sumB_le (fh : List (List UInt8)) (k : Nat) : sumB (fh.take k) ≤ sumB fh := by
  have := sumB_append (fh.take k) (fh.drop k)
  rw [List.take_append_drop] at this
  omega
end Go.Proofs.Ytlgmmibncoedgaa
