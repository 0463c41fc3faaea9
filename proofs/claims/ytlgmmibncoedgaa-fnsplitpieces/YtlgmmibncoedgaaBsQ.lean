/-
  Rows of rows of bytes whose rows lie in blocks of a kind; one put behind another, whatever made it.
-/
import Derived.Test.YtlgmmibncoedgaaMerged10
set_option linter.unusedVariables false
namespace Go.Proofs.Ytlgmmibncoedgaa
open Go.RowKit Go.Maps Go.Deep

/-- these cells, each of them a row of bytes in blocks of a kind -/
def BsQ (Q : Nat → Prop) (w : World) (vs : List Value) (ns : List (List UInt8)) : Prop := vs.length = ns.length ∧ ∀ i (h : i < vs.length) (h' : i < ns.length), ∃ S, ByOwn S w vs[i] ns[i] ∧ ∀ k ∈ S, Q k
theorem BsQ.nil (Q : Nat → Prop) (w : World) : BsQ Q w [] [] := ⟨rfl, fun i h => by simp at h⟩
theorem BsQ.turn {Q : Nat → Prop} {S : List Nat} {w w' : World} {vs : List Value} {ns : List (List UInt8)} (h : BsQ Q w vs ns) (t : Turn S w w') (hS : ∀ k ∈ S, ¬ Q k) : BsQ Q w' vs ns :=
  ⟨h.1, fun i h1 h2 => by
    obtain ⟨T, o, q⟩ := h.2 i h1 h2
    exact ⟨T, o.turn t (fun k hk hm => hS k hm (q k hk)), q⟩⟩
theorem BsQ.mono {Q Q' : Nat → Prop} {w : World} {vs : List Value} {ns : List (List UInt8)} (h : BsQ Q w vs ns) (hQ : ∀ k, k < w.heap.size → Q k → Q' k) : BsQ Q' w vs ns :=
  ⟨h.1, fun i h1 h2 => by
    obtain ⟨T, o, q⟩ := h.2 i h1 h2
    exact ⟨T, o, fun k hk => hQ k (o.lt k hk) (q k hk)⟩⟩
theorem BsQ.append {Q : Nat → Prop} {w : World} {vs us : List Value} {ns ms : List (List UInt8)} (h : BsQ Q w vs ns) (h2 : BsQ Q w us ms) : BsQ Q w (vs ++ us) (ns ++ ms) := by
  refine ⟨by simp [h.1, h2.1], fun i q1 q2 => ?_⟩
  have hl := h.1
  by_cases e : i < vs.length
  · rw [List.getElem_append_left e, List.getElem_append_left (by omega)]
    exact h.2 i e (by omega)
  · rw [List.length_append] at q1 q2
    rw [List.getElem_append_right (by omega), List.getElem_append_right (by omega)]
    have := h2.2 (i - vs.length) (by omega) (by omega)
    simpa only [hl] using this
theorem BsIs.q {B B' : Nat} {w : World} {v : Value} {vs us : List Value} {ns : List (List UInt8)} (h : BsIs B w vs ns) (r : BvRow B' w v us) : BsQ (fun k => v.ownBlock ≠ some k) w vs ns :=
  ⟨h.len, fun i h1 h2 => by
    obtain ⟨S, o, _, q⟩ := (h.el i h1 h2).own
    refine ⟨S, o, fun k hk e => ?_⟩
    obtain ⟨c1, e1⟩ := r.typed k e
    obtain ⟨c2, e2⟩ := (h.el i h1 h2).typed k (q k hk)
    exact two_types e1 e2⟩
theorem ByteSSOwn.q {Q : List Nat} {w : World} {u : Value} {ms : List (List UInt8)} (h : ByteSSOwn Q w u ms) : ∃ us a c, u = .slice a us.length c ∧ BsQ (fun k => k ∈ Q) w us ms ∧ (us = [] ∨ ∃ b off, a = some ⟨b, off, none⟩ ∧ ∀ i (h : i < us.length), w.cell? ⟨b, off + i, none⟩ = some us[i]) := by
  obtain ⟨a, c, rfl, hl, h⟩ := h
  rcases h with rfl | ⟨b, off, G, vs, rfl, h⟩
  · exact ⟨[], a, c, rfl, BsQ.nil _ _, .inl rfl⟩
  · refine ⟨(List.range ms.length).map vs, _, c, by simp, ⟨by simp, fun i h1 h2 => ?_⟩, .inr ⟨b, off, rfl, fun i hi => ?_⟩⟩
    · have o := h.own i h2
      rw [getD_at ms i h2] at o
      simp only [List.getElem_map, List.getElem_range]
      exact ⟨G i, o, h.sub i h2⟩
    · simp only [List.length_map, List.length_range] at hi
      simp only [List.getElem_map, List.getElem_range]
      exact h.cell i hi
theorem byOwn_form {S : List Nat} {w : World} {v : Value} {bs : List UInt8} (h : ByOwn S w v bs) : ∃ a n c, v = .slice a n c := by
  obtain ⟨a, n, c, e⟩ := h.rd.form
  exact ⟨a, n, c, e⟩
theorem bssSpread_run (B : Nat) (Q : List Nat) (w : World) (v u : Value) (vs : List Value) (ms : List (List UInt8)) (hv : BvRow B w v vs) (hu : ByteSSOwn Q w u ms) (hl : vs.length + ms.length ≤ 1000000) (hB : B ≤ w.heap.size) (ty : TypeId) :
    ∃ us a c w', (Builtin.append_ #[36, 36] ty #[v, u]).run Try.prog w = .ok (.slice a (vs.length + us.length) c) w' ∧ BvRow B w' (.slice a (vs.length + us.length) c) (vs ++ us) ∧ w.grownBy w' v.ownBlock ∧ BsQ (fun k => k ∈ Q) w us ms := by
  obtain ⟨i0, hi, hz0, hz1, hz2⟩ := infoBv_parts infoBv
  obtain ⟨us, au, cu, hau, hq, hx⟩ := hu.q
  by_cases h0 : us = []
  · subst h0
    subst hau
    cases au with
    | none =>
      obtain ⟨a, c, rfl⟩ := hv.form
      exact ⟨[], a, c, w, run_append_none B _ ty _ i0 1 cu Try.underlying36 hi _ _ _ hv, by simpa using hv, grown_self _ _, hq⟩
    | some ad =>
      obtain ⟨a, c, rfl⟩ := hv.form
      exact ⟨[], a, c, w, run_append_zero B _ ty _ i0 1 cu ad Try.underlying36 hi _ _ _ hv, by simpa using hv, grown_self _ _, hq⟩
  · have hpos : 0 < us.length := List.length_pos_iff.2 h0
    have hul := hq.1
    rcases hx with hx | ⟨g, off, rfl, hx⟩
    · exact absurd hx h0
    · subst hau
      obtain ⟨g', cap', w', h1, h2, h3, _, _⟩ := run_append_lies (P := Try.prog) (w := w) 36 ty B 22 i0 _ 1 24 Try.underlying36 hi hz0 hz1 hz2 rfl (by decide) v vs.length vs hv ⟨g, off, none⟩ us.length cu us (by simp) (fun j x hj => by
        obtain ⟨hj', e⟩ := List.getElem?_eq_some_iff.1 hj
        have := hx j hj'
        rw [e] at this
        by_cases hz : j = 0
        · subst hz; simpa [Addr.add] using this
        · simpa [Addr.add, hz] using this) (fun x hx' => by
        obtain ⟨j, hj, rfl⟩ := List.getElem_of_mem hx'
        obtain ⟨T, o, _⟩ := hq.2 j hj (by omega)
        obtain ⟨a, n, c, e⟩ := byOwn_form o
        rw [e]; rfl) hpos (by unfold maxLen; omega) (by omega) hB w.heap.size rfl
      refine ⟨us, some ⟨g', 0, none⟩, cap', w', h1, ?_, h3, hq⟩
      unfold BvRow
      rw [List.length_append]
      exact h2
theorem wpList_bssSpread {w : World} {ops : Array Oper} {rest : List Oper} {o : Oper} {a : Act} {Q : Exit → Act → World → Prop} (hgd : o.guard = none) (s x : Operand)
    (ho : o.op = .call { callee := .builtin .append, args := #[s, x], argTypes := #[36, 36] }) (B : Nat) (R : List Nat) (v u : Value) (vs : List Value) (ms : List (List UInt8)) (hs : a.eval s = v) (hx : a.eval x = u)
    (hv : BvRow B w v vs) (hu : ByteSSOwn R w u ms) (hl : vs.length + ms.length ≤ 1000000) (hB : B ≤ w.heap.size)
    (h : ∀ us a' n c w', Hid (n = vs.length + us.length) → BvRow B w' (.slice a' n c) (vs ++ us) → w.grownBy w' v.ownBlock → BsQ (fun k => k ∈ R) w us ms → wpList Try.prog ops Q rest (a.put o.dst (.slice a' n c)) w') : wpList Try.prog ops Q (o :: rest) a w := by
  obtain ⟨us, a', c, w', h1, h2, h3, h4⟩ := bssSpread_run B R w v u vs ms hv hu hl hB o.type
  refine wpList_plain hgd fun K hK => ?_
  unfold Oper.wp execOp
  simp only [ho, resolve, invoke, builtin, Sem.run_bind, Sem.run_pure, Result.andThen_ok, List.map_toArray, List.map_cons, List.map_nil, hs, hx, h1]
  exact hK _ _ (h us a' _ c w' (hide rfl) h2 h3 h4)
theorem wpList_wanted {P : Program} {w : World} {ops : Array Oper} {rest : List Oper} {o : Oper} {a : Act} {Q : Exit → Act → World → Prop} (hw : Region.wanted o (yielded ops a.tmps) = true) (h : ∀ K : Act → World → Prop, (∀ a w, wpList P ops Q rest a w → K a w) → o.wp P a w K Q) : wpList P ops Q (o :: rest) a w :=
  wpList_step fun K hK => by rw [if_pos hw]; exact h K hK
/-- the same behind a guard -/
theorem wpList_bssSpreadG {w : World} {ops : Array Oper} {rest : List Oper} {o : Oper} {a : Act} {Q : Exit → Act → World → Prop} (hgd : Region.wanted o (yielded ops a.tmps) = true) (s x : Operand)
    (ho : o.op = .call { callee := .builtin .append, args := #[s, x], argTypes := #[36, 36] }) (B : Nat) (R : List Nat) (v u : Value) (vs : List Value) (ms : List (List UInt8)) (hs : a.eval s = v) (hx : a.eval x = u)
    (hv : BvRow B w v vs) (hu : ByteSSOwn R w u ms) (hl : vs.length + ms.length ≤ 1000000) (hB : B ≤ w.heap.size)
    (h : ∀ us a' n c w', Hid (n = vs.length + us.length) → BvRow B w' (.slice a' n c) (vs ++ us) → w.grownBy w' v.ownBlock → BsQ (fun k => k ∈ R) w us ms → wpList Try.prog ops Q rest (a.put o.dst (.slice a' n c)) w') : wpList Try.prog ops Q (o :: rest) a w := by
  obtain ⟨us, a', c, w', h1, h2, h3, h4⟩ := bssSpread_run B R w v u vs ms hv hu hl hB o.type
  refine wpList_wanted hgd fun K hK => ?_
  unfold Oper.wp execOp
  simp only [ho, resolve, invoke, builtin, Sem.run_bind, Sem.run_pure, Result.andThen_ok, List.map_toArray, List.map_cons, List.map_nil, hs, hx, h1]
  exact hK _ _ (h us a' _ c w' (hide rfl) h2 h3 h4)
theorem BvRow.rdQ {B : Nat} {Q : Nat → Prop} {w : World} {v : Value} {vs : List Value} {ns : List (List UInt8)} (h : BvRow B w v vs) (hq : BsQ Q w vs ns) : ByteSSRd w v ns := by
  have hh : w.ownsRow B 22 1 v vs.length vs := h
  have hl := hq.1
  rcases h.2 with ⟨rfl, h0⟩ | ⟨g, cap, cur, rfl, hB, hg, _⟩
  · have e : ns = [] := List.eq_nil_of_length_eq_zero (by omega)
    subst e
    exact ⟨none, 0, rfl, .inl rfl⟩
  · refine ⟨some ⟨g, 0, none⟩, cap, by rw [hl], .inr ⟨g, 0, rfl, (Array.getElem?_eq_some_iff.1 hg).1, fun i hi => ⟨vs[i]'(by omega), ?_, ?_⟩⟩⟩
    · rw [Nat.zero_add, hh.cellAt _ (by omega), List.getElem?_eq_getElem (by omega)]
    · obtain ⟨T, o, _⟩ := hq.2 i (by omega) hi
      exact o.rd
end Go.Proofs.Ytlgmmibncoedgaa
