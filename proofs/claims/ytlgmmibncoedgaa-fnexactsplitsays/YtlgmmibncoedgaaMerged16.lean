/-
  Rows of rows of bytes whose rows lie in blocks of a kind; one put behind another, whatever made it.
-/
/-
  Lists of Ver in memory, and the law's own helpers over them: how much they hold, how they are copied, how two lists are compared, and how one that comes in is opened. (Made by wip/mkrow.py.)
-/
import Derived.Test.YtlgmmibncoedgaaMerged11
import Derived.Test.YtlgmmibncoedgaaMerged1
import Derived.Deep.RegionWith
import Derived.Deep.Slices
import Derived.ProofKit
import Derived.OpenShut
set_option linter.unusedVariables false
namespace Go.Proofs.Ytlgmmibncoedgaa
open Go.RowKit Go.Maps Go.Deep

/-- these cells, each of them a row of bytes in blocks of a kind -/
def BsQ (Q : Nat → Prop) (w : World) (vs : List Value) (ns : List (List UInt8)) : Prop := vs.length = ns.length ∧ ∀ i (h : i < vs.length) (h' : i < ns.length), ∃ S, ByOwn S w vs[i] ns[i] ∧ ∀ k ∈ S, Q k
theorem BsQ.nil (Q : Nat → Prop) (w : World) : BsQ Q w [] [] := ⟨rfl, fun i h => by simp at h⟩
theorem BsQ.turn {Q : Nat → Prop} {S : List Nat} {w w' : World} {vs : List Value} {ns : List (List UInt8)} (h : BsQ Q w vs ns) (t : Turn S w w') (hS : ∀ k ∈ S, ¬ Q k) : BsQ Q w' vs ns :=
  ⟨h.1, fun i h1 h2 => by
    obtain ⟨T, o, q⟩ := h.2 i h1 h2
    exact ⟨T, o.turn t (fun k hk hm => hS k hm (q k hk)), q⟩⟩
theorem BsQ.mono {Q Q' : Nat → Prop} {w : World} {vs : List Value} {ns : List (List UInt8)} (h : BsQ Q w vs ns) (hQ : ∀ k, k < w.heap.size → Q k → Q' k) : BsQ Q' w vs ns :=
  ⟨h.1, fun i h1 h2 => by
    obtain ⟨T, o, q⟩ := h.2 i h1 h2
    exact ⟨T, o, fun k hk => hQ k (o.lt k hk) (q k hk)⟩⟩
theorem BsQ.append {Q : Nat → Prop} {w : World} {vs us : List Value} {ns ms : List (List UInt8)} (h : BsQ Q w vs ns) (h2 : BsQ Q w us ms) : BsQ Q w (vs ++ us) (ns ++ ms) := by
  refine ⟨by simp [h.1, h2.1], fun i q1 q2 => ?_⟩
  have hl := h.1
  by_cases e : i < vs.length
  · rw [List.getElem_append_left e, List.getElem_append_left (by omega)]
    exact h.2 i e (by omega)
  · rw [List.length_append] at q1 q2
    rw [List.getElem_append_right (by omega), List.getElem_append_right (by omega)]
    have := h2.2 (i - vs.length) (by omega) (by omega)
    simpa only [hl] using this
theorem BsIs.q {B B' : Nat} {w : World} {v : Value} {vs us : List Value} {ns : List (List UInt8)} (h : BsIs B w vs ns) (r : BvRow B' w v us) : BsQ (fun k => v.ownBlock ≠ some k) w vs ns :=
  ⟨h.len, fun i h1 h2 => by
    obtain ⟨S, o, _, q⟩ := (h.el i h1 h2).own
    refine ⟨S, o, fun k hk e => ?_⟩
    obtain ⟨c1, e1⟩ := r.typed k e
    obtain ⟨c2, e2⟩ := (h.el i h1 h2).typed k (q k hk)
    exact two_types e1 e2⟩
theorem ByteSSOwn.q {Q : List Nat} {w : World} {u : Value} {ms : List (List UInt8)} (h : ByteSSOwn Q w u ms) : ∃ us a c, u = .slice a us.length c ∧ BsQ (fun k => k ∈ Q) w us ms ∧ (us = [] ∨ ∃ b off, a = some ⟨b, off, none⟩ ∧ ∀ i (h : i < us.length), w.cell? ⟨b, off + i, none⟩ = some us[i]) := by
  obtain ⟨a, c, rfl, hl, h⟩ := h
  rcases h with rfl | ⟨b, off, G, vs, rfl, h⟩
  · exact ⟨[], a, c, rfl, BsQ.nil _ _, .inl rfl⟩
  · refine ⟨(List.range ms.length).map vs, _, c, by simp, ⟨by simp, fun i h1 h2 => ?_⟩, .inr ⟨b, off, rfl, fun i hi => ?_⟩⟩
    · have o := h.own i h2
      rw [getD_at ms i h2] at o
      simp only [List.getElem_map, List.getElem_range]
      exact ⟨G i, o, h.sub i h2⟩
    · simp only [List.length_map, List.length_range] at hi
      simp only [List.getElem_map, List.getElem_range]
      exact h.cell i hi
theorem byOwn_form {S : List Nat} {w : World} {v : Value} {bs : List UInt8} (h : ByOwn S w v bs) : ∃ a n c, v = .slice a n c := by
  obtain ⟨a, n, c, e⟩ := h.rd.form
  exact ⟨a, n, c, e⟩
theorem bssSpread_run (B : Nat) (Q : List Nat) (w : World) (v u : Value) (vs : List Value) (ms : List (List UInt8)) (hv : BvRow B w v vs) (hu : ByteSSOwn Q w u ms) (hl : vs.length + ms.length ≤ 1000000) (hB : B ≤ w.heap.size) (ty : TypeId) :
    ∃ us a c w', (Builtin.append_ #[36, 36] ty #[v, u]).run Try.prog w = .ok (.slice a (vs.length + us.length) c) w' ∧ BvRow B w' (.slice a (vs.length + us.length) c) (vs ++ us) ∧ w.grownBy w' v.ownBlock ∧ BsQ (fun k => k ∈ Q) w us ms := by
  obtain ⟨i0, hi, hz0, hz1, hz2⟩ := infoBv_parts infoBv
  obtain ⟨us, au, cu, hau, hq, hx⟩ := hu.q
  by_cases h0 : us = []
  · subst h0
    subst hau
    cases au with
    | none =>
      obtain ⟨a, c, rfl⟩ := hv.form
      exact ⟨[], a, c, w, run_append_none B _ ty _ i0 1 cu Try.underlying36 hi _ _ _ hv, by simpa using hv, grown_self _ _, hq⟩
    | some ad =>
      obtain ⟨a, c, rfl⟩ := hv.form
      exact ⟨[], a, c, w, run_append_zero B _ ty _ i0 1 cu ad Try.underlying36 hi _ _ _ hv, by simpa using hv, grown_self _ _, hq⟩
  · have hpos : 0 < us.length := List.length_pos_iff.2 h0
    have hul := hq.1
    rcases hx with hx | ⟨g, off, rfl, hx⟩
    · exact absurd hx h0
    · subst hau
      obtain ⟨g', cap', w', h1, h2, h3, _, _⟩ := run_append_lies (P := Try.prog) (w := w) 36 ty B 22 i0 _ 1 24 Try.underlying36 hi hz0 hz1 hz2 rfl (by decide) v vs.length vs hv ⟨g, off, none⟩ us.length cu us (by simp) (fun j x hj => by
        obtain ⟨hj', e⟩ := List.getElem?_eq_some_iff.1 hj
        have := hx j hj'
        rw [e] at this
        by_cases hz : j = 0
        · subst hz; simpa [Addr.add] using this
        · simpa [Addr.add, hz] using this) (fun x hx' => by
        obtain ⟨j, hj, rfl⟩ := List.getElem_of_mem hx'
        obtain ⟨T, o, _⟩ := hq.2 j hj (by omega)
        obtain ⟨a, n, c, e⟩ := byOwn_form o
        rw [e]; rfl) hpos (by unfold maxLen; omega) (by omega) hB w.heap.size rfl
      refine ⟨us, some ⟨g', 0, none⟩, cap', w', h1, ?_, h3, hq⟩
      unfold BvRow
      rw [List.length_append]
      exact h2
theorem wpList_bssSpread {w : World} {ops : Array Oper} {rest : List Oper} {o : Oper} {a : Act} {Q : Exit → Act → World → Prop} (hgd : o.guard = none) (s x : Operand)
    (ho : o.op = .call { callee := .builtin .append, args := #[s, x], argTypes := #[36, 36] }) (B : Nat) (R : List Nat) (v u : Value) (vs : List Value) (ms : List (List UInt8)) (hs : a.eval s = v) (hx : a.eval x = u)
    (hv : BvRow B w v vs) (hu : ByteSSOwn R w u ms) (hl : vs.length + ms.length ≤ 1000000) (hB : B ≤ w.heap.size)
    (h : ∀ us a' n c w', Hid (n = vs.length + us.length) → BvRow B w' (.slice a' n c) (vs ++ us) → w.grownBy w' v.ownBlock → BsQ (fun k => k ∈ R) w us ms → wpList Try.prog ops Q rest (a.put o.dst (.slice a' n c)) w') : wpList Try.prog ops Q (o :: rest) a w := by
  obtain ⟨us, a', c, w', h1, h2, h3, h4⟩ := bssSpread_run B R w v u vs ms hv hu hl hB o.type
  refine wpList_plain hgd fun K hK => ?_
  unfold Oper.wp execOp
  simp only [ho, resolve, invoke, builtin, Sem.run_bind, Sem.run_pure, Result.andThen_ok, List.map_toArray, List.map_cons, List.map_nil, hs, hx, h1]
  exact hK _ _ (h us a' _ c w' (hide rfl) h2 h3 h4)
theorem wpList_wanted {P : Program} {w : World} {ops : Array Oper} {rest : List Oper} {o : Oper} {a : Act} {Q : Exit → Act → World → Prop} (hw : Region.wanted o (yielded ops a.tmps) = true) (h : ∀ K : Act → World → Prop, (∀ a w, wpList P ops Q rest a w → K a w) → o.wp P a w K Q) : wpList P ops Q (o :: rest) a w :=
  wpList_step fun K hK => by rw [if_pos hw]; exact h K hK
/-- the same behind a guard -/
theorem wpList_bssSpreadG {w : World} {ops : Array Oper} {rest : List Oper} {o : Oper} {a : Act} {Q : Exit → Act → World → Prop} (hgd : Region.wanted o (yielded ops a.tmps) = true) (s x : Operand)
    (ho : o.op = .call { callee := .builtin .append, args := #[s, x], argTypes := #[36, 36] }) (B : Nat) (R : List Nat) (v u : Value) (vs : List Value) (ms : List (List UInt8)) (hs : a.eval s = v) (hx : a.eval x = u)
    (hv : BvRow B w v vs) (hu : ByteSSOwn R w u ms) (hl : vs.length + ms.length ≤ 1000000) (hB : B ≤ w.heap.size)
    (h : ∀ us a' n c w', Hid (n = vs.length + us.length) → BvRow B w' (.slice a' n c) (vs ++ us) → w.grownBy w' v.ownBlock → BsQ (fun k => k ∈ R) w us ms → wpList Try.prog ops Q rest (a.put o.dst (.slice a' n c)) w') : wpList Try.prog ops Q (o :: rest) a w := by
  obtain ⟨us, a', c, w', h1, h2, h3, h4⟩ := bssSpread_run B R w v u vs ms hv hu hl hB o.type
  refine wpList_wanted hgd fun K hK => ?_
  unfold Oper.wp execOp
  simp only [ho, resolve, invoke, builtin, Sem.run_bind, Sem.run_pure, Result.andThen_ok, List.map_toArray, List.map_cons, List.map_nil, hs, hx, h1]
  exact hK _ _ (h us a' _ c w' (hide rfl) h2 h3 h4)
theorem BvRow.rdQ {B : Nat} {Q : Nat → Prop} {w : World} {v : Value} {vs : List Value} {ns : List (List UInt8)} (h : BvRow B w v vs) (hq : BsQ Q w vs ns) : ByteSSRd w v ns := by
  have hh : w.ownsRow B 22 1 v vs.length vs := h
  have hl := hq.1
  rcases h.2 with ⟨rfl, h0⟩ | ⟨g, cap, cur, rfl, hB, hg, _⟩
  · have e : ns = [] := List.eq_nil_of_length_eq_zero (by omega)
    subst e
    exact ⟨none, 0, rfl, .inl rfl⟩
  · refine ⟨some ⟨g, 0, none⟩, cap, by rw [hl], .inr ⟨g, 0, rfl, (Array.getElem?_eq_some_iff.1 hg).1, fun i hi => ⟨vs[i]'(by omega), ?_, ?_⟩⟩⟩
    · rw [Nat.zero_add, hh.cellAt _ (by omega), List.getElem?_eq_getElem (by omega)]
    · obtain ⟨T, o, _⟩ := hq.2 i (by omega) hi
      exact o.rd
end Go.Proofs.Ytlgmmibncoedgaa

set_option linter.unusedVariables false
namespace Go.Proofs.Ytlgmmibncoedgaa
open Go.RowKit Go.Maps Go.Deep

structure VerV where
  a0 : ByteArray
  a1 : Int

/-- they lie one behind the other, from a place of a block on -/
def VerAt (w : World) (b off : Nat) (ns : List VerV) : Prop :=
  ∀ i (h : i < ns.length), w.cell? ⟨b, off + i * 2, none⟩ = some (.string (ns[i].a0)) ∧ w.cell? ⟨b, off + i * 2 + 1, none⟩ = some (.int .i64 (ns[i].a1))
def VerFit (x : VerV) : Prop := x.a0.size ≤ maxLen ∧ (-9223372036854775808 ≤ x.a1 ∧ x.a1 ≤ 9223372036854775807)
def VerOk (ns : List VerV) : Prop := ∀ x ∈ ns, VerFit x
/-- what the bound gives where it is not passed -/
def VerSmall (ns : List VerV) : Prop := ns.length ≤ 1048576 ∧ ∀ x ∈ ns, x.a0.size ≤ 1048576

/-- what is left, or less than nothing -/
def VerLeft (n0 : Nat) (left r : Int) : Prop := r ≤ left ∧ (0 ≤ r → (n0 : Int) ≤ left)
def RetVerSz (ns : List VerV) (left0 : Int) (e : Ending) : Prop := ∃ r : Int, e = .returned (.int .i64 r) ∧ r ≤ left0 ∧ (0 ≤ r → VerSmall ns)
theorem infoVer : (Try.prog.info? 65).map (fun i => (i.zero, i.size, i.bytes)) = some (some (.agg #[.string ByteArray.empty, .int .i64 0]), 2, 24) := by kernel_rfl

def VerTo (xs : List Value) (ns : List VerV) (k : Nat) : Prop :=
  ∀ i (h : i < ns.length), i < k → xs[i * 2]? = some (.string (ns[i].a0)) ∧ xs[i * 2 + 1]? = some (.int .i64 (ns[i].a1))
theorem verTo_step (xs : List Value) (ns : List VerV) (k : Nat) (hk : k < ns.length) (hx : xs.length = ns.length * 2) (h : VerTo xs ns k) :
    VerTo ((xs.set (k * 2) (.string (ns[k].a0))).set (k * 2 + 1) (.int .i64 (ns[k].a1))) ns (k + 1) := by
  intro i hi hik
  by_cases e : i = k
  · subst e
    simp [List.getElem?_set, hx]
    omega
  · obtain ⟨c0, c1⟩ := h i hi (by omega)
    refine ⟨?_, ?_⟩ <;> (repeat rw [List.getElem?_set_ne (by omega)]) <;> assumption

theorem ownsRowVer_below {w w' : World} {base B : Nat} {e : TypeId} {size : Nat} {g n cap : Nat} {xs : List Value} (h : w.ownsRow base e size (.slice (some ⟨g, 0, none⟩) n cap) n xs) (hb : Below B w w') (hg : g < B) :
    w'.ownsRow base e size (.slice (some ⟨g, 0, none⟩) n cap) n xs := by
  refine ⟨h.1, ?_⟩
  rcases h.2 with ⟨h', _⟩ | ⟨g', cap', cur, h', h1, h2, h3⟩
  · simp at h'
  · refine .inr ⟨g', cap', cur, h', h1, ?_, h3⟩
    simp only [Value.slice.injEq, Option.some.injEq, Addr.mk.injEq, and_true, true_and] at h'
    obtain ⟨rfl, rfl⟩ := h'
    rw [hb.block g hg]; exact h2
theorem verCells {w : World} {base : Nat} {e : TypeId} {g n cap : Nat} {xs : List Value} (h : w.ownsRow base e 2 (.slice (some ⟨g, 0, none⟩) n cap) n xs) (k : Nat) (hk : k < n) :
    ∃ v0 v1, w.cell? ⟨g, k * 2, none⟩ = some v0 ∧ w.cell? ⟨g, k * 2 + 1, none⟩ = some v1 ∧ w.frozen? ⟨g, k * 2, none⟩ = false ∧ w.frozen? ⟨g, k * 2 + 1, none⟩ = false := by
  have hx := h.1
  refine ⟨xs[k * 2]'(by omega), xs[k * 2 + 1]'(by omega), ?_, ?_, h.frozenAt _, h.frozenAt _⟩
  all_goals
    rw [h.cellAt _ (by omega)]
    exact List.getElem?_eq_getElem _
theorem verStore {w : World} {base : Nat} {e : TypeId} {g n cap : Nat} {xs : List Value} (h : w.ownsRow base e 2 (.slice (some ⟨g, 0, none⟩) n cap) n xs) (k : Nat) (v0 v1 : Value) :
    (((w.setCell ⟨g, k * 2, none⟩ v0).setCell ⟨g, k * 2 + 1, none⟩ v1)).ownsRow base e 2 (.slice (some ⟨g, 0, none⟩) n cap) n ((xs.set (k * 2) v0).set (k * 2 + 1) v1) :=
  ((h.stored (k * 2) v0).1.stored (k * 2 + 1) v1).1
theorem verOfRow {w : World} {base : Nat} {e : TypeId} {g n cap : Nat} {xs : List Value} {ns : List VerV} (h : w.ownsRow base e 2 (.slice (some ⟨g, 0, none⟩) n cap) n xs) (hn : ns.length = n) (ht : VerTo xs ns n) : VerAt w g 0 ns := by
  intro i hi
  obtain ⟨c0, c1⟩ := ht i hi (by omega)
  refine ⟨?_, ?_⟩
  all_goals
    rw [Nat.zero_add, h.cellAt _ (by omega)]
    assumption

set_option maxHeartbeats 800000 in
theorem eqVer_same (z0 : ByteArray) (z1 : Int) (w : World) :
    Calls Try.prog 96 #[.agg #[.string z0, .int .i64 z1], .agg #[.string z0, .int .i64 z1]] w fun e w' => e = .returned (.bool true) ∧ Below w.heap.size w w' := by
  go_enter Try.func96, Try.ntmps96
  go_wp2
  go_ret
  exact ⟨rfl, ((Below.refl _ _).alloc (Nat.le_refl _) _).alloc (by simp) _⟩

set_option maxHeartbeats 1600000 in
theorem eqVerS_same (w : World) (b off cap b' off' cap' : Nat) (ns : List VerV) (hl : ns.length ≤ 281474976710656) (hc : VerAt w b off ns) (hc' : VerAt w b' off' ns) (hb : b < w.heap.size) (hb' : b' < w.heap.size) :
    Calls Try.prog 87 #[.slice (some ⟨b, off, none⟩) ns.length cap, .slice (some ⟨b', off', none⟩) ns.length cap'] w fun e w' => e = .returned (.bool true) ∧ Below w.heap.size w w' := by
  go_enter Try.func87, Try.ntmps87
  go_wp2
  go_loopw [5] (fun i wr => ∃ (k : Nat), k ≤ ns.length ∧ i = .int .i64 k ∧ Below w.heap.size w wr) (fun i _ => ns.length - (intOf i).toNat)
  case atStart => exact ⟨0, Nat.zero_le _, rfl, Below.refl _ _⟩
  case round =>
    obtain ⟨k, hk, rfl, hbel⟩ := hrel
    by_cases hlt : k < ns.length
    · obtain ⟨c0, c1⟩ := hc k hlt
      obtain ⟨d0, d1⟩ := hc' k hlt
      rw [← hbel.cell (by exact hb)] at c0 c1
      rw [← hbel.cell (by exact hb')] at d0 d1
      go_wp2
      go_region_with (go_at_call 96; refine (eqVer_same _ _ _).mono ?_; rintro e w2 ⟨rfl, hb2⟩)
      all_goals
        have hb3 : Below w.heap.size w w2 := hbel.drew.trans (hb2.mono hbel.size)
        clear c0 c1 d0 d1
        go_wp2
        go_roundw
        case rel => exact ⟨k + 1, by omega, by go_num, hb3⟩
        case measure => simp [intOf]; omega
    · go_wp2
      go_ret
      exact ⟨rfl, hbel⟩

/-- a slice value leads to these: empty, or a row of them -/
def VerIn (w : World) (a : Option Addr) (ns : List VerV) : Prop :=
  ns = [] ∨ ∃ b off, a = some ⟨b, off, none⟩ ∧ b < w.heap.size ∧ VerAt w b off ns
theorem VerAt.below {w w' : World} {B b off : Nat} {ns : List VerV} (h : VerAt w b off ns) (hb : Below B w w') (hB : b < B) : VerAt w' b off ns := by
  intro i hi
  obtain ⟨c0, c1⟩ := h i hi
  exact ⟨(hb.cell (by exact hB)).trans c0, (hb.cell (by exact hB)).trans c1⟩
theorem VerIn.below {w w' : World} {a : Option Addr} {ns : List VerV} (h : VerIn w a ns) (hb : Below w.heap.size w w') : VerIn w' a ns := by
  rcases h with h | ⟨b, off, e, hlt, hn⟩
  · exact .inl h
  · exact .inr ⟨b, off, e, Nat.lt_of_lt_of_le hlt hb.size, hn.below hb hlt⟩
theorem cellsIVer : Try.prog.cellsOf 3 = 1 := by kernel_rfl
theorem cellsSVer : Try.prog.cellsOf 9 = 1 := by kernel_rfl
theorem lt_of_cellVer {w : World} {b off : Nat} {v : Value} (h : w.cell? ⟨b, off, none⟩ = some v) : b < w.heap.size := by
  by_cases hb : b < w.heap.size
  · exact hb
  · exfalso
    have : w.heap[b]? = none := Array.getElem?_eq_none (by omega)
    simp [World.cell?, this] at h
theorem verRange {k : Int} (h : (Lit.int .i64 k).wf = true) : -9223372036854775808 ≤ k ∧ k ≤ 9223372036854775807 := bounds_i64 h
end Go.Proofs.Ytlgmmibncoedgaa
