/-
  Rows of bytes that one may append to: append of whatever bytes, the empty ones too.
-/
/-
  Lists of Ver in memory, and the law's own helpers over them: how much they hold, how they are copied, how two lists are compared, and how one that comes in is opened. (Made by wip/mkrow.py.)
-/
import Derived.Test.YtiebfcefmdiajaaGreatDoorMerged4
import Derived.Laws.OwnMore
import Derived.Deep.AppendLies
import Derived.Handy
import Derived.Deep.RegionWith
import Derived.Deep.Slices
import Derived.ProofKit
import Derived.OpenShut
set_option linter.unusedVariables false
namespace Go.Proofs.YtiebfcefmdiajaaGreatDoor
open Go.RowKit Go.Maps Go.Deep

/-- a row of bytes, at or above a block, that one may append to -/
def ByRow (B : Nat) (w : World) (v : Value) (bs : List UInt8) : Prop := w.ownsRow B 5 1 v bs.length (bs.map byV)
theorem ByRow.nil (B : Nat) (w : World) : ByRow B w (.slice none 0 0) [] := ⟨rfl, .inl ⟨rfl, rfl⟩⟩
theorem ByRow.slice {B : Nat} {w : World} {v : Value} {bs : List UInt8} (h : ByRow B w v bs) : ∃ a c, v = .slice a bs.length c := by
  rcases h.2 with ⟨rfl, h0⟩ | ⟨g, cap, cur, rfl, _⟩
  · rw [h0]; exact ⟨_, _, rfl⟩
  · exact ⟨_, _, rfl⟩
theorem ByRow.own {B : Nat} {w : World} {v : Value} {bs : List UInt8} (h : ByRow B w v bs) : ∃ S, ByOwn S w v bs ∧ (∀ k ∈ S, B ≤ k) ∧ (∀ k ∈ S, v.ownBlock = some k) := by
  have hh : w.ownsRow B 5 1 v bs.length (bs.map byV) := h
  rcases h with ⟨_, ⟨rfl, h0⟩ | ⟨g, cap, cur, rfl, hB, hg, hnc, _⟩⟩
  · have : bs = [] := List.eq_nil_of_length_eq_zero h0
    subst this
    exact ⟨[], ByOwn.nil _ _ _, by simp, by simp⟩
  · refine ⟨[g], .inr ⟨g, 0, cap, rfl, rfl, (Array.getElem?_eq_some_iff.1 hg).1, fun i hi => ?_, fun i hi => hh.frozenAt _, hnc⟩, by simpa using hB, by simp [Value.ownBlock]⟩
    rw [Nat.zero_add, hh.cellAt _ (by omega)]
    simp [byV, hi]
theorem ByRow.rd {B : Nat} {w : World} {v : Value} {bs : List UInt8} (h : ByRow B w v bs) : ByRd w v bs := by
  obtain ⟨S, h, _⟩ := h.own
  exact h.rd
theorem ByRow.ge {B : Nat} {w : World} {v : Value} {bs : List UInt8} (h : ByRow B w v bs) : ∀ g, v.ownBlock = some g → B ≤ g := by
  intro g hg
  rcases h.2 with ⟨rfl, _⟩ | ⟨g', cap, cur, rfl, hB, _⟩
  · simp [Value.ownBlock] at hg
  · simp [Value.ownBlock] at hg; omega
theorem ByRow.lt {B : Nat} {w : World} {v : Value} {bs : List UInt8} (h : ByRow B w v bs) : ∀ g, v.ownBlock = some g → g < w.heap.size := by
  intro g hg
  rcases h.2 with ⟨rfl, _⟩ | ⟨g', cap, cur, rfl, hB, hh, _⟩
  · simp [Value.ownBlock] at hg
  · simp [Value.ownBlock] at hg; rw [← hg]; exact (Array.getElem?_eq_some_iff.1 hh).1
theorem ByRow.keep {B : Nat} {w w' : World} {v : Value} {bs : List UInt8} (h : ByRow B w v bs) (hk : ∀ g, v.ownBlock = some g → w'.heap[g]? = w.heap[g]?) : ByRow B w' v bs := by
  refine ⟨h.1, ?_⟩
  rcases h.2 with h0 | ⟨g, cap, cur, e, hB, hg, r⟩
  · exact .inl h0
  · exact .inr ⟨g, cap, cur, e, hB, (hk g (by rw [e]; rfl)).trans hg, r⟩
theorem ByRow.up {B : Nat} {w w' : World} {v : Value} {bs : List UInt8} (h : ByRow B w v bs) (hb : Below w.heap.size w w') : ByRow B w' v bs := h.keep (fun g hg => hb.block g (h.lt g hg))
theorem ByRow.turn {B : Nat} {S : List Nat} {w w' : World} {v : Value} {bs : List UInt8} (h : ByRow B w v bs) (ht : Turn S w w') (hS : ∀ g, v.ownBlock = some g → g ∉ S) : ByRow B w' v bs := h.keep (fun g hg => ht.block g (h.lt g hg) (hS g hg))
theorem ByRow.mono {B B' : Nat} {w : World} {v : Value} {bs : List UInt8} (h : ByRow B w v bs) (hB : B' ≤ B) : ByRow B' w v bs := by
  refine ⟨h.1, ?_⟩
  rcases h.2 with h0 | ⟨g, cap, cur, e, hb, r⟩
  · exact .inl h0
  · exact .inr ⟨g, cap, cur, e, Nat.le_trans hB hb, r⟩

theorem byOne (ys : List UInt8) : ∀ u ∈ ys.map byV, u.oneCell' = true := by
  intro u hu
  obtain ⟨c, _, rfl⟩ := List.mem_map.1 hu
  rfl
theorem byCells {w : World} {b off : Nat} {ys : List UInt8} (h : ByAt w b off ys) : ∀ j u, (ys.map byV)[j]? = some u → w.cell? ((⟨b, off, none⟩ : Addr).add j) = some u := by
  intro j u hu
  rw [List.getElem?_map] at hu
  obtain ⟨t, ht, rfl⟩ := Option.map_eq_some_iff.1 hu
  obtain ⟨hj, rfl⟩ := List.getElem?_eq_some_iff.1 ht
  have hadd : (⟨b, off, none⟩ : Addr).add j = ⟨b, off + j, none⟩ := by unfold Addr.add; split <;> simp_all
  rw [hadd]
  exact h j hj
theorem run_append_none {P : Program} {w : World} (base : Nat) (t ty e : TypeId) (i : TypeInfo) (size c : Nat) (ht : P.underlying t = some (.slice e)) (hi : P.info? e = some i) (v : Value) (n : Nat) (xs : List Value) (hown : w.ownsRow base e size v n xs) :
    (Builtin.append_ #[t, t] ty #[v, .slice none 0 c]).run P w = .ok v w := by
  rcases hown.2 with ⟨rfl, rfl⟩ | ⟨g, cap, cur, rfl, _, _, hnc, _⟩
  · simp [Builtin.append_, run_underlying ht, sizeOf, typeInfo, hi, Builtin.lenOf, Builtin.firstCells]
  · simp [Builtin.append_, run_underlying ht, sizeOf, typeInfo, hi, Builtin.lenOf, Builtin.firstCells, hnc, storeCells]
theorem run_append_zero {P : Program} {w : World} (base : Nat) (t ty e : TypeId) (i : TypeInfo) (size c : Nat) (ad : Addr) (ht : P.underlying t = some (.slice e)) (hi : P.info? e = some i) (v : Value) (n : Nat) (xs : List Value) (hown : w.ownsRow base e size v n xs) :
    (Builtin.append_ #[t, t] ty #[v, .slice (some ad) 0 c]).run P w = .ok v w := by
  rcases hown.2 with ⟨rfl, rfl⟩ | ⟨g, cap, cur, rfl, _, _, hnc, _⟩
  · simp [Builtin.append_, run_underlying ht, sizeOf, typeInfo, hi, Builtin.lenOf, Builtin.firstCells, loadCells, loadCellsFrom]
  · simp [Builtin.append_, run_underlying ht, sizeOf, typeInfo, hi, Builtin.lenOf, Builtin.firstCells, hnc, storeCells, loadCells, loadCellsFrom]
theorem grown_self (w : World) (r : Option Nat) : w.grownBy w r := ⟨rfl, rfl, rfl, Nat.le_refl _, fun _ _ _ => rfl⟩

theorem byAppend_run (B : Nat) (w : World) (v u : Value) (xs ys : List UInt8) (hv : ByRow B w v xs) (hu : ByRd w u ys) (hl : xs.length + ys.length ≤ 140737488355328) (hB : B ≤ w.heap.size) (ty : TypeId) :
    ∃ a c w', (Builtin.append_ #[30, 30] ty #[v, u]).run Tryz.prog w = .ok (.slice a (xs.length + ys.length) c) w' ∧ ByRow B w' (.slice a (xs.length + ys.length) c) (xs ++ ys) ∧ w.grownBy w' v.ownBlock ∧ ((Value.slice a (xs.length + ys.length) c).ownBlock = v.ownBlock ∨ ∀ g, (Value.slice a (xs.length + ys.length) c).ownBlock = some g → w.heap.size ≤ g) := by
  obtain ⟨i0, hi, hz0, hz1, hz2⟩ := info_parts1 infoByte
  obtain ⟨au, cu, rfl, hin, _⟩ := hu
  by_cases h0 : ys = []
  · subst h0
    cases au with
    | none =>
      obtain ⟨a, c, rfl⟩ := hv.slice
      exact ⟨a, c, w, run_append_none B _ ty _ i0 1 cu Tryz.underlying30 hi _ _ _ hv, by simpa using hv, grown_self _ _, .inl rfl⟩
    | some ad =>
      obtain ⟨a, c, rfl⟩ := hv.slice
      exact ⟨a, c, w, run_append_zero B _ ty _ i0 1 cu ad Tryz.underlying30 hi _ _ _ hv, by simpa using hv, grown_self _ _, .inl rfl⟩
  · obtain ⟨b, off, rfl, hb, hc⟩ := hin.resolve_left h0
    have hpos : 0 < ys.length := List.length_pos_iff.2 h0
    obtain ⟨g, cap, w', h1, h2, h3, h4, h5⟩ := run_append_lies (P := Tryz.prog) (w := w) 30 ty B 5 i0 _ 1 1 Tryz.underlying30 hi hz0 hz1 hz2 rfl (by decide) v xs.length (xs.map byV) hv ⟨b, off, none⟩ ys.length cu (ys.map byV) (by simp) (byCells hc) (byOne ys) hpos (by unfold maxLen; omega) (by omega) hB w.heap.size rfl
    refine ⟨some ⟨g, 0, none⟩, cap, w', h1, ?_, h3, ?_⟩
    · unfold ByRow
      rw [List.length_append, List.map_append]
      exact h2
    · rcases h4 with h4 | h4
      · exact .inl h4.symm
      · exact .inr (fun g' hg' => by simp [Value.ownBlock] at hg'; omega)

/-- append at the operation -/
theorem wpList_byAppend {w : World} {ops : Array Oper} {rest : List Oper} {o : Oper} {a : Act} {Q : Exit → Act → World → Prop} (hgd : o.guard = none) (s x : Operand)
    (ho : o.op = .call { callee := .builtin .append, args := #[s, x], argTypes := #[30, 30] }) (B : Nat) (v u : Value) (xs ys : List UInt8) (hs : a.eval s = v) (hx : a.eval x = u)
    (hv : ByRow B w v xs) (hu : ByRd w u ys) (hl : xs.length + ys.length ≤ 140737488355328) (hB : B ≤ w.heap.size)
    (h : ∀ a' c w', ByRow B w' (.slice a' (xs.length + ys.length) c) (xs ++ ys) → w.grownBy w' v.ownBlock → ((Value.slice a' (xs.length + ys.length) c).ownBlock = v.ownBlock ∨ ∀ g, (Value.slice a' (xs.length + ys.length) c).ownBlock = some g → w.heap.size ≤ g) → wpList Tryz.prog ops Q rest (a.put o.dst (.slice a' (xs.length + ys.length) c)) w') : wpList Tryz.prog ops Q (o :: rest) a w := by
  obtain ⟨a', c, w', h1, h2, h3, h4⟩ := byAppend_run B w v u xs ys hv hu hl hB o.type
  refine wpList_plain hgd fun K hK => ?_
  unfold Oper.wp execOp
  simp only [ho, resolve, invoke, builtin, Sem.run_bind, Sem.run_pure, Result.andThen_ok, List.map_toArray, List.map_cons, List.map_nil, hs, hx, h1]
  exact hK _ _ (h a' c w' h2 h3 h4)
/-- append at a step of a region that draws its order -/
theorem step_byAppend {w : World} {ops : Array Oper} {o : Oper} {a : Act} {K : Act → World → Prop} {Q : Exit → Act → World → Prop} {E : Prop} (hgd : o.guard = none) (s x : Operand)
    (ho : o.op = .call { callee := .builtin .append, args := #[s, x], argTypes := #[30, 30] }) (B : Nat) (v u : Value) (xs ys : List UInt8) (hs : a.eval s = v) (hx : a.eval x = u)
    (hv : ByRow B w v xs) (hu : ByRd w u ys) (hl : xs.length + ys.length ≤ 140737488355328) (hB : B ≤ w.heap.size)
    (h : ∀ a' n c w', ByRow B w' (.slice a' n c) (xs ++ ys) → w.grownBy w' v.ownBlock → ((Value.slice a' n c).ownBlock = v.ownBlock ∨ ∀ g, (Value.slice a' n c).ownBlock = some g → w.heap.size ≤ g) → K (a.put o.dst (.slice a' n c)) w') :
    if Region.wanted o (yielded ops a.tmps) = true then Oper.wp Tryz.prog o a w K Q else E := by
  have hw : Region.wanted o (yielded ops a.tmps) = true := by simp [Region.wanted, hgd]
  rw [if_pos hw]
  obtain ⟨a', c, w', h1, h2, h3, h4⟩ := byAppend_run B w v u xs ys hv hu hl hB o.type
  unfold Oper.wp execOp
  simp only [ho, resolve, invoke, builtin, Sem.run_bind, Sem.run_pure, Result.andThen_ok, List.map_toArray, List.map_cons, List.map_nil, hs, hx, h1]
  exact h a' _ c w' h2 h3 h4
end Go.Proofs.YtiebfcefmdiajaaGreatDoor

set_option linter.unusedVariables false
namespace Go.Proofs.YtiebfcefmdiajaaGreatDoor
open Go.RowKit Go.Maps Go.Deep

structure VerV where
  a0 : ByteArray
  a1 : Int

/-- they lie one behind the other, from a place of a block on -/
def VerAt (w : World) (b off : Nat) (ns : List VerV) : Prop :=
  ∀ i (h : i < ns.length), w.cell? ⟨b, off + i * 2, none⟩ = some (.string (ns[i].a0)) ∧ w.cell? ⟨b, off + i * 2 + 1, none⟩ = some (.int .i64 (ns[i].a1))
def VerFit (x : VerV) : Prop := x.a0.size ≤ maxLen ∧ (-9223372036854775808 ≤ x.a1 ∧ x.a1 ≤ 9223372036854775807)
def VerOk (ns : List VerV) : Prop := ∀ x ∈ ns, VerFit x
/-- what the bound gives where it is not passed -/
def VerSmall (ns : List VerV) : Prop := ns.length ≤ 1048576 ∧ ∀ x ∈ ns, x.a0.size ≤ 1048576

/-- what is left, or less than nothing -/
def VerLeft (n0 : Nat) (left r : Int) : Prop := r ≤ left ∧ (0 ≤ r → (n0 : Int) ≤ left)
def RetVerSz (ns : List VerV) (left0 : Int) (e : Ending) : Prop := ∃ r : Int, e = .returned (.int .i64 r) ∧ r ≤ left0 ∧ (0 ≤ r → VerSmall ns)
theorem infoVer : (Tryz.prog.info? 57).map (fun i => (i.zero, i.size, i.bytes)) = some (some (.agg #[.string ByteArray.empty, .int .i64 0]), 2, 24) := by kernel_rfl

def VerTo (xs : List Value) (ns : List VerV) (k : Nat) : Prop :=
  ∀ i (h : i < ns.length), i < k → xs[i * 2]? = some (.string (ns[i].a0)) ∧ xs[i * 2 + 1]? = some (.int .i64 (ns[i].a1))
theorem verTo_step (xs : List Value) (ns : List VerV) (k : Nat) (hk : k < ns.length) (hx : xs.length = ns.length * 2) (h : VerTo xs ns k) :
    VerTo ((xs.set (k * 2) (.string (ns[k].a0))).set (k * 2 + 1) (.int .i64 (ns[k].a1))) ns (k + 1) := by
  intro i hi hik
  by_cases e : i = k
  · subst e
    simp [List.getElem?_set, hx]
    omega
  · obtain ⟨c0, c1⟩ := h i hi (by omega)
    refine ⟨?_, ?_⟩ <;> (repeat rw [List.getElem?_set_ne (by omega)]) <;> assumption

theorem ownsRowVer_below {w w' : World} {base B : Nat} {e : TypeId} {size : Nat} {g n cap : Nat} {xs : List Value} (h : w.ownsRow base e size (.slice (some ⟨g, 0, none⟩) n cap) n xs) (hb : Below B w w') (hg : g < B) :
    w'.ownsRow base e size (.slice (some ⟨g, 0, none⟩) n cap) n xs := by
  refine ⟨h.1, ?_⟩
  rcases h.2 with ⟨h', _⟩ | ⟨g', cap', cur, h', h1, h2, h3⟩
  · simp at h'
  · refine .inr ⟨g', cap', cur, h', h1, ?_, h3⟩
    simp only [Value.slice.injEq, Option.some.injEq, Addr.mk.injEq, and_true, true_and] at h'
    obtain ⟨rfl, rfl⟩ := h'
    rw [hb.block g hg]; exact h2
theorem verCells {w : World} {base : Nat} {e : TypeId} {g n cap : Nat} {xs : List Value} (h : w.ownsRow base e 2 (.slice (some ⟨g, 0, none⟩) n cap) n xs) (k : Nat) (hk : k < n) :
    ∃ v0 v1, w.cell? ⟨g, k * 2, none⟩ = some v0 ∧ w.cell? ⟨g, k * 2 + 1, none⟩ = some v1 ∧ w.frozen? ⟨g, k * 2, none⟩ = false ∧ w.frozen? ⟨g, k * 2 + 1, none⟩ = false := by
  have hx := h.1
  refine ⟨xs[k * 2]'(by omega), xs[k * 2 + 1]'(by omega), ?_, ?_, h.frozenAt _, h.frozenAt _⟩
  all_goals
    rw [h.cellAt _ (by omega)]
    exact List.getElem?_eq_getElem _
theorem verStore {w : World} {base : Nat} {e : TypeId} {g n cap : Nat} {xs : List Value} (h : w.ownsRow base e 2 (.slice (some ⟨g, 0, none⟩) n cap) n xs) (k : Nat) (v0 v1 : Value) :
    (((w.setCell ⟨g, k * 2, none⟩ v0).setCell ⟨g, k * 2 + 1, none⟩ v1)).ownsRow base e 2 (.slice (some ⟨g, 0, none⟩) n cap) n ((xs.set (k * 2) v0).set (k * 2 + 1) v1) :=
  ((h.stored (k * 2) v0).1.stored (k * 2 + 1) v1).1
theorem verOfRow {w : World} {base : Nat} {e : TypeId} {g n cap : Nat} {xs : List Value} {ns : List VerV} (h : w.ownsRow base e 2 (.slice (some ⟨g, 0, none⟩) n cap) n xs) (hn : ns.length = n) (ht : VerTo xs ns n) : VerAt w g 0 ns := by
  intro i hi
  obtain ⟨c0, c1⟩ := ht i hi (by omega)
  refine ⟨?_, ?_⟩
  all_goals
    rw [Nat.zero_add, h.cellAt _ (by omega)]
    assumption

set_option maxHeartbeats 800000 in
theorem eqVer_same (z0 : ByteArray) (z1 : Int) (w : World) :
    Calls Tryz.prog 55 #[.agg #[.string z0, .int .i64 z1], .agg #[.string z0, .int .i64 z1]] w fun e w' => e = .returned (.bool true) ∧ Below w.heap.size w w' := by
  go_enter Tryz.func55, Tryz.ntmps55
  go_wp2
  go_ret
  exact ⟨rfl, ((Below.refl _ _).alloc (Nat.le_refl _) _).alloc (by simp) _⟩

set_option maxHeartbeats 1600000 in
theorem eqVerS_same (w : World) (b off cap b' off' cap' : Nat) (ns : List VerV) (hl : ns.length ≤ 281474976710656) (hc : VerAt w b off ns) (hc' : VerAt w b' off' ns) (hb : b < w.heap.size) (hb' : b' < w.heap.size) :
    Calls Tryz.prog 28 #[.slice (some ⟨b, off, none⟩) ns.length cap, .slice (some ⟨b', off', none⟩) ns.length cap'] w fun e w' => e = .returned (.bool true) ∧ Below w.heap.size w w' := by
  go_enter Tryz.func28, Tryz.ntmps28
  go_wp2
  go_loopw [5] (fun i wr => ∃ (k : Nat), k ≤ ns.length ∧ i = .int .i64 k ∧ Below w.heap.size w wr) (fun i _ => ns.length - (intOf i).toNat)
  case atStart => exact ⟨0, Nat.zero_le _, rfl, Below.refl _ _⟩
  case round =>
    obtain ⟨k, hk, rfl, hbel⟩ := hrel
    by_cases hlt : k < ns.length
    · obtain ⟨c0, c1⟩ := hc k hlt
      obtain ⟨d0, d1⟩ := hc' k hlt
      rw [← hbel.cell (by exact hb)] at c0 c1
      rw [← hbel.cell (by exact hb')] at d0 d1
      go_wp2
      go_region_with (go_at_call 55; refine (eqVer_same _ _ _).mono ?_; rintro e w2 ⟨rfl, hb2⟩)
      all_goals
        have hb3 : Below w.heap.size w w2 := hbel.drew.trans (hb2.mono hbel.size)
        clear c0 c1 d0 d1
        go_wp2
        go_roundw
        case rel => exact ⟨k + 1, by omega, by go_num, hb3⟩
        case measure => simp [intOf]; omega
    · go_wp2
      go_ret
      exact ⟨rfl, hbel⟩

/-- a slice value leads to these: empty, or a row of them -/
def VerIn (w : World) (a : Option Addr) (ns : List VerV) : Prop :=
  ns = [] ∨ ∃ b off, a = some ⟨b, off, none⟩ ∧ b < w.heap.size ∧ VerAt w b off ns
theorem VerAt.below {w w' : World} {B b off : Nat} {ns : List VerV} (h : VerAt w b off ns) (hb : Below B w w') (hB : b < B) : VerAt w' b off ns := by
  intro i hi
  obtain ⟨c0, c1⟩ := h i hi
  exact ⟨(hb.cell (by exact hB)).trans c0, (hb.cell (by exact hB)).trans c1⟩
theorem VerIn.below {w w' : World} {a : Option Addr} {ns : List VerV} (h : VerIn w a ns) (hb : Below w.heap.size w w') : VerIn w' a ns := by
  rcases h with h | ⟨b, off, e, hlt, hn⟩
  · exact .inl h
  · exact .inr ⟨b, off, e, Nat.lt_of_lt_of_le hlt hb.size, hn.below hb hlt⟩
theorem cellsIVer : Tryz.prog.cellsOf 3 = 1 := by kernel_rfl
theorem cellsSVer : Tryz.prog.cellsOf 9 = 1 := by kernel_rfl
theorem lt_of_cellVer {w : World} {b off : Nat} {v : Value} (h : w.cell? ⟨b, off, none⟩ = some v) : b < w.heap.size := by
  by_cases hb : b < w.heap.size
  · exact hb
  · exfalso
    have : w.heap[b]? = none := Array.getElem?_eq_none (by omega)
    simp [World.cell?, this] at h
theorem verRange {k : Int} (h : (Lit.int .i64 k).wf = true) : -9223372036854775808 ≤ k ∧ k ≤ 9223372036854775807 := bounds_i64 h
end Go.Proofs.YtiebfcefmdiajaaGreatDoor
