/-
  Rows of bytes that one may append to: append of whatever bytes, the empty ones too.
-/
/-
  append(nil, make([]T, n)...): an operation of its own in the model.
-/
/-
  New rows of bytes: the specification's l6Bytes, bytes.Clone, slices.Concat of two.
-/
import Derived.Test.YtlgmmibncoedgaaMerged1
import Derived.Laws.OwnMore
import Derived.Deep.AppendLies
import Derived.Handy
import Derived.Deep.Slices
import Derived.Lib.SliceRun
set_option linter.unusedVariables false
namespace Go.Proofs.Ytlgmmibncoedgaa
open Go.RowKit Go.Maps Go.Deep

/-- a row of bytes, at or above a block, that one may append to -/
def ByRow (B : Nat) (w : World) (v : Value) (bs : List UInt8) : Prop := w.ownsRow B 5 1 v bs.length (bs.map byV)
theorem ByRow.nil (B : Nat) (w : World) : ByRow B w (.slice none 0 0) [] := ⟨rfl, .inl ⟨rfl, rfl⟩⟩
theorem ByRow.slice {B : Nat} {w : World} {v : Value} {bs : List UInt8} (h : ByRow B w v bs) : ∃ a c, v = .slice a bs.length c := by
  rcases h.2 with ⟨rfl, h0⟩ | ⟨g, cap, cur, rfl, _⟩
  · rw [h0]; exact ⟨_, _, rfl⟩
  · exact ⟨_, _, rfl⟩
theorem ByRow.own {B : Nat} {w : World} {v : Value} {bs : List UInt8} (h : ByRow B w v bs) : ∃ S, ByOwn S w v bs ∧ (∀ k ∈ S, B ≤ k) ∧ (∀ k ∈ S, v.ownBlock = some k) := by
  have hh : w.ownsRow B 5 1 v bs.length (bs.map byV) := h
  rcases h with ⟨_, ⟨rfl, h0⟩ | ⟨g, cap, cur, rfl, hB, hg, hnc, _⟩⟩
  · have : bs = [] := List.eq_nil_of_length_eq_zero h0
    subst this
    exact ⟨[], ByOwn.nil _ _ _, by simp, by simp⟩
  · refine ⟨[g], .inr ⟨g, 0, cap, rfl, rfl, (Array.getElem?_eq_some_iff.1 hg).1, fun i hi => ?_, fun i hi => hh.frozenAt _, hnc⟩, by simpa using hB, by simp [Value.ownBlock]⟩
    rw [Nat.zero_add, hh.cellAt _ (by omega)]
    simp [byV, hi]
theorem ByRow.rd {B : Nat} {w : World} {v : Value} {bs : List UInt8} (h : ByRow B w v bs) : ByRd w v bs := by
  obtain ⟨S, h, _⟩ := h.own
  exact h.rd
theorem ByRow.ge {B : Nat} {w : World} {v : Value} {bs : List UInt8} (h : ByRow B w v bs) : ∀ g, v.ownBlock = some g → B ≤ g := by
  intro g hg
  rcases h.2 with ⟨rfl, _⟩ | ⟨g', cap, cur, rfl, hB, _⟩
  · simp [Value.ownBlock] at hg
  · simp [Value.ownBlock] at hg; omega
theorem ByRow.lt {B : Nat} {w : World} {v : Value} {bs : List UInt8} (h : ByRow B w v bs) : ∀ g, v.ownBlock = some g → g < w.heap.size := by
  intro g hg
  rcases h.2 with ⟨rfl, _⟩ | ⟨g', cap, cur, rfl, hB, hh, _⟩
  · simp [Value.ownBlock] at hg
  · simp [Value.ownBlock] at hg; rw [← hg]; exact (Array.getElem?_eq_some_iff.1 hh).1
theorem ByRow.keep {B : Nat} {w w' : World} {v : Value} {bs : List UInt8} (h : ByRow B w v bs) (hk : ∀ g, v.ownBlock = some g → w'.heap[g]? = w.heap[g]?) : ByRow B w' v bs := by
  refine ⟨h.1, ?_⟩
  rcases h.2 with h0 | ⟨g, cap, cur, e, hB, hg, r⟩
  · exact .inl h0
  · exact .inr ⟨g, cap, cur, e, hB, (hk g (by rw [e]; rfl)).trans hg, r⟩
theorem ByRow.up {B : Nat} {w w' : World} {v : Value} {bs : List UInt8} (h : ByRow B w v bs) (hb : Below w.heap.size w w') : ByRow B w' v bs := h.keep (fun g hg => hb.block g (h.lt g hg))
theorem ByRow.turn {B : Nat} {S : List Nat} {w w' : World} {v : Value} {bs : List UInt8} (h : ByRow B w v bs) (ht : Turn S w w') (hS : ∀ g, v.ownBlock = some g → g ∉ S) : ByRow B w' v bs := h.keep (fun g hg => ht.block g (h.lt g hg) (hS g hg))
theorem ByRow.mono {B B' : Nat} {w : World} {v : Value} {bs : List UInt8} (h : ByRow B w v bs) (hB : B' ≤ B) : ByRow B' w v bs := by
  refine ⟨h.1, ?_⟩
  rcases h.2 with h0 | ⟨g, cap, cur, e, hb, r⟩
  · exact .inl h0
  · exact .inr ⟨g, cap, cur, e, Nat.le_trans hB hb, r⟩

theorem byOne (ys : List UInt8) : ∀ u ∈ ys.map byV, u.oneCell' = true := by
  intro u hu
  obtain ⟨c, _, rfl⟩ := List.mem_map.1 hu
  rfl
theorem byCells {w : World} {b off : Nat} {ys : List UInt8} (h : ByAt w b off ys) : ∀ j u, (ys.map byV)[j]? = some u → w.cell? ((⟨b, off, none⟩ : Addr).add j) = some u := by
  intro j u hu
  rw [List.getElem?_map] at hu
  obtain ⟨t, ht, rfl⟩ := Option.map_eq_some_iff.1 hu
  obtain ⟨hj, rfl⟩ := List.getElem?_eq_some_iff.1 ht
  have hadd : (⟨b, off, none⟩ : Addr).add j = ⟨b, off + j, none⟩ := by unfold Addr.add; split <;> simp_all
  rw [hadd]
  exact h j hj
theorem run_append_none {P : Program} {w : World} (base : Nat) (t ty e : TypeId) (i : TypeInfo) (size c : Nat) (ht : P.underlying t = some (.slice e)) (hi : P.info? e = some i) (v : Value) (n : Nat) (xs : List Value) (hown : w.ownsRow base e size v n xs) :
    (Builtin.append_ #[t, t] ty #[v, .slice none 0 c]).run P w = .ok v w := by
  rcases hown.2 with ⟨rfl, rfl⟩ | ⟨g, cap, cur, rfl, _, _, hnc, _⟩
  · simp [Builtin.append_, run_underlying ht, sizeOf, typeInfo, hi, Builtin.lenOf, Builtin.firstCells]
  · simp [Builtin.append_, run_underlying ht, sizeOf, typeInfo, hi, Builtin.lenOf, Builtin.firstCells, hnc, storeCells]
theorem run_append_zero {P : Program} {w : World} (base : Nat) (t ty e : TypeId) (i : TypeInfo) (size c : Nat) (ad : Addr) (ht : P.underlying t = some (.slice e)) (hi : P.info? e = some i) (v : Value) (n : Nat) (xs : List Value) (hown : w.ownsRow base e size v n xs) :
    (Builtin.append_ #[t, t] ty #[v, .slice (some ad) 0 c]).run P w = .ok v w := by
  rcases hown.2 with ⟨rfl, rfl⟩ | ⟨g, cap, cur, rfl, _, _, hnc, _⟩
  · simp [Builtin.append_, run_underlying ht, sizeOf, typeInfo, hi, Builtin.lenOf, Builtin.firstCells, loadCells, loadCellsFrom]
  · simp [Builtin.append_, run_underlying ht, sizeOf, typeInfo, hi, Builtin.lenOf, Builtin.firstCells, hnc, storeCells, loadCells, loadCellsFrom]
theorem grown_self (w : World) (r : Option Nat) : w.grownBy w r := ⟨rfl, rfl, rfl, Nat.le_refl _, fun _ _ _ => rfl⟩

theorem byAppend_run (B : Nat) (w : World) (v u : Value) (xs ys : List UInt8) (hv : ByRow B w v xs) (hu : ByRd w u ys) (hl : xs.length + ys.length ≤ 140737488355328) (hB : B ≤ w.heap.size) (ty : TypeId) :
    ∃ a c w', (Builtin.append_ #[22, 22] ty #[v, u]).run Try.prog w = .ok (.slice a (xs.length + ys.length) c) w' ∧ ByRow B w' (.slice a (xs.length + ys.length) c) (xs ++ ys) ∧ w.grownBy w' v.ownBlock ∧ ((Value.slice a (xs.length + ys.length) c).ownBlock = v.ownBlock ∨ ∀ g, (Value.slice a (xs.length + ys.length) c).ownBlock = some g → w.heap.size ≤ g) := by
  obtain ⟨i0, hi, hz0, hz1, hz2⟩ := info_parts1 infoByte
  obtain ⟨au, cu, rfl, hin, _⟩ := hu
  by_cases h0 : ys = []
  · subst h0
    cases au with
    | none =>
      obtain ⟨a, c, rfl⟩ := hv.slice
      exact ⟨a, c, w, run_append_none B _ ty _ i0 1 cu Try.underlying22 hi _ _ _ hv, by simpa using hv, grown_self _ _, .inl rfl⟩
    | some ad =>
      obtain ⟨a, c, rfl⟩ := hv.slice
      exact ⟨a, c, w, run_append_zero B _ ty _ i0 1 cu ad Try.underlying22 hi _ _ _ hv, by simpa using hv, grown_self _ _, .inl rfl⟩
  · obtain ⟨b, off, rfl, hb, hc⟩ := hin.resolve_left h0
    have hpos : 0 < ys.length := List.length_pos_iff.2 h0
    obtain ⟨g, cap, w', h1, h2, h3, h4, h5⟩ := run_append_lies (P := Try.prog) (w := w) 22 ty B 5 i0 _ 1 1 Try.underlying22 hi hz0 hz1 hz2 rfl (by decide) v xs.length (xs.map byV) hv ⟨b, off, none⟩ ys.length cu (ys.map byV) (by simp) (byCells hc) (byOne ys) hpos (by unfold maxLen; omega) (by omega) hB w.heap.size rfl
    refine ⟨some ⟨g, 0, none⟩, cap, w', h1, ?_, h3, ?_⟩
    · unfold ByRow
      rw [List.length_append, List.map_append]
      exact h2
    · rcases h4 with h4 | h4
      · exact .inl h4.symm
      · exact .inr (fun g' hg' => by simp [Value.ownBlock] at hg'; omega)

/-- append at the operation -/
theorem wpList_byAppend {w : World} {ops : Array Oper} {rest : List Oper} {o : Oper} {a : Act} {Q : Exit → Act → World → Prop} (hgd : o.guard = none) (s x : Operand)
    (ho : o.op = .call { callee := .builtin .append, args := #[s, x], argTypes := #[22, 22] }) (B : Nat) (v u : Value) (xs ys : List UInt8) (hs : a.eval s = v) (hx : a.eval x = u)
    (hv : ByRow B w v xs) (hu : ByRd w u ys) (hl : xs.length + ys.length ≤ 140737488355328) (hB : B ≤ w.heap.size)
    (h : ∀ a' c w', ByRow B w' (.slice a' (xs.length + ys.length) c) (xs ++ ys) → w.grownBy w' v.ownBlock → ((Value.slice a' (xs.length + ys.length) c).ownBlock = v.ownBlock ∨ ∀ g, (Value.slice a' (xs.length + ys.length) c).ownBlock = some g → w.heap.size ≤ g) → wpList Try.prog ops Q rest (a.put o.dst (.slice a' (xs.length + ys.length) c)) w') : wpList Try.prog ops Q (o :: rest) a w := by
  obtain ⟨a', c, w', h1, h2, h3, h4⟩ := byAppend_run B w v u xs ys hv hu hl hB o.type
  refine wpList_plain hgd fun K hK => ?_
  unfold Oper.wp execOp
  simp only [ho, resolve, invoke, builtin, Sem.run_bind, Sem.run_pure, Result.andThen_ok, List.map_toArray, List.map_cons, List.map_nil, hs, hx, h1]
  exact hK _ _ (h a' c w' h2 h3 h4)
/-- append at a step of a region that draws its order -/
theorem step_byAppend {w : World} {ops : Array Oper} {o : Oper} {a : Act} {K : Act → World → Prop} {Q : Exit → Act → World → Prop} {E : Prop} (hgd : o.guard = none) (s x : Operand)
    (ho : o.op = .call { callee := .builtin .append, args := #[s, x], argTypes := #[22, 22] }) (B : Nat) (v u : Value) (xs ys : List UInt8) (hs : a.eval s = v) (hx : a.eval x = u)
    (hv : ByRow B w v xs) (hu : ByRd w u ys) (hl : xs.length + ys.length ≤ 140737488355328) (hB : B ≤ w.heap.size)
    (h : ∀ a' n c w', ByRow B w' (.slice a' n c) (xs ++ ys) → w.grownBy w' v.ownBlock → ((Value.slice a' n c).ownBlock = v.ownBlock ∨ ∀ g, (Value.slice a' n c).ownBlock = some g → w.heap.size ≤ g) → K (a.put o.dst (.slice a' n c)) w') :
    if Region.wanted o (yielded ops a.tmps) = true then Oper.wp Try.prog o a w K Q else E := by
  have hw : Region.wanted o (yielded ops a.tmps) = true := by simp [Region.wanted, hgd]
  rw [if_pos hw]
  obtain ⟨a', c, w', h1, h2, h3, h4⟩ := byAppend_run B w v u xs ys hv hu hl hB o.type
  unfold Oper.wp execOp
  simp only [ho, resolve, invoke, builtin, Sem.run_bind, Sem.run_pure, Result.andThen_ok, List.map_toArray, List.map_cons, List.map_nil, hs, hx, h1]
  exact h a' _ c w' h2 h3 h4
end Go.Proofs.Ytlgmmibncoedgaa

set_option linter.unusedVariables false
namespace Go.Proofs.Ytlgmmibncoedgaa
open Go.RowKit Go.Maps Go.Deep

/-- append(nil, make([]T, n)...) -/
theorem run_append_made {P : Program} (w : World) (t u ty e : TypeId) (i : TypeInfo) (z : Value) (ht : P.underlying t = some (.slice e)) (hu : P.underlying u = some (.int .i64)) (hi : P.info? e = some i) (hz : i.zero = some z) (hs : i.size = 1)
    (n : Nat) (h0 : 0 < n) (h63 : n ≤ 1000000) (h48 : i.bytes ≤ 1000) :
    (Builtin.append_ #[t, u] ty #[.slice none 0 0, .int .i64 (n : Int)]).run P w =
      .ok (.slice (some ⟨w.heap.size, 0, none⟩) n (grownCap w n 0 e)) (w.drew.alloc (.cells (Builtin.zeroCells z.cells n ++ Builtin.zeroCells z.cells (grownCap w n 0 e - n)) e)) := by
  have hn : n ≠ 0 := by omega
  have hw : IntKind.i64.wrap (n : Int) = n := wrap_small _ (by omega) (by omega)
  have hm : n * i.bytes ≤ 1000000 * 1000 := Nat.mul_le_mul h63 h48
  have hm' : ¬ (281474976710656 < (n : Int) * (i.bytes : Int)) := by have : ((n * i.bytes : Nat) : Int) ≤ 1000000000 := by omega
                                                                     rw [Int.natCast_mul] at this; omega
  have h63' : ¬ (9223372036854775807 < (n : Int)) := by omega
  have h48' : ¬ (281474976710656 < Builtin.nextslicecap n 0 * i.bytes) := by rw [nextslicecap_zero h0]; omega
  have hneg : ¬ (n : Int) < 0 := by omega

  have hmx : max (n : Int) 0 = n := by omega
  have has : (asIntOf (.int .i64 (n : Int))).run P w = .ok (.i64, (n : Int)) w := rfl
  simp [Builtin.append_, run_underlying ht, run_underlying hu, sizeOf, typeInfo, zeroValue, hi, hz, hs, asInt, has, hw, hneg, hmx, hm', hn, h63', h48', Question.forced, run_firstCells_none, newRow, grownCap]

theorem wpList_append_made {P : Program} {w w1 : World} {ops : Array Oper} {rest : List Oper} {o : Oper} {a : Act} {Q : Exit → Act → World → Prop} (hgd : o.guard = none) (s x : Operand) (t u : TypeId)
    (ho : o.op = .call { callee := .builtin .append, args := #[s, x], argTypes := #[t, u] }) (v y r : Value) (hs : a.eval s = v) (hx : a.eval x = y) (hr : (Builtin.append_ #[t, u] o.type #[v, y]).run P w = .ok r w1)
    (h : wpList P ops Q rest (a.put o.dst r) w1) : wpList P ops Q (o :: rest) a w := by
  refine wpList_plain hgd fun K hK => ?_
  unfold Oper.wp execOp
  simp only [ho, resolve, invoke, builtin, Sem.run_bind, Sem.run_pure, Result.andThen_ok, List.map_toArray, List.map_cons, List.map_nil, hs, hx, hr]
  exact hK _ _ h
end Go.Proofs.Ytlgmmibncoedgaa

set_option linter.unusedVariables false
namespace Go.Proofs.Ytlgmmibncoedgaa
open Go.RowKit Go.Maps Go.Deep

theorem byLit (w : World) (B : Nat) (hB : B ≤ w.heap.size) : ByRow B (w.alloc (.cells #[] 5)) (.slice (some ⟨w.heap.size, 0, none⟩) 0 0) [] :=
  World.ownsRow_lit (size := 1) w #[] 0 hB (by unfold maxLen; omega) rfl
/-- a new row of these bytes is handed back -/
def RetRow1 (bs : List UInt8) (w : World) (e : Ending) (w' : World) : Prop := ∃ a n c, e = .returned (.slice a n c) ∧ Hid (n = bs.length) ∧ ByRow w.heap.size w' (.slice a n c) bs ∧ Below w.heap.size w w'


set_option maxHeartbeats 1600000 in
theorem clone_any (w : World) (u : Value) (xs : List UInt8) (hu : ByRd w u xs) (hl : xs.length ≤ 140737488355328) :
    Calls Try.prog 45 #[u] w fun e w' => RetRow1 xs w e w' := by
  have q22 : ∀ (w : World) (a : Option Addr) (n c n' c' : Nat), (binOp .eql 22 (.slice a n c) (.slice none n' c')).run Try.prog w = .ok (.bool a.isNone) w := fun w a n c n' c' => Lib.run_eql_slice_nil w _ _ a n c n' c' Try.underlying22
  have R0 := hide (byLit w w.heap.size (Nat.le_refl _))
  have U := hide (hu.up ((Below.refl _ _).alloc (Nat.le_refl _) (.cells #[] 5)))
  have UI := hide hu
  obtain ⟨a, c, rfl⟩ := hu.len
  clear hu
  cases a with
  | none =>
    have hx : xs = [] := by
      obtain ⟨a, c, e, h⟩ := unhide UI
      rcases h with h | ⟨b, off, e2, _⟩
      · exact h
      · subst e2; cases e
    subst hx
    go_enter Try.func45, Try.ntmps45
    go_wp2_with fail
    go_ret
    exact ⟨none, 0, 0, rfl, hide rfl, ByRow.nil _ _, Below.refl _ _⟩
  | some ad =>
    go_enter Try.func45, Try.ntmps45
    go_wp2_with (first
      | (at_builtin; refine wpList_byAppend rfl _ _ rfl w.heap.size _ _ [] xs rfl rfl (unhide R0) (unhide U) (by simp; omega) (by simp) ?_; simp only [List.length_nil, Nat.zero_add, List.nil_append]; intro a1 c1 w1 r1 g1 _; have R1 := hide r1; have B1 := hide ((Below.alloc (Below.refl w.heap.size w) (Nat.le_refl _) (.cells #[] 5)).grown g1 (by simp) (fun y hy => (unhide R0).ge y hy)); clear r1 g1)
      | fail)
    go_ret
    exact ⟨a1, _, c1, rfl, hide rfl, unhide R1, unhide B1⟩

theorem underInt : Try.prog.underlying 3 = some (.int .i64) := Try.underlying3
set_option maxHeartbeats 800000 in
theorem growBy_pos (w : World) (n : Nat) (h1 : 1 ≤ n) (h2 : n ≤ 100000) : Calls Try.prog 67 #[.slice none 0 0, .int .i64 n] w fun e w' => ∃ a c, e = .returned (.slice a 0 c) ∧ Hid (ByRow w.heap.size w' (.slice a 0 c) [] ∧ Below w.heap.size w w') := by
  obtain ⟨i0, hi, hz0, hz1, hz2⟩ := info_parts1 infoByte
  have hrun := fun ty => run_append_made (P := Try.prog) w 22 3 ty 5 i0 _ Try.underlying22 underInt hi hz0 hz1 n (by omega) (by omega) (by omega)
  have hge := grownCap_ge w n 0 5
  have hcm : grownCap w n 0 5 ≤ maxLen := grownCap_le_maxLen w n 0 5 (by unfold maxLen; omega)
  have HP := hide (show ByRow w.heap.size (w.drew.alloc (.cells (Builtin.zeroCells (Value.cells (.int .u8 0)) n ++ Builtin.zeroCells (Value.cells (.int .u8 0)) (grownCap w n 0 5 - n)) 5)) (.slice (some ⟨w.heap.size, 0, none⟩) 0 (grownCap w n 0 5)) [] ∧ Below w.heap.size w (w.drew.alloc (.cells (Builtin.zeroCells (Value.cells (.int .u8 0)) n ++ Builtin.zeroCells (Value.cells (.int .u8 0)) (grownCap w n 0 5 - n)) 5)) from
    ⟨⟨rfl, .inr ⟨w.heap.size, _, _, rfl, Nat.le_refl _, heap_alloc_new w.drew _, Nat.zero_le _, hcm, by simp only [Array.size_append, size_zeroCells]; simp [Value.cells]; omega, by simp⟩⟩, (Below.refl w.heap.size w).drew.alloc (Nat.le_refl _) _⟩)
  generalize grownCap w n 0 5 = cap at hrun hge hcm HP
  generalize (w.drew.alloc (.cells (Builtin.zeroCells (Value.cells (.int .u8 0)) n ++ Builtin.zeroCells (Value.cells (.int .u8 0)) (cap - n)) 5)) = w1 at hrun HP
  clear hz0 hz1 hz2 hi hcm
  have HR := hide hrun
  clear hrun
  go_enter Try.func67, Try.ntmps67
  go_wp2_with (first | (at_builtin; refine wpList_append_made rfl _ _ _ _ rfl _ _ _ rfl rfl (unhide HR _) ?_) | fail)
  go_ret
  exact ⟨_, _, rfl, HP⟩
theorem growBy_any (w : World) (n : Nat) (h2 : n ≤ 100000) : Calls Try.prog 67 #[.slice none 0 0, .int .i64 n] w fun e w' => ∃ a c, e = .returned (.slice a 0 c) ∧ Hid (ByRow w.heap.size w' (.slice a 0 c) [] ∧ Below w.heap.size w w') := by
  by_cases h1 : 1 ≤ n
  · exact growBy_pos w n h1 h2
  · obtain rfl : n = 0 := by omega
    go_enter Try.func67, Try.ntmps67
    go_wp2
    go_ret
    exact ⟨_, _, rfl, hide ⟨ByRow.nil _ _, Below.refl _ _⟩⟩

set_option maxHeartbeats 1600000 in
theorem concat2_any (w : World) (sb sc : Nat) (u v : Value) (xs ys : List UInt8) (hsb : sb < w.heap.size) (h0 : w.cell? ⟨sb, 0, none⟩ = some u) (h1 : w.cell? ⟨sb, 1, none⟩ = some v) (hu : ByRd w u xs) (hv : ByRd w v ys) (hl : xs.length + ys.length ≤ 100000) :
    Calls Try.prog 40 #[.slice (some ⟨sb, 0, none⟩) 2 sc] w fun e w' => RetRow1 (xs ++ ys) w e w' := by
  have U := hide hu
  have V := hide hv
  obtain ⟨au, cu, rfl⟩ := hu.len
  obtain ⟨av, cv, rfl⟩ := hv.len
  clear hu hv
  generalize hnx : xs.length = nx at *
  generalize hny : ys.length = ny at *
  have HNX := hide hnx
  have HNY := hide hny
  clear hnx hny
  have q0 : ¬ (nx : Int) < 0 := by omega
  have q1 : ¬ (nx : Int) + (ny : Int) < 0 := by omega
  go_enter Try.func40, Try.ntmps40
  go_wp2_with fail
  refine wp_loop_rounds 3 ?_
  rw [rounds_succ]
  go_wp2_with fail
  rw [rounds_succ]
  go_wp2_with fail
  rw [rounds_succ]
  go_wp2_with fail
  refine (growBy_any w (nx + ny) (by omega)).mono ?_
  rintro e w1 ⟨a1, c1, rfl, P1⟩
  have k0 : w1.cell? ⟨sb, 0, none⟩ = some (.slice au nx cu) := ((unhide P1).2.cell (by exact hsb)).trans h0
  have K0 := hide h1
  have U1 := hide (show ByRd w1 (.slice au nx cu) xs from (unhide U).up (unhide P1).2)
  have V1 := hide (show ByRd w1 (.slice av ny cv) ys from (unhide V).up (unhide P1).2)
  clear h0 h1
  go_wp2_with fail
  refine wp_loop_rounds 3 ?_
  rw [rounds_succ]
  go_wp2_with (first
    | (at_builtin; refine wpList_byAppend rfl _ _ rfl w.heap.size _ _ [] xs rfl rfl (unhide P1).1 (unhide U1) (by rw [unhide HNX]; simp; omega) (unhide P1).2.size ?_; simp only [List.length_nil, Nat.zero_add, List.nil_append]; rw [show xs.length = nx from unhide HNX]; intro a2 c2 w2 r2 g2 _; have R2 := hide r2; have B2 := hide ((unhide P1).2.grown g2 (unhide P1).2.size (fun y hy => (unhide P1).1.ge y hy)); clear r2 g2)
    | fail)
  have k1 : w2.cell? ⟨sb, 1, none⟩ = some (.slice av ny cv) := ((unhide B2).cell (by exact hsb)).trans (unhide K0)
  have V2 := hide (show ByRd w2 (.slice av ny cv) ys from (unhide V).up (unhide B2))
  clear k0
  rw [rounds_succ]
  go_wp2_with (first
    | (at_builtin; refine wpList_byAppend rfl _ _ rfl w.heap.size _ _ xs ys rfl rfl (unhide R2) (unhide V2) (by rw [unhide HNX, unhide HNY]; omega) (unhide B2).size ?_; rw [show xs.length = nx from unhide HNX, show ys.length = ny from unhide HNY]; intro a3 c3 w3 r3 g3 _; have R3 := hide r3; have B3 := hide ((unhide B2).grown g3 (unhide B2).size (fun y hy => (unhide R2).ge y hy)); clear r3 g3)
    | fail)
  clear k1
  rw [rounds_succ]
  go_wp2_with fail
  go_ret
  exact ⟨a3, _, c3, rfl, by rw [List.length_append, unhide HNX, unhide HNY]; exact hide rfl, unhide R3, unhide B3⟩
end Go.Proofs.Ytlgmmibncoedgaa
