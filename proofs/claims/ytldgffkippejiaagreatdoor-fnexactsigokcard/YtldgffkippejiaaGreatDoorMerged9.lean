/-
  Rows of bytes that one may append to: append of whatever bytes, the empty ones too.
-/
/-
  Rows of nodes that one may append to.
-/
import Derived.Test.YtldgffkippejiaaGreatDoorMerged8
import Derived.Laws.OwnMore
import Derived.Deep.AppendLies
import Derived.Handy
set_option linter.unusedVariables false
namespace Go.Proofs.YtldgffkippejiaaGreatDoor
open Go.RowKit Go.Maps Go.Deep

/-- a row of bytes, at or above a block, that one may append to -/
def ByRow (B : Nat) (w : World) (v : Value) (bs : List UInt8) : Prop := w.ownsRow B 5 1 v bs.length (bs.map byV)
theorem ByRow.nil (B : Nat) (w : World) : ByRow B w (.slice none 0 0) [] := ⟨rfl, .inl ⟨rfl, rfl⟩⟩
theorem ByRow.slice {B : Nat} {w : World} {v : Value} {bs : List UInt8} (h : ByRow B w v bs) : ∃ a c, v = .slice a bs.length c := by
  rcases h.2 with ⟨rfl, h0⟩ | ⟨g, cap, cur, rfl, _⟩
  · rw [h0]; exact ⟨_, _, rfl⟩
  · exact ⟨_, _, rfl⟩
theorem ByRow.own {B : Nat} {w : World} {v : Value} {bs : List UInt8} (h : ByRow B w v bs) : ∃ S, ByOwn S w v bs ∧ (∀ k ∈ S, B ≤ k) ∧ (∀ k ∈ S, v.ownBlock = some k) := by
  have hh : w.ownsRow B 5 1 v bs.length (bs.map byV) := h
  rcases h with ⟨_, ⟨rfl, h0⟩ | ⟨g, cap, cur, rfl, hB, hg, hnc, _⟩⟩
  · have : bs = [] := List.eq_nil_of_length_eq_zero h0
    subst this
    exact ⟨[], ByOwn.nil _ _ _, by simp, by simp⟩
  · refine ⟨[g], .inr ⟨g, 0, cap, rfl, rfl, (Array.getElem?_eq_some_iff.1 hg).1, fun i hi => ?_, fun i hi => hh.frozenAt _, hnc⟩, by simpa using hB, by simp [Value.ownBlock]⟩
    rw [Nat.zero_add, hh.cellAt _ (by omega)]
    simp [byV, hi]
theorem ByRow.rd {B : Nat} {w : World} {v : Value} {bs : List UInt8} (h : ByRow B w v bs) : ByRd w v bs := by
  obtain ⟨S, h, _⟩ := h.own
  exact h.rd
theorem ByRow.ge {B : Nat} {w : World} {v : Value} {bs : List UInt8} (h : ByRow B w v bs) : ∀ g, v.ownBlock = some g → B ≤ g := by
  intro g hg
  rcases h.2 with ⟨rfl, _⟩ | ⟨g', cap, cur, rfl, hB, _⟩
  · simp [Value.ownBlock] at hg
  · simp [Value.ownBlock] at hg; omega
theorem ByRow.lt {B : Nat} {w : World} {v : Value} {bs : List UInt8} (h : ByRow B w v bs) : ∀ g, v.ownBlock = some g → g < w.heap.size := by
  intro g hg
  rcases h.2 with ⟨rfl, _⟩ | ⟨g', cap, cur, rfl, hB, hh, _⟩
  · simp [Value.ownBlock] at hg
  · simp [Value.ownBlock] at hg; rw [← hg]; exact (Array.getElem?_eq_some_iff.1 hh).1
theorem ByRow.keep {B : Nat} {w w' : World} {v : Value} {bs : List UInt8} (h : ByRow B w v bs) (hk : ∀ g, v.ownBlock = some g → w'.heap[g]? = w.heap[g]?) : ByRow B w' v bs := by
  refine ⟨h.1, ?_⟩
  rcases h.2 with h0 | ⟨g, cap, cur, e, hB, hg, r⟩
  · exact .inl h0
  · exact .inr ⟨g, cap, cur, e, hB, (hk g (by rw [e]; rfl)).trans hg, r⟩
theorem ByRow.up {B : Nat} {w w' : World} {v : Value} {bs : List UInt8} (h : ByRow B w v bs) (hb : Below w.heap.size w w') : ByRow B w' v bs := h.keep (fun g hg => hb.block g (h.lt g hg))
theorem ByRow.turn {B : Nat} {S : List Nat} {w w' : World} {v : Value} {bs : List UInt8} (h : ByRow B w v bs) (ht : Turn S w w') (hS : ∀ g, v.ownBlock = some g → g ∉ S) : ByRow B w' v bs := h.keep (fun g hg => ht.block g (h.lt g hg) (hS g hg))
theorem ByRow.mono {B B' : Nat} {w : World} {v : Value} {bs : List UInt8} (h : ByRow B w v bs) (hB : B' ≤ B) : ByRow B' w v bs := by
  refine ⟨h.1, ?_⟩
  rcases h.2 with h0 | ⟨g, cap, cur, e, hb, r⟩
  · exact .inl h0
  · exact .inr ⟨g, cap, cur, e, Nat.le_trans hB hb, r⟩

theorem byOne (ys : List UInt8) : ∀ u ∈ ys.map byV, u.oneCell' = true := by
  intro u hu
  obtain ⟨c, _, rfl⟩ := List.mem_map.1 hu
  rfl
theorem byCells {w : World} {b off : Nat} {ys : List UInt8} (h : ByAt w b off ys) : ∀ j u, (ys.map byV)[j]? = some u → w.cell? ((⟨b, off, none⟩ : Addr).add j) = some u := by
  intro j u hu
  rw [List.getElem?_map] at hu
  obtain ⟨t, ht, rfl⟩ := Option.map_eq_some_iff.1 hu
  obtain ⟨hj, rfl⟩ := List.getElem?_eq_some_iff.1 ht
  have hadd : (⟨b, off, none⟩ : Addr).add j = ⟨b, off + j, none⟩ := by unfold Addr.add; split <;> simp_all
  rw [hadd]
  exact h j hj
theorem run_append_none {P : Program} {w : World} (base : Nat) (t ty e : TypeId) (i : TypeInfo) (size c : Nat) (ht : P.underlying t = some (.slice e)) (hi : P.info? e = some i) (v : Value) (n : Nat) (xs : List Value) (hown : w.ownsRow base e size v n xs) :
    (Builtin.append_ #[t, t] ty #[v, .slice none 0 c]).run P w = .ok v w := by
  rcases hown.2 with ⟨rfl, rfl⟩ | ⟨g, cap, cur, rfl, _, _, hnc, _⟩
  · simp [Builtin.append_, run_underlying ht, sizeOf, typeInfo, hi, Builtin.lenOf, Builtin.firstCells]
  · simp [Builtin.append_, run_underlying ht, sizeOf, typeInfo, hi, Builtin.lenOf, Builtin.firstCells, hnc, storeCells]
theorem run_append_zero {P : Program} {w : World} (base : Nat) (t ty e : TypeId) (i : TypeInfo) (size c : Nat) (ad : Addr) (ht : P.underlying t = some (.slice e)) (hi : P.info? e = some i) (v : Value) (n : Nat) (xs : List Value) (hown : w.ownsRow base e size v n xs) :
    (Builtin.append_ #[t, t] ty #[v, .slice (some ad) 0 c]).run P w = .ok v w := by
  rcases hown.2 with ⟨rfl, rfl⟩ | ⟨g, cap, cur, rfl, _, _, hnc, _⟩
  · simp [Builtin.append_, run_underlying ht, sizeOf, typeInfo, hi, Builtin.lenOf, Builtin.firstCells, loadCells, loadCellsFrom]
  · simp [Builtin.append_, run_underlying ht, sizeOf, typeInfo, hi, Builtin.lenOf, Builtin.firstCells, hnc, storeCells, loadCells, loadCellsFrom]
theorem grown_self (w : World) (r : Option Nat) : w.grownBy w r := ⟨rfl, rfl, rfl, Nat.le_refl _, fun _ _ _ => rfl⟩

theorem byAppend_run (B : Nat) (w : World) (v u : Value) (xs ys : List UInt8) (hv : ByRow B w v xs) (hu : ByRd w u ys) (hl : xs.length + ys.length ≤ 140737488355328) (hB : B ≤ w.heap.size) (ty : TypeId) :
    ∃ a c w', (Builtin.append_ #[59, 59] ty #[v, u]).run Tryz.prog w = .ok (.slice a (xs.length + ys.length) c) w' ∧ ByRow B w' (.slice a (xs.length + ys.length) c) (xs ++ ys) ∧ w.grownBy w' v.ownBlock ∧ ((Value.slice a (xs.length + ys.length) c).ownBlock = v.ownBlock ∨ ∀ g, (Value.slice a (xs.length + ys.length) c).ownBlock = some g → w.heap.size ≤ g) := by
  obtain ⟨i0, hi, hz0, hz1, hz2⟩ := info_parts1 infoByte
  obtain ⟨au, cu, rfl, hin, _⟩ := hu
  by_cases h0 : ys = []
  · subst h0
    cases au with
    | none =>
      obtain ⟨a, c, rfl⟩ := hv.slice
      exact ⟨a, c, w, run_append_none B _ ty _ i0 1 cu Tryz.underlying59 hi _ _ _ hv, by simpa using hv, grown_self _ _, .inl rfl⟩
    | some ad =>
      obtain ⟨a, c, rfl⟩ := hv.slice
      exact ⟨a, c, w, run_append_zero B _ ty _ i0 1 cu ad Tryz.underlying59 hi _ _ _ hv, by simpa using hv, grown_self _ _, .inl rfl⟩
  · obtain ⟨b, off, rfl, hb, hc⟩ := hin.resolve_left h0
    have hpos : 0 < ys.length := List.length_pos_iff.2 h0
    obtain ⟨g, cap, w', h1, h2, h3, h4, h5⟩ := run_append_lies (P := Tryz.prog) (w := w) 59 ty B 5 i0 _ 1 1 Tryz.underlying59 hi hz0 hz1 hz2 rfl (by decide) v xs.length (xs.map byV) hv ⟨b, off, none⟩ ys.length cu (ys.map byV) (by simp) (byCells hc) (byOne ys) hpos (by unfold maxLen; omega) (by omega) hB w.heap.size rfl
    refine ⟨some ⟨g, 0, none⟩, cap, w', h1, ?_, h3, ?_⟩
    · unfold ByRow
      rw [List.length_append, List.map_append]
      exact h2
    · rcases h4 with h4 | h4
      · exact .inl h4.symm
      · exact .inr (fun g' hg' => by simp [Value.ownBlock] at hg'; omega)

/-- append at the operation -/
theorem wpList_byAppend {w : World} {ops : Array Oper} {rest : List Oper} {o : Oper} {a : Act} {Q : Exit → Act → World → Prop} (hgd : o.guard = none) (s x : Operand)
    (ho : o.op = .call { callee := .builtin .append, args := #[s, x], argTypes := #[59, 59] }) (B : Nat) (v u : Value) (xs ys : List UInt8) (hs : a.eval s = v) (hx : a.eval x = u)
    (hv : ByRow B w v xs) (hu : ByRd w u ys) (hl : xs.length + ys.length ≤ 140737488355328) (hB : B ≤ w.heap.size)
    (h : ∀ a' c w', ByRow B w' (.slice a' (xs.length + ys.length) c) (xs ++ ys) → w.grownBy w' v.ownBlock → ((Value.slice a' (xs.length + ys.length) c).ownBlock = v.ownBlock ∨ ∀ g, (Value.slice a' (xs.length + ys.length) c).ownBlock = some g → w.heap.size ≤ g) → wpList Tryz.prog ops Q rest (a.put o.dst (.slice a' (xs.length + ys.length) c)) w') : wpList Tryz.prog ops Q (o :: rest) a w := by
  obtain ⟨a', c, w', h1, h2, h3, h4⟩ := byAppend_run B w v u xs ys hv hu hl hB o.type
  refine wpList_plain hgd fun K hK => ?_
  unfold Oper.wp execOp
  simp only [ho, resolve, invoke, builtin, Sem.run_bind, Sem.run_pure, Result.andThen_ok, List.map_toArray, List.map_cons, List.map_nil, hs, hx, h1]
  exact hK _ _ (h a' c w' h2 h3 h4)
/-- append at a step of a region that draws its order -/
theorem step_byAppend {w : World} {ops : Array Oper} {o : Oper} {a : Act} {K : Act → World → Prop} {Q : Exit → Act → World → Prop} {E : Prop} (hgd : o.guard = none) (s x : Operand)
    (ho : o.op = .call { callee := .builtin .append, args := #[s, x], argTypes := #[59, 59] }) (B : Nat) (v u : Value) (xs ys : List UInt8) (hs : a.eval s = v) (hx : a.eval x = u)
    (hv : ByRow B w v xs) (hu : ByRd w u ys) (hl : xs.length + ys.length ≤ 140737488355328) (hB : B ≤ w.heap.size)
    (h : ∀ a' n c w', ByRow B w' (.slice a' n c) (xs ++ ys) → w.grownBy w' v.ownBlock → ((Value.slice a' n c).ownBlock = v.ownBlock ∨ ∀ g, (Value.slice a' n c).ownBlock = some g → w.heap.size ≤ g) → K (a.put o.dst (.slice a' n c)) w') :
    if Region.wanted o (yielded ops a.tmps) = true then Oper.wp Tryz.prog o a w K Q else E := by
  have hw : Region.wanted o (yielded ops a.tmps) = true := by simp [Region.wanted, hgd]
  rw [if_pos hw]
  obtain ⟨a', c, w', h1, h2, h3, h4⟩ := byAppend_run B w v u xs ys hv hu hl hB o.type
  unfold Oper.wp execOp
  simp only [ho, resolve, invoke, builtin, Sem.run_bind, Sem.run_pure, Result.andThen_ok, List.map_toArray, List.map_cons, List.map_nil, hs, hx, h1]
  exact h a' _ c w' h2 h3 h4
end Go.Proofs.YtldgffkippejiaaGreatDoor

set_option linter.unusedVariables false
namespace Go.Proofs.YtldgffkippejiaaGreatDoor
open Go.RowKit Go.Maps Go.Deep

def ndCells (ns : List NodeV) : List Value := ns.flatMap fun x => [.int .i64 x.kind, .int .i64 x.num, .string x.name, .int .i64 x.kids]
theorem ndCells_len (ns : List NodeV) : (ndCells ns).length = ns.length * 4 := by
  induction ns with
  | nil => rfl
  | cons x xs ih => simp [ndCells] at ih ⊢; omega
theorem ndCells_snoc (ns : List NodeV) (x : NodeV) : ndCells (ns ++ [x]) = ndCells ns ++ [.int .i64 x.kind, .int .i64 x.num, .string x.name, .int .i64 x.kids] := by simp [ndCells]
theorem ndCells_get (ns : List NodeV) (i : Nat) (h : i < ns.length) : (ndCells ns)[i * 4]? = some (.int .i64 ns[i].kind) ∧ (ndCells ns)[i * 4 + 1]? = some (.int .i64 ns[i].num) ∧ (ndCells ns)[i * 4 + 2]? = some (.string ns[i].name) ∧ (ndCells ns)[i * 4 + 3]? = some (.int .i64 ns[i].kids) := by
  induction ns generalizing i with
  | nil => simp at h
  | cons x xs ih =>
    cases i with
    | zero => simp [ndCells]
    | succ i =>
      have := ih i (by simpa using h)
      have e : ndCells (x :: xs) = [.int .i64 x.kind, .int .i64 x.num, .string x.name, .int .i64 x.kids] ++ ndCells xs := by simp [ndCells]
      rw [e, show (i + 1) * 4 = i * 4 + 1 + 1 + 1 + 1 by omega]
      simpa using this
theorem ndCells_app (xs ys : List NodeV) : ndCells (xs ++ ys) = ndCells xs ++ ndCells ys := by simp [ndCells]
/-- a row of nodes, at or above a block, that one may append to -/
def NdRow (B : Nat) (w : World) (v : Value) (ns : List NodeV) : Prop := w.ownsRow B 67 4 v ns.length (ndCells ns)
theorem NdRow.nil (B : Nat) (w : World) : NdRow B w (.slice none 0 0) [] := ⟨rfl, .inl ⟨rfl, rfl⟩⟩
theorem NdRow.slice {B : Nat} {w : World} {v : Value} {ns : List NodeV} (h : NdRow B w v ns) : ∃ a c, v = .slice a ns.length c := by
  rcases h.2 with ⟨rfl, h0⟩ | ⟨g, cap, cur, rfl, _⟩
  · rw [h0]; exact ⟨_, _, rfl⟩
  · exact ⟨_, _, rfl⟩
theorem NdRow.rd {B : Nat} {w : World} {v : Value} {ns : List NodeV} (h : NdRow B w v ns) : ∃ a c, v = .slice a ns.length c ∧ NodesIn w a ns := by
  have hh : w.ownsRow B 67 4 v ns.length (ndCells ns) := h
  rcases h with ⟨_, ⟨rfl, h0⟩ | ⟨g, cap, cur, rfl, hB, hg, hnc, _⟩⟩
  · have : ns = [] := List.eq_nil_of_length_eq_zero h0
    subst this
    exact ⟨none, 0, rfl, .inl rfl⟩
  · refine ⟨some ⟨g, 0, none⟩, cap, rfl, .inr ⟨g, 0, rfl, (Array.getElem?_eq_some_iff.1 hg).1, fun i hi => ?_⟩⟩
    obtain ⟨e0, e1, e2, e3⟩ := ndCells_get ns i hi
    refine ⟨?_, ?_, ?_, ?_⟩
    · rw [Nat.zero_add, hh.cellAt _ (by omega)]; exact e0
    · rw [Nat.zero_add, hh.cellAt _ (by omega)]; exact e1
    · rw [Nat.zero_add, hh.cellAt _ (by omega)]; exact e2
    · rw [Nat.zero_add, hh.cellAt _ (by omega)]; exact e3
theorem NdRow.ge {B : Nat} {w : World} {v : Value} {ns : List NodeV} (h : NdRow B w v ns) : ∀ g, v.ownBlock = some g → B ≤ g := by
  intro g hg
  rcases h.2 with ⟨rfl, _⟩ | ⟨g', cap, cur, rfl, hB, _⟩
  · simp [Value.ownBlock] at hg
  · simp [Value.ownBlock] at hg; omega
theorem NdRow.lt {B : Nat} {w : World} {v : Value} {ns : List NodeV} (h : NdRow B w v ns) : ∀ g, v.ownBlock = some g → g < w.heap.size := by
  intro g hg
  rcases h.2 with ⟨rfl, _⟩ | ⟨g', cap, cur, rfl, hB, hh, _⟩
  · simp [Value.ownBlock] at hg
  · simp [Value.ownBlock] at hg; rw [← hg]; exact (Array.getElem?_eq_some_iff.1 hh).1
theorem NdRow.keep {B : Nat} {w w' : World} {v : Value} {ns : List NodeV} (h : NdRow B w v ns) (hk : ∀ g, v.ownBlock = some g → w'.heap[g]? = w.heap[g]?) : NdRow B w' v ns := by
  refine ⟨h.1, ?_⟩
  rcases h.2 with h0 | ⟨g, cap, cur, e, hB, hg, r⟩
  · exact .inl h0
  · exact .inr ⟨g, cap, cur, e, hB, (hk g (by rw [e]; rfl)).trans hg, r⟩
theorem NdRow.up {B : Nat} {w w' : World} {v : Value} {ns : List NodeV} (h : NdRow B w v ns) (hb : Below w.heap.size w w') : NdRow B w' v ns := h.keep (fun g hg => hb.block g (h.lt g hg))
theorem NdRow.mono {B B' : Nat} {w : World} {v : Value} {ns : List NodeV} (h : NdRow B w v ns) (hB : B' ≤ B) : NdRow B' w v ns := by
  refine ⟨h.1, ?_⟩
  rcases h.2 with h0 | ⟨g, cap, cur, e, hb, r⟩
  · exact .inl h0
  · exact .inr ⟨g, cap, cur, e, Nat.le_trans hB hb, r⟩
theorem infoNd : (Tryz.prog.info? 67).map (fun i => (i.zero, i.size, i.bytes)) = some (some (.agg #[.int .i64 0, .int .i64 0, .string ByteArray.empty, .int .i64 0]), 4, 40) := by kernel_rfl
theorem news_node {w : World} {g : Nat} {x : NodeV} (c0 : w.cell? ⟨g, 0, none⟩ = some (.int .i64 x.kind)) (c1 : w.cell? ⟨g, 1, none⟩ = some (.int .i64 x.num)) (c2 : w.cell? ⟨g, 2, none⟩ = some (.string x.name)) (c3 : w.cell? ⟨g, 3, none⟩ = some (.int .i64 x.kids)) : ∀ j u, ([.int .i64 x.kind, .int .i64 x.num, .string x.name, .int .i64 x.kids] : List Value)[j]? = some u → w.cell? ((⟨g, 0, none⟩ : Addr).add j) = some u := by
  intro j u hj
  match j, hj with
  | 0, hj => simp at hj; subst hj; simpa [Addr.add] using c0
  | 1, hj => simp at hj; subst hj; simpa [Addr.add] using c1
  | 2, hj => simp at hj; subst hj; simpa [Addr.add] using c2
  | 3, hj => simp at hj; subst hj; simpa [Addr.add] using c3
/-- one more node, which lies in a block of its own -/
theorem wpList_ndAppend {w : World} {ops : Array Oper} {rest : List Oper} {o : Oper} {a : Act} {Q : Exit → Act → World → Prop} (hgd : o.guard = none) (s x : Operand)
    (ho : o.op = .call { callee := .builtin .append, args := #[s, x], argTypes := #[35, 35] }) (B : Nat) (v : Value) (ns : List NodeV) (y : NodeV) (g : Nat) (hs : a.eval s = v) (hx : a.eval x = .slice (some ⟨g, 0, none⟩) 1 1)
    (hv : NdRow B w v ns) (c0 : w.cell? ⟨g, 0, none⟩ = some (.int .i64 y.kind)) (c1 : w.cell? ⟨g, 1, none⟩ = some (.int .i64 y.num)) (c2 : w.cell? ⟨g, 2, none⟩ = some (.string y.name)) (c3 : w.cell? ⟨g, 3, none⟩ = some (.int .i64 y.kids)) (hl : ns.length ≤ 1000000) (hB : B ≤ w.heap.size)
    (h : ∀ g' n c w', NdRow B w' (.slice (some ⟨g', 0, none⟩) n c) (ns ++ [y]) → w.grownBy w' v.ownBlock → (v.ownBlock = some g' ∨ g' = w.heap.size) → wpList Tryz.prog ops Q rest (a.put o.dst (.slice (some ⟨g', 0, none⟩) n c)) w') : wpList Tryz.prog ops Q (o :: rest) a w := by
  obtain ⟨i0, hi, hz0, hz1, hz2⟩ := info_parts1 infoNd
  refine wpList_append_lies w hgd s x 35 ho B 67 i0 _ 4 40 Tryz.underlying35 hi hz0 hz1 hz2 rfl (by decide) v ns.length (ndCells ns) hs hv ⟨g, 0, none⟩ 1 1 [.int .i64 y.kind, .int .i64 y.num, .string y.name, .int .i64 y.kids] hx rfl (news_node c0 c1 c2 c3) (by intro u hu; simp at hu; rcases hu with rfl | rfl | rfl | rfl <;> rfl) (by decide) (by unfold maxLen; omega) (by omega) hB w.heap.size rfl ?_
  intro g' cap w' h2 h3 h4 h5
  refine h g' _ cap w' ?_ h3 h4
  unfold NdRow
  rw [ndCells_snoc, List.length_append]
  exact h2
/-- more nodes, out of a list that is read: a run of append -/
theorem ndSpread_run (B : Nat) (w : World) (v : Value) (ns ys : List NodeV) (au : Option Addr) (cu : Nat) (hv : NdRow B w v ns) (hu : NodesIn w au ys) (hl : ns.length + ys.length ≤ 1000000) (hB : B ≤ w.heap.size) (ty : TypeId) :
    ∃ a c w', (Builtin.append_ #[35, 35] ty #[v, .slice au ys.length cu]).run Tryz.prog w = .ok (.slice a (ns.length + ys.length) c) w' ∧ NdRow B w' (.slice a (ns.length + ys.length) c) (ns ++ ys) ∧ w.grownBy w' v.ownBlock := by
  obtain ⟨i0, hi, hz0, hz1, hz2⟩ := info_parts1 infoNd
  by_cases h0 : ys = []
  · subst h0
    cases au with
    | none =>
      obtain ⟨a, c, rfl⟩ := hv.slice
      exact ⟨a, c, w, run_append_none B _ ty _ i0 4 cu Tryz.underlying35 hi _ _ _ hv, by simpa using hv, grown_self _ _⟩
    | some ad =>
      obtain ⟨a, c, rfl⟩ := hv.slice
      exact ⟨a, c, w, run_append_zero B _ ty _ i0 4 cu ad Tryz.underlying35 hi _ _ _ hv, by simpa using hv, grown_self _ _⟩
  · have hpos : 0 < ys.length := List.length_pos_iff.2 h0
    rcases hu with hx | ⟨g, off, rfl, hgl, hx⟩
    · exact absurd hx h0
    · obtain ⟨g', cap', w', h1, h2, h3, _, _⟩ := run_append_lies (P := Tryz.prog) (w := w) 35 ty B 67 i0 _ 4 40 Tryz.underlying35 hi hz0 hz1 hz2 rfl (by decide) v ns.length (ndCells ns) hv ⟨g, off, none⟩ ys.length cu (ndCells ys) (ndCells_len ys) (fun j x hj => by
        have hj' := (List.getElem?_eq_some_iff.1 hj).1
        rw [ndCells_len] at hj'
        obtain ⟨q, r, e, hr⟩ : ∃ q r, j = q * 4 + r ∧ r < 4 := ⟨j / 4, j % 4, by omega, by omega⟩
        have hq : q < ys.length := by omega
        obtain ⟨d0, d1, d2, d3⟩ := hx q hq
        obtain ⟨e0, e1, e2, e3⟩ := ndCells_get ys q hq
        have key : ∀ p u, j = q * 4 + p → (ndCells ys)[q * 4 + p]? = some u → w.cell? ⟨g, off + (q * 4 + p), none⟩ = some u → w.cell? ((⟨g, off, none⟩ : Addr).add j) = some x := fun p u h1 h2 h3 => by
          rw [h1, h2] at hj
          have hxu : u = x := Option.some.inj hj
          subst hxu
          rw [h1]
          generalize q * 4 + p = m at *
          by_cases hz : m = 0
          · subst hz; simpa [Addr.add] using h3
          · simpa [Addr.add, hz] using h3
        rcases (show r = 0 ∨ r = 1 ∨ r = 2 ∨ r = 3 by omega) with rfl | rfl | rfl | rfl
        · exact key 0 _ e e0 (by simpa using d0)
        · exact key 1 _ e e1 (by simpa [Nat.add_assoc] using d1)
        · exact key 2 _ e e2 (by simpa [Nat.add_assoc] using d2)
        · exact key 3 _ e e3 (by simpa [Nat.add_assoc] using d3)) (fun x hx' => by
        unfold ndCells at hx'
        obtain ⟨y, _, hy⟩ := List.mem_flatMap.1 hx'
        simp at hy
        rcases hy with rfl | rfl | rfl | rfl <;> rfl) hpos (by unfold maxLen; omega) (by omega) hB w.heap.size rfl
      refine ⟨some ⟨g', 0, none⟩, cap', w', h1, ?_, h3⟩
      unfold NdRow
      rw [List.length_append, ndCells_app]
      exact h2
theorem wpList_ndSpread {w : World} {ops : Array Oper} {rest : List Oper} {o : Oper} {a : Act} {Q : Exit → Act → World → Prop} (hgd : o.guard = none) (s x : Operand)
    (ho : o.op = .call { callee := .builtin .append, args := #[s, x], argTypes := #[35, 35] }) (B : Nat) (v : Value) (ns ys : List NodeV) (au : Option Addr) (cu : Nat) (hs : a.eval s = v) (hx : a.eval x = .slice au ys.length cu)
    (hv : NdRow B w v ns) (hu : NodesIn w au ys) (hl : ns.length + ys.length ≤ 1000000) (hB : B ≤ w.heap.size)
    (h : ∀ a' c w', NdRow B w' (.slice a' (ns.length + ys.length) c) (ns ++ ys) → w.grownBy w' v.ownBlock → wpList Tryz.prog ops Q rest (a.put o.dst (.slice a' (ns.length + ys.length) c)) w') : wpList Tryz.prog ops Q (o :: rest) a w := by
  obtain ⟨a', c, w', h1, h2, h3⟩ := ndSpread_run B w v ns ys au cu hv hu hl hB o.type
  refine wpList_plain hgd fun K hK => ?_
  unfold Oper.wp execOp
  simp only [ho, resolve, invoke, builtin, Sem.run_bind, Sem.run_pure, Result.andThen_ok, List.map_toArray, List.map_cons, List.map_nil, hs, hx, h1]
  exact hK _ _ (h a' _ w' h2 h3)
end Go.Proofs.YtldgffkippejiaaGreatDoor
