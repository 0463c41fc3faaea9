/-
  Rows of ints that one may append to, and rows of lists of ints, of which only the length is told.
-/
import Derived.Test.YtnijccmhajjdoaaChoiceS2
import Derived.Deep.AppendLies
set_option linter.unusedVariables false
namespace Go.Proofs.Ytnijccmhajjdoaa
open Go.RowKit Go.Maps Go.Deep

def InRow (B : Nat) (w : World) (v : Value) (ts : List Int) : Prop := w.ownsRow B 3 1 v ts.length (ts.map (.int .i64))
theorem InRow.form {B : Nat} {w : World} {v : Value} {ts : List Int} (h : InRow B w v ts) : ∃ a c, v = .slice a ts.length c := by
  rcases h with ⟨_, ⟨rfl, h0⟩ | ⟨g, cap, cur, rfl, _⟩⟩
  · exact ⟨none, 0, by rw [h0]⟩
  · exact ⟨_, cap, rfl⟩
theorem InRow.ge {B : Nat} {w : World} {v : Value} {ts : List Int} (h : InRow B w v ts) : ∀ g, v.ownBlock = some g → B ≤ g := by
  intro g hg
  rcases h.2 with ⟨rfl, _⟩ | ⟨g', cap, cur, rfl, hB, _⟩
  · simp [Value.ownBlock] at hg
  · simp [Value.ownBlock] at hg; omega
theorem InRow.lt {B : Nat} {w : World} {v : Value} {ts : List Int} (h : InRow B w v ts) : ∀ g, v.ownBlock = some g → g < w.heap.size := by
  intro g hg
  rcases h.2 with ⟨rfl, _⟩ | ⟨g', cap, cur, rfl, hB, hh, _⟩
  · simp [Value.ownBlock] at hg
  · simp [Value.ownBlock] at hg
    subst hg
    exact (Array.getElem?_eq_some_iff.1 hh).1
theorem InRow.keep {B : Nat} {w w' : World} {v : Value} {ts : List Int} (h : InRow B w v ts) (hk : ∀ g, v.ownBlock = some g → w'.heap[g]? = w.heap[g]?) : InRow B w' v ts := by
  rcases h with ⟨hl, h | ⟨g, cap, cur, rfl, hB, hg, hr⟩⟩
  · exact ⟨hl, .inl h⟩
  · exact ⟨hl, .inr ⟨g, cap, cur, rfl, hB, (hk g rfl).trans hg, hr⟩⟩
theorem InRow.up {B : Nat} {w w' : World} {v : Value} {ts : List Int} (h : InRow B w v ts) (hb : Below w.heap.size w w') : InRow B w' v ts := h.keep (fun g hg => hb.block g (h.lt g hg))
theorem InRow.rd {B : Nat} {w : World} {v : Value} {ts : List Int} (h : InRow B w v ts) : IntSRd w v ts := by
  have hh : w.ownsRow B 3 1 v ts.length (ts.map (.int .i64)) := h
  rcases h with ⟨_, ⟨rfl, h0⟩ | ⟨g, cap, cur, rfl, hB, hg, hnc, _⟩⟩
  · have : ts = [] := List.eq_nil_of_length_eq_zero h0
    subst this
    exact ⟨none, 0, rfl, .inl rfl⟩
  · refine ⟨some ⟨g, 0, none⟩, cap, rfl, .inr ⟨g, 0, rfl, (Array.getElem?_eq_some_iff.1 hg).1, fun i hi => ?_⟩⟩
    rw [Nat.zero_add, hh.cellAt _ (by omega)]
    simp [hi]
theorem inLit (w : World) (B : Nat) (hB : B ≤ w.heap.size) : InRow B (w.alloc (.cells #[] 3)) (.slice (some ⟨w.heap.size, 0, none⟩) 0 0) [] :=
  World.ownsRow_lit (size := 1) w #[] 0 hB (by unfold maxLen; omega) rfl
theorem inOne (w : World) (x : Int) : IntSRd (w.alloc (.cells #[.int .i64 x] 3)) (.slice (some ⟨w.heap.size, 0, none⟩) 1 1) [x] := by
  refine ⟨_, 1, rfl, .inr ⟨w.heap.size, 0, rfl, by simp, fun i hi => ?_⟩⟩
  obtain rfl : i = 0 := by simp at hi; omega
  exact World.cell?_alloc_at _ _ _ _ rfl
theorem run_append_none_i {P : Program} {w : World} (base : Nat) (t ty e : TypeId) (i : TypeInfo) (size c : Nat) (ad : Option Addr) (ht : P.underlying t = some (.slice e)) (hi : P.info? e = some i) (v : Value) (n : Nat) (xs : List Value) (hown : w.ownsRow base e size v n xs) :
    (Builtin.append_ #[t, t] ty #[v, .slice ad 0 c]).run P w = .ok v w := by
  rcases hown.2 with ⟨rfl, rfl⟩ | ⟨g, cap, cur, rfl, _, _, hnc, _⟩
  · cases ad <;> simp [Builtin.append_, run_underlying ht, sizeOf, typeInfo, hi, Builtin.lenOf, Builtin.firstCells, loadCells, loadCellsFrom]
  · cases ad <;> simp [Builtin.append_, run_underlying ht, sizeOf, typeInfo, hi, Builtin.lenOf, Builtin.firstCells, hnc, storeCells, loadCells, loadCellsFrom]
theorem inAppend_run (B : Nat) (w : World) (v u : Value) (xs ys : List Int) (hv : InRow B w v xs) (hu : IntSRd w u ys) (hl : xs.length + ys.length ≤ 1000000) (hB : B ≤ w.heap.size) (ty : TypeId) :
    ∃ a c w', (Builtin.append_ #[29, 29] ty #[v, u]).run Try.prog w = .ok (.slice a (xs.length + ys.length) c) w' ∧ InRow B w' (.slice a (xs.length + ys.length) c) (xs ++ ys) ∧ w.grownBy w' v.ownBlock := by
  obtain ⟨i0, hi, hz0, hz1, hz2⟩ := info_parts1 infoInt
  obtain ⟨au, cu, rfl, hin⟩ := hu
  by_cases h0 : ys = []
  · subst h0
    obtain ⟨a, c, rfl⟩ := hv.form
    exact ⟨a, c, w, run_append_none_i B _ ty _ i0 1 cu au Try.underlying29 hi _ _ _ hv, by simpa using hv, ⟨rfl, rfl, rfl, Nat.le_refl _, fun _ _ _ => rfl⟩⟩
  · obtain ⟨b, off, rfl, hb, hc⟩ := hin.resolve_left h0
    have hpos : 0 < ys.length := List.length_pos_iff.2 h0
    obtain ⟨g, cap, w', h1, h2, h3, h4, h5⟩ := run_append_lies (P := Try.prog) (w := w) 29 ty B 3 i0 _ 1 8 Try.underlying29 hi hz0 hz1 hz2 rfl (by decide) v xs.length (xs.map (.int .i64)) hv ⟨b, off, none⟩ ys.length cu (ys.map (.int .i64)) (by simp) (fun j u hu => by
      rw [List.getElem?_map] at hu
      obtain ⟨t, ht, rfl⟩ := Option.map_eq_some_iff.1 hu
      obtain ⟨hj, rfl⟩ := List.getElem?_eq_some_iff.1 ht
      rw [Addr.add_lit]
      exact hc j hj) (fun u hu => by obtain ⟨c, _, rfl⟩ := List.mem_map.1 hu; rfl) hpos (by unfold maxLen; omega) (by omega) hB w.heap.size rfl
    refine ⟨some ⟨g, 0, none⟩, cap, w', h1, ?_, h3⟩
    unfold InRow
    rw [List.length_append, List.map_append]
    exact h2
theorem wpList_inAppend {w : World} {ops : Array Oper} {rest : List Oper} {o : Oper} {a : Act} {Q : Exit → Act → World → Prop} (hgd : o.guard = none) (s x : Operand)
    (ho : o.op = .call { callee := .builtin .append, args := #[s, x], argTypes := #[29, 29] }) (B : Nat) (v u : Value) (xs ys : List Int) (hs : a.eval s = v) (hx : a.eval x = u)
    (hv : InRow B w v xs) (hu : IntSRd w u ys) (hl : xs.length + ys.length ≤ 1000000) (hB : B ≤ w.heap.size)
    (h : ∀ a' c w', InRow B w' (.slice a' (xs.length + ys.length) c) (xs ++ ys) → w.grownBy w' v.ownBlock → wpList Try.prog ops Q rest (a.put o.dst (.slice a' (xs.length + ys.length) c)) w') : wpList Try.prog ops Q (o :: rest) a w := by
  obtain ⟨a', c, w', h1, h2, h3⟩ := inAppend_run B w v u xs ys hv hu hl hB o.type
  refine wpList_plain hgd fun K hK => ?_
  unfold Oper.wp execOp
  simp only [ho, resolve, invoke, builtin, Sem.run_bind, Sem.run_pure, Result.andThen_ok, List.map_toArray, List.map_cons, List.map_nil, hs, hx, h1]
  exact hK _ _ (h a' c w' h2 h3)
/-- a row of lists of numbers that one may append to: how long it is -/
def FdRow (B : Nat) (w : World) (v : Value) (n : Nat) : Prop := ∃ xs, w.ownsRow B 29 1 v n xs
theorem FdRow.nil (B : Nat) (w : World) : FdRow B w (.slice none 0 0) 0 := ⟨[], rfl, .inl ⟨rfl, rfl⟩⟩
theorem FdRow.form {B : Nat} {w : World} {v : Value} {n : Nat} (h : FdRow B w v n) : ∃ a c, v = .slice a n c := by
  obtain ⟨xs, _, ⟨rfl, h0⟩ | ⟨g, cap, cur, rfl, _⟩⟩ := h
  · exact ⟨none, 0, by rw [h0]⟩
  · exact ⟨_, cap, rfl⟩
theorem FdRow.ge {B : Nat} {w : World} {v : Value} {n : Nat} (h : FdRow B w v n) : ∀ g, v.ownBlock = some g → B ≤ g := by
  intro g hg
  obtain ⟨xs, _, ⟨rfl, _⟩ | ⟨g', cap, cur, rfl, hB, _⟩⟩ := h
  · simp [Value.ownBlock] at hg
  · simp [Value.ownBlock] at hg; omega
theorem FdRow.lt {B : Nat} {w : World} {v : Value} {n : Nat} (h : FdRow B w v n) : ∀ g, v.ownBlock = some g → g < w.heap.size := by
  intro g hg
  obtain ⟨xs, _, ⟨rfl, _⟩ | ⟨g', cap, cur, rfl, hB, hh, _⟩⟩ := h
  · simp [Value.ownBlock] at hg
  · simp [Value.ownBlock] at hg
    subst hg
    exact (Array.getElem?_eq_some_iff.1 hh).1
theorem FdRow.keep {B : Nat} {w w' : World} {v : Value} {n : Nat} (h : FdRow B w v n) (hk : ∀ g, v.ownBlock = some g → w'.heap[g]? = w.heap[g]?) : FdRow B w' v n := by
  obtain ⟨xs, hl, h | ⟨g, cap, cur, rfl, hB, hg, hr⟩⟩ := h
  · exact ⟨xs, hl, .inl h⟩
  · exact ⟨xs, hl, .inr ⟨g, cap, cur, rfl, hB, (hk g rfl).trans hg, hr⟩⟩
theorem FdRow.up {B : Nat} {w w' : World} {v : Value} {n : Nat} (h : FdRow B w v n) (hb : Below w.heap.size w w') : FdRow B w' v n := h.keep (fun g hg => hb.block g (h.lt g hg))
theorem infoFd : (Try.prog.info? 29).map (fun i => (i.zero, i.size, i.bytes)) = some (some (.slice none 0 0), 1, 24) := by kernel_rfl
theorem wpList_fdAppend {w : World} {ops : Array Oper} {rest : List Oper} {o : Oper} {a : Act} {Q : Exit → Act → World → Prop} (hgd : o.guard = none) (s x : Operand)
    (ho : o.op = .call { callee := .builtin .append, args := #[s, x], argTypes := #[43, 43] }) (B : Nat) (v : Value) (n : Nat) (ya : Option Addr) (yn yc : Nat) (g : Nat) (hs : a.eval s = v) (hx : a.eval x = .slice (some ⟨g, 0, none⟩) 1 1)
    (hv : FdRow B w v n) (c0 : w.cell? ⟨g, 0, none⟩ = some (.slice ya yn yc)) (hl : n ≤ 1000000) (hB : B ≤ w.heap.size)
    (h : ∀ g' c w', FdRow B w' (.slice (some ⟨g', 0, none⟩) (n + 1) c) (n + 1) → w.grownBy w' v.ownBlock → (v.ownBlock = some g' ∨ g' = w.heap.size) → wpList Try.prog ops Q rest (a.put o.dst (.slice (some ⟨g', 0, none⟩) (n + 1) c)) w') : wpList Try.prog ops Q (o :: rest) a w := by
  obtain ⟨i0, hi, hz0, hz1, hz2⟩ := info_parts1 infoFd
  obtain ⟨xs, hv⟩ := hv
  refine wpList_append_lies w hgd s x 43 ho B 29 i0 _ 1 24 Try.underlying43 hi hz0 hz1 hz2 rfl (by decide) v n xs hs hv ⟨g, 0, none⟩ 1 1 [.slice ya yn yc] hx rfl (fun j u hj => by
    match j, hj with
    | 0, hj => simp at hj; subst hj; simpa [Addr.add] using c0) (by intro u hu; simp at hu; rw [hu]; rfl) (by decide) (by unfold maxLen; omega) (by omega) hB w.heap.size rfl ?_
  intro g' cap w' h2 h3 h4 h5
  exact h g' cap w' ⟨_, h2⟩ h3 h4
end Go.Proofs.Ytnijccmhajjdoaa
