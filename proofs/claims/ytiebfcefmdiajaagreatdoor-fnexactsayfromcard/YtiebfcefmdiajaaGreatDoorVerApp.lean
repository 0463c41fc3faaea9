/-
  Rows of versions that one may append to.
-/
import Derived.Test.YtiebfcefmdiajaaGreatDoorVerOwns
import Derived.Laws.OwnMore
import Derived.Deep.AppendLies
import Derived.Handy
set_option linter.unusedVariables false
namespace Go.Proofs.YtiebfcefmdiajaaGreatDoor
open Go.RowKit Go.Maps Go.Deep

def vrCells (ns : List VerV) : List Value := ns.flatMap fun x => [.string x.a0, .int .i64 x.a1]
theorem vrCells_len (ns : List VerV) : (vrCells ns).length = ns.length * 2 := by
  induction ns with
  | nil => rfl
  | cons x xs ih => simp [vrCells] at ih ⊢; omega
theorem vrCells_snoc (ns : List VerV) (x : VerV) : vrCells (ns ++ [x]) = vrCells ns ++ [.string x.a0, .int .i64 x.a1] := by simp [vrCells]
theorem vrCells_get (ns : List VerV) (i : Nat) (h : i < ns.length) : (vrCells ns)[i * 2]? = some (.string ns[i].a0) ∧ (vrCells ns)[i * 2 + 1]? = some (.int .i64 ns[i].a1) := by
  induction ns generalizing i with
  | nil => simp at h
  | cons x xs ih =>
    cases i with
    | zero => simp [vrCells]
    | succ i =>
      have := ih i (by simpa using h)
      have e : vrCells (x :: xs) = [.string x.a0, .int .i64 x.a1] ++ vrCells xs := by simp [vrCells]
      rw [e, show (i + 1) * 2 = i * 2 + 1 + 1 by omega]
      simpa using this
/-- a row of versions, at or above a block, that one may append to -/
def VrRow (B : Nat) (w : World) (v : Value) (ns : List VerV) : Prop := w.ownsRow B 57 2 v ns.length (vrCells ns)
theorem VrRow.nil (B : Nat) (w : World) : VrRow B w (.slice none 0 0) [] := ⟨rfl, .inl ⟨rfl, rfl⟩⟩
theorem VrRow.slice {B : Nat} {w : World} {v : Value} {ns : List VerV} (h : VrRow B w v ns) : ∃ a c, v = .slice a ns.length c := by
  rcases h.2 with ⟨rfl, h0⟩ | ⟨g, cap, cur, rfl, _⟩
  · rw [h0]; exact ⟨_, _, rfl⟩
  · exact ⟨_, _, rfl⟩
theorem VrRow.own {B : Nat} {w : World} {v : Value} {ns : List VerV} (h : VrRow B w v ns) : ∃ S, VerOwn S w v ns ∧ (∀ k ∈ S, B ≤ k) ∧ (∀ k ∈ S, v.ownBlock = some k) := by
  have hh : w.ownsRow B 57 2 v ns.length (vrCells ns) := h
  rcases h with ⟨_, ⟨rfl, h0⟩ | ⟨g, cap, cur, rfl, hB, hg, hnc, _⟩⟩
  · have : ns = [] := List.eq_nil_of_length_eq_zero h0
    subst this
    exact ⟨[], .inl ⟨rfl, rfl, none, 0, rfl⟩, by simp, by simp⟩
  · refine ⟨[g], .inr ⟨g, 0, cap, rfl, rfl, (Array.getElem?_eq_some_iff.1 hg).1, fun i hi => ?_, fun i hi => hh.frozenAt _⟩, by simpa using hB, by simp [Value.ownBlock]⟩
    obtain ⟨e0, e1⟩ := vrCells_get ns i hi
    refine ⟨?_, ?_⟩
    · rw [Nat.zero_add, hh.cellAt _ (by omega)]; exact e0
    · rw [Nat.zero_add, hh.cellAt _ (by omega)]; exact e1
theorem VrRow.rd {B : Nat} {w : World} {v : Value} {ns : List VerV} (h : VrRow B w v ns) : VerRd w v ns := by
  obtain ⟨S, h, _⟩ := h.own
  exact h.rd
theorem VrRow.ge {B : Nat} {w : World} {v : Value} {ns : List VerV} (h : VrRow B w v ns) : ∀ g, v.ownBlock = some g → B ≤ g := by
  intro g hg
  rcases h.2 with ⟨rfl, _⟩ | ⟨g', cap, cur, rfl, hB, _⟩
  · simp [Value.ownBlock] at hg
  · simp [Value.ownBlock] at hg; omega
theorem VrRow.lt {B : Nat} {w : World} {v : Value} {ns : List VerV} (h : VrRow B w v ns) : ∀ g, v.ownBlock = some g → g < w.heap.size := by
  intro g hg
  rcases h.2 with ⟨rfl, _⟩ | ⟨g', cap, cur, rfl, hB, hh, _⟩
  · simp [Value.ownBlock] at hg
  · simp [Value.ownBlock] at hg; rw [← hg]; exact (Array.getElem?_eq_some_iff.1 hh).1
theorem VrRow.keep {B : Nat} {w w' : World} {v : Value} {ns : List VerV} (h : VrRow B w v ns) (hk : ∀ g, v.ownBlock = some g → w'.heap[g]? = w.heap[g]?) : VrRow B w' v ns := by
  refine ⟨h.1, ?_⟩
  rcases h.2 with h0 | ⟨g, cap, cur, e, hB, hg, r⟩
  · exact .inl h0
  · exact .inr ⟨g, cap, cur, e, hB, (hk g (by rw [e]; rfl)).trans hg, r⟩
theorem VrRow.up {B : Nat} {w w' : World} {v : Value} {ns : List VerV} (h : VrRow B w v ns) (hb : Below w.heap.size w w') : VrRow B w' v ns := h.keep (fun g hg => hb.block g (h.lt g hg))
theorem VrRow.mono {B B' : Nat} {w : World} {v : Value} {ns : List VerV} (h : VrRow B w v ns) (hB : B' ≤ B) : VrRow B' w v ns := by
  refine ⟨h.1, ?_⟩
  rcases h.2 with h0 | ⟨g, cap, cur, e, hb, r⟩
  · exact .inl h0
  · exact .inr ⟨g, cap, cur, e, Nat.le_trans hB hb, r⟩
theorem infoVr : (Tryz.prog.info? 57).map (fun i => (i.zero, i.size, i.bytes)) = some (some (.agg #[.string ByteArray.empty, .int .i64 0]), 2, 24) := by kernel_rfl
theorem news_ver {w : World} {g : Nat} {x : VerV} (c0 : w.cell? ⟨g, 0, none⟩ = some (.string x.a0)) (c1 : w.cell? ⟨g, 1, none⟩ = some (.int .i64 x.a1)) : ∀ j u, ([.string x.a0, .int .i64 x.a1] : List Value)[j]? = some u → w.cell? ((⟨g, 0, none⟩ : Addr).add j) = some u := by
  intro j u hj
  match j, hj with
  | 0, hj => simp at hj; subst hj; simpa [Addr.add] using c0
  | 1, hj => simp at hj; subst hj; simpa [Addr.add] using c1
/-- one more version, which lies in a block of its own -/
theorem wpList_vrAppend {w : World} {ops : Array Oper} {rest : List Oper} {o : Oper} {a : Act} {Q : Exit → Act → World → Prop} (hgd : o.guard = none) (s x : Operand)
    (ho : o.op = .call { callee := .builtin .append, args := #[s, x], argTypes := #[22, 22] }) (B : Nat) (v : Value) (ns : List VerV) (y : VerV) (g : Nat) (hs : a.eval s = v) (hx : a.eval x = .slice (some ⟨g, 0, none⟩) 1 1)
    (hv : VrRow B w v ns) (c0 : w.cell? ⟨g, 0, none⟩ = some (.string y.a0)) (c1 : w.cell? ⟨g, 1, none⟩ = some (.int .i64 y.a1)) (hl : ns.length ≤ 1000000) (hB : B ≤ w.heap.size)
    (h : ∀ g' n c w', VrRow B w' (.slice (some ⟨g', 0, none⟩) n c) (ns ++ [y]) → w.grownBy w' v.ownBlock → (v.ownBlock = some g' ∨ g' = w.heap.size) → wpList Tryz.prog ops Q rest (a.put o.dst (.slice (some ⟨g', 0, none⟩) n c)) w') : wpList Tryz.prog ops Q (o :: rest) a w := by
  obtain ⟨i0, hi, hz0, hz1, hz2⟩ := info_parts1 infoVr
  refine wpList_append_lies w hgd s x 22 ho B 57 i0 _ 2 24 Tryz.underlying22 hi hz0 hz1 hz2 rfl (by decide) v ns.length (vrCells ns) hs hv ⟨g, 0, none⟩ 1 1 [.string y.a0, .int .i64 y.a1] hx rfl (news_ver c0 c1) (by intro u hu; simp at hu; rcases hu with rfl | rfl <;> rfl) (by decide) (by unfold maxLen; omega) (by omega) hB w.heap.size rfl ?_
  intro g' cap w' h2 h3 h4 h5
  refine h g' _ cap w' ?_ h3 h4
  unfold VrRow
  rw [vrCells_snoc, List.length_append]
  exact h2
/-- one more version, at a step of a region that draws its order -/
theorem step_vrAppend {w : World} {ops : Array Oper} {o : Oper} {a : Act} {K : Act → World → Prop} {Q : Exit → Act → World → Prop} {E : Prop} (hgd : o.guard = none) (s x : Operand)
    (ho : o.op = .call { callee := .builtin .append, args := #[s, x], argTypes := #[22, 22] }) (B : Nat) (v : Value) (ns : List VerV) (y : VerV) (g : Nat) (hs : a.eval s = v) (hx : a.eval x = .slice (some ⟨g, 0, none⟩) 1 1)
    (hv : VrRow B w v ns) (c0 : w.cell? ⟨g, 0, none⟩ = some (.string y.a0)) (c1 : w.cell? ⟨g, 1, none⟩ = some (.int .i64 y.a1)) (hl : ns.length ≤ 1000000) (hB : B ≤ w.heap.size)
    (h : ∀ g' n c w', VrRow B w' (.slice (some ⟨g', 0, none⟩) n c) (ns ++ [y]) → w.grownBy w' v.ownBlock → K (a.put o.dst (.slice (some ⟨g', 0, none⟩) n c)) w') :
    if Region.wanted o (yielded ops a.tmps) = true then Oper.wp Tryz.prog o a w K Q else E := by
  obtain ⟨i0, hi, hz0, hz1, hz2⟩ := info_parts1 infoVr
  refine step_append_lies w hgd s x 22 ho B 57 i0 _ 2 24 Tryz.underlying22 hi hz0 hz1 hz2 rfl (by decide) v ns.length (vrCells ns) hs hv ⟨g, 0, none⟩ 1 1 [.string y.a0, .int .i64 y.a1] hx rfl (news_ver c0 c1) (by intro u hu; simp at hu; rcases hu with rfl | rfl <;> rfl) (by decide) (by unfold maxLen; omega) (by omega) hB w.heap.size rfl ?_
  intro g' cap w' h2 h3 h4 h5
  refine h g' _ cap w' ?_ h3
  unfold VrRow
  rw [vrCells_snoc, List.length_append]
  exact h2
end Go.Proofs.YtiebfcefmdiajaaGreatDoor
