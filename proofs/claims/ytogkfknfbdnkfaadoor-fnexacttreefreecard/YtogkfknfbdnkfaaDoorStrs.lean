/-
  Slices of texts in memory: those that are read, those that are owned.
-/
import Derived.Test.YtogkfknfbdnkfaaDoorNodes
import Derived.Deep.AppendLies
import Derived.Laws.OwnMore
namespace Go.Proofs.YtogkfknfbdnkfaaDoor
open Go.RowKit Go.Maps
set_option linter.unusedVariables false

/-- these texts lie in a slice -/
def StrAt (w : World) (v : Value) (ts : List ByteArray) : Prop := ∃ a cap, v = .slice a ts.length cap ∧ (ts = [] ∨ ∃ g, a = some ⟨g, 0, none⟩ ∧ g < w.heap.size ∧ ∀ j (h : j < ts.length), w.cell? ⟨g, j, none⟩ = some (.string ts[j]))
theorem StrAt.below {w w' : World} {v : Value} {ts : List ByteArray} (h : StrAt w v ts) (hb : Below w.heap.size w w') : StrAt w' v ts := by
  obtain ⟨a, cap, rfl, h⟩ := h
  refine ⟨a, cap, rfl, ?_⟩
  rcases h with h | ⟨g, rfl, hg, hc⟩
  · exact .inl h
  · exact .inr ⟨g, rfl, Nat.lt_of_lt_of_le hg hb.size, fun j hj => (hb.cell (by exact hg)).trans (hc j hj)⟩
theorem StrAt.nil (w : World) : StrAt w (.slice none 0 0) [] := ⟨none, 0, rfl, .inl rfl⟩
theorem infoStr : (Tryd.prog.info? 9).map (fun i => (i.zero, i.size, i.bytes)) = some (some (.string ByteArray.empty), 1, 16) := by kernel_rfl
/-- a slice of texts that is owned -/
def StrRow (base : Nat) (w : World) (v : Value) (ts : List ByteArray) : Prop := w.ownsRow base 9 1 v ts.length (ts.map .string)
theorem ownsRow_up {w w' : World} {base : Nat} {e : TypeId} {size : Nat} {v : Value} {n : Nat} {xs : List Value} (h : w.ownsRow base e size v n xs) (hb : Below w.heap.size w w') : w'.ownsRow base e size v n xs := by
  refine ⟨h.1, ?_⟩
  rcases h.2 with h0 | ⟨g, cap, cur, hv, hB, hg, r⟩
  · exact .inl h0
  · exact .inr ⟨g, cap, cur, hv, hB, (hb.block g (Array.getElem?_eq_some_iff.1 hg).1).trans hg, r⟩
theorem ownBlock_ge {w : World} {base : Nat} {e : TypeId} {size : Nat} {v : Value} {n : Nat} {xs : List Value} (h : w.ownsRow base e size v n xs) : ∀ k, v.ownBlock = some k → base ≤ k := by
  intro k hk
  rcases h.2 with ⟨rfl, _⟩ | ⟨g, cap, cur, rfl, hB, hg, r⟩
  · cases hk
  · simp only [Value.ownBlock, Option.some.injEq] at hk
    omega
theorem StrRow.nil (base : Nat) (w : World) : StrRow base w (.slice none 0 0) [] := ⟨rfl, .inl ⟨rfl, rfl⟩⟩
theorem StrRow.open {base : Nat} {w : World} {v : Value} {ts : List ByteArray} (h : StrRow base w v ts) (h0 : 1 ≤ ts.length) :
    ∃ g cap, v = .slice (some ⟨g, 0, none⟩) ts.length cap ∧ base ≤ g ∧ g < w.heap.size ∧ ts.length ≤ cap ∧ ∀ j (hj : j < ts.length), w.cell? ⟨g, j, none⟩ = some (.string ts[j]) := by
  rcases h.2 with ⟨_, h'⟩ | ⟨g, cap, cur, rfl, hB, hg, hc, _, hsz, htk⟩
  · omega
  · refine ⟨g, cap, rfl, hB, (Array.getElem?_eq_some_iff.1 hg).1, hc, fun j hj => ?_⟩
    have h1 : (cur.toList.take (ts.length * 1))[j]? = some (.string ts[j]) := by rw [htk, List.getElem?_map, List.getElem?_eq_getElem hj]; rfl
    rw [List.getElem?_take, if_pos (by omega)] at h1
    simp only [World.cell?, hg]
    simpa using h1
theorem StrRow.at {base : Nat} {w : World} {v : Value} {ts : List ByteArray} (h : StrRow base w v ts) : StrAt w v ts := by
  by_cases h0 : 1 ≤ ts.length
  · obtain ⟨g, cap, rfl, _, hg, _, hc⟩ := h.open h0
    exact ⟨_, cap, rfl, .inr ⟨g, rfl, hg, hc⟩⟩
  · have : ts = [] := List.eq_nil_of_length_eq_zero (by omega)
    subst this
    rcases h.2 with ⟨rfl, _⟩ | ⟨g, cap, cur, rfl, _⟩
    · exact StrAt.nil w
    · exact ⟨_, cap, rfl, .inl rfl⟩
theorem news_one (w : World) (t : TypeId) (a : Value) : ∀ j u, [a][j]? = some u → (w.alloc (.cells #[a] t)).cell? ((⟨w.heap.size, 0, none⟩ : Addr).add j) = some u := by
  intro j u h
  match j, h with
  | 0, h =>
    simp only [List.getElem?_cons_zero, Option.some.injEq] at h
    subst h
    exact World.cell?_alloc_at _ _ _ _ rfl
  | j + 1, h => simp at h
theorem one_str (T : ByteArray) : ∀ u ∈ [Value.string T], u.oneCell' = true := by
  intro u hu
  simp only [List.mem_singleton] at hu
  subst hu
  rfl
theorem str_ne {a b : ByteArray} (h : a ≠ b) : (a.toList == b.toList) = false := by
  rw [beq_eq_false_iff_ne]
  intro e
  apply h
  rw [ByteArray.toList_eq, ByteArray.toList_eq] at e
  cases a; cases b
  simp only at e
  congr
  exact Array.toList_inj.1 e

/-- what an append of one text leaves -/
theorem row_push {w0 wr w3 : World} {B : Nat} {ob : Obj} {u v3 : Value} {us : List ByteArray} {s : ByteArray} (hB : B = w0.heap.size) (hb : Below w0.heap.size w0 wr) (hstr : StrRow B wr u us)
    (hown : w3.ownsRow B 9 1 v3 (us.length + 1) (us.map .string ++ [.string s])) (hgrow : (wr.alloc ob).grownBy w3 u.ownBlock) : StrRow B w3 v3 (us ++ [s]) ∧ Below w0.heap.size w0 w3 := by
  subst hB
  refine ⟨by unfold StrRow; simpa using hown, ?_⟩
  exact (hb.alloc hb.size ob).grown hgrow (by have := hb.size; simp; omega) (ownBlock_ge hstr)
/-- these texts come back in a slice -/
def RetStrs (ts : List ByteArray) (e : Ending) (w' : World) : Prop := ∃ v, e = .returned v ∧ StrAt w' v ts

/-- nil, or a slice of these texts -/
def BoundAt (w : World) (v : Value) (ts : List ByteArray) : Prop := (ts = [] ∧ v = .slice none 0 0) ∨ (1 ≤ ts.length ∧ ∃ g cap, v = .slice (some ⟨g, 0, none⟩) ts.length cap ∧ g < w.heap.size ∧ ∀ j (h : j < ts.length), w.cell? ⟨g, j, none⟩ = some (.string ts[j]))
theorem BoundAt.below {w w' : World} {v : Value} {ts : List ByteArray} (h : BoundAt w v ts) (hb : Below w.heap.size w w') : BoundAt w' v ts := by
  rcases h with h | ⟨h1, g, cap, rfl, hg, hc⟩
  · exact .inl h
  · exact .inr ⟨h1, g, cap, rfl, Nat.lt_of_lt_of_le hg hb.size, fun j hj => (hb.cell (by exact hg)).trans (hc j hj)⟩
theorem BoundAt.at {w : World} {v : Value} {ts : List ByteArray} (h : BoundAt w v ts) : StrAt w v ts := by
  rcases h with ⟨rfl, rfl⟩ | ⟨h1, g, cap, rfl, hg, hc⟩
  · exact StrAt.nil w
  · exact ⟨_, cap, rfl, .inr ⟨g, rfl, hg, hc⟩⟩
theorem StrRow.bound {base : Nat} {w : World} {v : Value} {ts : List ByteArray} (h : StrRow base w v ts) (h0 : 1 ≤ ts.length) : BoundAt w v ts := by
  obtain ⟨g, cap, rfl, _, hg, _, hc⟩ := h.open h0
  exact .inr ⟨h0, g, cap, rfl, hg, hc⟩
theorem grown_refl (w : World) (r : Option Nat) : w.grownBy w r := ⟨rfl, rfl, rfl, Nat.le_refl _, fun _ _ _ => rfl⟩
/-- the first append of 'append(append(E, bound..), name)', E an empty literal, at a step of a region that draws its order -/
theorem step_append_bound {w : World} {ops : Array Oper} {o : Oper} {a : Act} {K : Act → World → Prop} {Q : Exit → Act → World → Prop} {E : Prop} (hgd : o.guard = none) (s x : Operand)
    (ho : o.op = .call { callee := .builtin .append, args := #[s, x], argTypes := #[24, 24] }) (base g0 : Nat) (hs : a.eval s = .slice (some ⟨g0, 0, none⟩) 0 0) (hown : w.ownsRow base 9 1 (.slice (some ⟨g0, 0, none⟩) 0 0) 0 [])
    (bv : Value) (bs : List ByteArray) (hx : a.eval x = bv) (hB : BoundAt w bv bs) (hl : bs.length ≤ 1000) (hbase : base ≤ w.heap.size)
    (h : ∀ g cap w', w'.ownsRow base 9 1 (.slice (some ⟨g, 0, none⟩) bs.length cap) bs.length (bs.map .string) → w.grownBy w' (some g0) → g < w'.heap.size → K (a.put o.dst (.slice (some ⟨g, 0, none⟩) bs.length cap)) w') :
    if Region.wanted o (yielded ops a.tmps) = true then Oper.wp Tryd.prog o a w K Q else E := by
  obtain ⟨i0, hi, hz0, hz1, hz2⟩ := info_parts infoStr
  rcases hB with ⟨rfl, rfl⟩ | ⟨h1, g, cap, rfl, hg, hc⟩
  · have hw : Region.wanted o (yielded ops a.tmps) = true := by simp [Region.wanted, hgd]
    rw [if_pos hw]
    have hrun := run_append_owned_none (P := Tryd.prog) (w := w) base 24 o.type 9 i0 1 Tryd.underlying24 hi _ 0 [] hown
    have hlt : g0 < w.heap.size := by
      rcases hown.2 with ⟨h', _⟩ | ⟨g', cap', cur, h', _, hg', _⟩
      · cases h'
      · simp only [Value.slice.injEq, Option.some.injEq, Addr.mk.injEq, and_true, true_and] at h'
        obtain ⟨rfl, _⟩ := h'
        exact (Array.getElem?_eq_some_iff.1 hg').1
    have hK := h g0 0 w hown (grown_refl w _) hlt
    unfold Oper.wp
    simp [execOp, ho, resolve, invoke, builtin, hs, hx, hrun, Result.andThen]
    exact hK
  · refine step_append_lies w hgd s x 24 ho base 9 i0 _ 1 16 Tryd.underlying24 hi hz0 hz1 hz2 rfl (by decide) _ 0 [] hs hown ⟨g, 0, none⟩ bs.length cap (bs.map .string) hx (by simp) (fun j u hu => ?_) (fun u hu => ?_) (by omega) (by unfold maxLen; omega) (by omega) hbase _ rfl ?_
    · rw [List.getElem?_map] at hu
      obtain ⟨t, ht, rfl⟩ := Option.map_eq_some_iff.1 hu
      obtain ⟨hj, rfl⟩ := List.getElem?_eq_some_iff.1 ht
      have hadd : (⟨g, 0, none⟩ : Addr).add j = ⟨g, j, none⟩ := by unfold Addr.add; split <;> simp_all
      rw [hadd]
      exact hc j hj
    · obtain ⟨t, _, rfl⟩ := List.mem_map.1 hu
      rfl
    · intro g' cap' w' hown' hgrow' _ hlt'
      rw [Nat.zero_add, List.nil_append] at hown'
      rw [Nat.zero_add]
      exact h g' cap' w' hown' hgrow' hlt'

end Go.Proofs.YtogkfknfbdnkfaaDoor
