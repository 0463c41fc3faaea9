/-
  Rows of windows (each cell a list of items) that one may append to.
-/
import Derived.Test.YtcjomdbklgjojaaWinsFull
import Derived.Test.YtcjomdbklgjojaaStrApp
import Derived.Deep.AppendLies
set_option linter.unusedVariables false
namespace Go.Proofs.Ytcjomdbklgjojaa
open Go.RowKit Go.Maps Go.Deep

def WiRow (B : Nat) (w : World) (v : Value) (vs : List Value) : Prop := w.ownsRow B 46 1 v vs.length vs
theorem WiRow.nil (B : Nat) (w : World) : WiRow B w (.slice none 0 0) [] := ⟨rfl, .inl ⟨rfl, rfl⟩⟩
theorem WiRow.slice {B : Nat} {w : World} {v : Value} {vs : List Value} (h : WiRow B w v vs) : (v = .slice none 0 0 ∧ vs = []) ∨ ∃ g c, v = .slice (some ⟨g, 0, none⟩) vs.length c ∧ vs.length ≤ c ∧ g < w.heap.size ∧ ∀ i (h : i < vs.length), w.cell? ⟨g, i, none⟩ = some vs[i] := by
  have hh : w.ownsRow B 46 1 v vs.length vs := h
  rcases h with ⟨_, ⟨rfl, h0⟩ | ⟨g, cap, cur, rfl, hB, hg, hnc, _⟩⟩
  · exact .inl ⟨rfl, List.eq_nil_of_length_eq_zero h0⟩
  · refine .inr ⟨g, cap, rfl, hnc, (Array.getElem?_eq_some_iff.1 hg).1, fun i hi => ?_⟩
    rw [hh.cellAt _ (by omega)]
    exact List.getElem?_eq_getElem hi
theorem WiRow.ge {B : Nat} {w : World} {v : Value} {vs : List Value} (h : WiRow B w v vs) : ∀ g, v.ownBlock = some g → B ≤ g := by
  intro g hg
  rcases h.2 with ⟨rfl, _⟩ | ⟨g', cap, cur, rfl, hB, _⟩
  · simp [Value.ownBlock] at hg
  · simp [Value.ownBlock] at hg; omega
theorem WiRow.lt {B : Nat} {w : World} {v : Value} {vs : List Value} (h : WiRow B w v vs) : ∀ g, v.ownBlock = some g → g < w.heap.size := by
  intro g hg
  rcases h.2 with ⟨rfl, _⟩ | ⟨g', cap, cur, rfl, hB, hh, _⟩
  · simp [Value.ownBlock] at hg
  · simp [Value.ownBlock] at hg
    subst hg
    exact (Array.getElem?_eq_some_iff.1 hh).1
theorem WiRow.keep {B : Nat} {w w' : World} {v : Value} {vs : List Value} (h : WiRow B w v vs) (hk : ∀ g, v.ownBlock = some g → w'.heap[g]? = w.heap[g]?) : WiRow B w' v vs := by
  rcases h with ⟨hl, h | ⟨g, cap, cur, rfl, hB, hg, hr⟩⟩
  · exact ⟨hl, .inl h⟩
  · exact ⟨hl, .inr ⟨g, cap, cur, rfl, hB, (hk g rfl).trans hg, hr⟩⟩
theorem WiRow.up {B : Nat} {w w' : World} {v : Value} {vs : List Value} (h : WiRow B w v vs) (hb : Below w.heap.size w w') : WiRow B w' v vs := h.keep (fun g hg => hb.block g (h.lt g hg))
theorem infoWi : (Try.prog.info? 46).map (fun i => (i.zero, i.size, i.bytes)) = some (some (.slice none 0 0), 1, 24) := by kernel_rfl
theorem news_wi {w : World} {g : Nat} {x : Value} (c0 : w.cell? ⟨g, 0, none⟩ = some x) : ∀ j u, ([x] : List Value)[j]? = some u → w.cell? ((⟨g, 0, none⟩ : Addr).add j) = some u := by
  intro j u hj
  match j, hj with
  | 0, hj => simp at hj; subst hj; simpa [Addr.add] using c0
/-- one more window -/
theorem wpList_wiAppend {w : World} {ops : Array Oper} {rest : List Oper} {o : Oper} {a : Act} {Q : Exit → Act → World → Prop} (hgd : o.guard = none) (s x : Operand)
    (ho : o.op = .call { callee := .builtin .append, args := #[s, x], argTypes := #[24, 24] }) (B : Nat) (v : Value) (vs : List Value) (ya : Option Addr) (yn yc : Nat) (g : Nat) (hs : a.eval s = v) (hx : a.eval x = .slice (some ⟨g, 0, none⟩) 1 1)
    (hv : WiRow B w v vs) (c0 : w.cell? ⟨g, 0, none⟩ = some (.slice ya yn yc)) (hl : vs.length ≤ 1000000) (hB : B ≤ w.heap.size)
    (h : ∀ g' n c w', WiRow B w' (.slice (some ⟨g', 0, none⟩) n c) (vs ++ [.slice ya yn yc]) → n = vs.length + 1 → w.grownBy w' v.ownBlock → wpList Try.prog ops Q rest (a.put o.dst (.slice (some ⟨g', 0, none⟩) n c)) w') : wpList Try.prog ops Q (o :: rest) a w := by
  obtain ⟨i0, hi, hz0, hz1, hz2⟩ := info_parts1 infoWi
  refine wpList_append_lies w hgd s x 24 ho B 46 i0 _ 1 24 Try.underlying24 hi hz0 hz1 hz2 rfl (by decide) v vs.length vs hs hv ⟨g, 0, none⟩ 1 1 [.slice ya yn yc] hx rfl (news_wi c0) (by intro u hu; simp at hu; rw [hu]; rfl) (by decide) (by unfold maxLen; omega) (by omega) hB w.heap.size rfl ?_
  intro g' cap w' h2 h3 h4 h5
  refine h g' _ cap w' ?_ rfl h3
  unfold WiRow
  rw [List.length_append]
  exact h2
theorem WiRow.form {B : Nat} {w : World} {v : Value} {vs : List Value} (h : WiRow B w v vs) : ∃ a n c, v = .slice a n c := by
  rcases h.slice with ⟨h, _⟩ | ⟨g, c, h, _⟩
  · exact ⟨_, _, _, h⟩
  · exact ⟨_, _, _, h⟩
/-- a row of empty windows is one's own -/
theorem WiRow.full {B n : Nat} {w : World} {v : Value} (h : WiRow B w v (List.replicate n (.slice none 0 0))) : ∃ S, ItemSSFull S w v (List.replicate n []) ∧ (∀ k ∈ S, B ≤ k) ∧ ∀ k ∈ S, v.ownBlock = some k := by
  have hg := h.ge
  rcases h.slice with ⟨rfl, h0⟩ | ⟨g, c, rfl, hc, hlt, hcell⟩
  · have hn : n = 0 := by simpa using congrArg List.length h0
    subst hn
    exact ⟨[], ⟨none, 0, rfl, by simp, .inl rfl⟩, by simp, by simp⟩
  · simp only [List.length_replicate] at *
    refine ⟨[g], ⟨_, c, by rw [List.length_replicate], by simpa using hlt, .inr ⟨g, 0, fun _ => [], rfl, by simp, by simp, by intro i j _ _ _ k hk; simp at hk, fun i hi => ⟨by simp, .slice none 0 0, ?_, ?_⟩⟩⟩, ?_, ?_⟩
    · rw [List.length_replicate] at hi
      rw [Nat.zero_add, hcell i hi, List.getElem_replicate]
    · rw [List.getElem_replicate]
      exact ⟨none, 0, rfl, Nat.le_refl _, by simp, .inl rfl⟩
    · intro k hk
      simp at hk
      subst hk
      exact hg _ (by simp [Value.ownBlock])
    · intro k hk
      simp at hk
      subst hk
      simp [Value.ownBlock]
/-- a row of texts is one's own -/
theorem TxRow.own {B : Nat} {w : World} {v : Value} {ts : List ByteArray} (h : TxRow B w v ts) : ∃ S, StringSOwn S w v ts ∧ (∀ k ∈ S, B ≤ k) ∧ ∀ k ∈ S, v.ownBlock = some k := by
  have hh : w.ownsRow B 9 1 v ts.length (ts.map .string) := h
  have hg := h.ge
  rcases h with ⟨_, ⟨rfl, h0⟩ | ⟨g, cap, cur, rfl, hB, hgr, hnc, _⟩⟩
  · exact ⟨[], .inl ⟨rfl, List.eq_nil_of_length_eq_zero h0, none, 0, rfl⟩, by simp, by simp⟩
  · refine ⟨[g], .inr ⟨g, 0, cap, rfl, rfl, (Array.getElem?_eq_some_iff.1 hgr).1, fun i hi => ?_, fun i hi => hh.frozenAt _⟩, ?_, ?_⟩
    · rw [Nat.zero_add, hh.cellAt _ (by omega)]
      simp [hi]
    · intro k hk
      simp at hk
      subst hk
      exact hg _ (by simp [Value.ownBlock])
    · intro k hk
      simp at hk
      subst hk
      simp [Value.ownBlock]
/-- more texts, out of a list -/
theorem wpList_txSpread {w : World} {ops : Array Oper} {rest : List Oper} {o : Oper} {a : Act} {Q : Exit → Act → World → Prop} (hgd : o.guard = none) (s x : Operand)
    (ho : o.op = .call { callee := .builtin .append, args := #[s, x], argTypes := #[22, 22] }) (B : Nat) (v : Value) (ts ys : List ByteArray) (b off c : Nat) (hs : a.eval s = v) (hx : a.eval x = .slice (some ⟨b, off, none⟩) ys.length c)
    (hv : TxRow B w v ts) (c0 : StrsAt w b off ys) (hm : 0 < ys.length) (hl : ts.length + ys.length ≤ 1000000) (hB : B ≤ w.heap.size)
    (h : ∀ g' n c w', TxRow B w' (.slice (some ⟨g', 0, none⟩) n c) (ts ++ ys) → n = (ts ++ ys).length → w.grownBy w' v.ownBlock → wpList Try.prog ops Q rest (a.put o.dst (.slice (some ⟨g', 0, none⟩) n c)) w') : wpList Try.prog ops Q (o :: rest) a w := by
  obtain ⟨i0, hi, hz0, hz1, hz2⟩ := info_parts1 infoTx
  refine wpList_append_lies w hgd s x 22 ho B 9 i0 _ 1 16 Try.underlying22 hi hz0 hz1 hz2 rfl (by decide) v ts.length (ts.map .string) hs hv ⟨b, off, none⟩ ys.length c (ys.map .string) hx (by simp) (fun j u hj => ?_) (by intro u hu; simp at hu; obtain ⟨y, _, rfl⟩ := hu; rfl) hm (by unfold maxLen; omega) (by omega) hB w.heap.size rfl ?_
  · have hj' : j < ys.length := by
      have := (List.getElem?_eq_some_iff.1 hj).1
      simpa using this
    have e : u = .string ys[j] := by
      rw [List.getElem?_map, List.getElem?_eq_getElem hj'] at hj
      simpa using hj.symm
    rw [e]
    have := c0 j hj'
    by_cases h0 : j = 0
    · subst h0; simpa [Addr.add] using this
    · simpa [Addr.add, h0] using this
  intro g' cap w' h2 h3 h4 h5
  refine h g' _ cap w' ?_ (by rw [List.length_append]) h3
  unfold TxRow
  rw [List.length_append, List.map_append]
  exact h2
/-- an empty list of texts, written out -/
theorem txLit (w : World) (B : Nat) (hB : B ≤ w.heap.size) : TxRow B (w.alloc (.cells #[] 9)) (.slice (some ⟨w.heap.size, 0, none⟩) 0 0) [] :=
  World.ownsRow_lit (size := 1) w #[] 0 hB (by unfold maxLen; omega) rfl
end Go.Proofs.Ytcjomdbklgjojaa
