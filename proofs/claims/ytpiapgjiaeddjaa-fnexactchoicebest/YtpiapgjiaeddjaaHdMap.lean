/-
  A map whose elements are lists of numbers: which list each key has.
-/
import Derived.Test.YtpiapgjiaeddjaaMerged33
import Derived.Maps.Own
import Derived.Maps.OwnSet
import Derived.Maps.OwnOps
import Derived.Maps.Views
import Derived.StringKeys
set_option linter.unusedVariables false
namespace Go.Proofs.Ytpiapgjiaeddjaa
open Go.RowKit Go.Maps Go.Deep Go.ChangeMaps Go.ChangeShapes

/-- where a list lies: its block, its length, its room (none: nowhere) -/
abbrev Hd := Option (Nat × Nat × Nat)
def hdV : Hd → Value
  | none => .slice none 0 0
  | some (g, n, c) => .slice (some ⟨g, 0, none⟩) n c
def hdD : Hd → DataW Unit
  | none => .nil
  | some (g, n, c) => .slice [.lit (.int .i64 g), .lit (.int .i64 n), .lit (.int .i64 c)] []
open Classical in
noncomputable def hdR (v : Value) : Option (DataW Unit × List MemPlace) := if h : ∃ o, v = hdV o then some (hdD (Classical.choose h), []) else none
theorem hdV_inj {o o' : Hd} (h : hdV o = hdV o') : o = o' := by
  rcases o with _ | ⟨g, n, c⟩ <;> rcases o' with _ | ⟨g', n', c'⟩ <;> simp [hdV] at h ⊢
  exact h
theorem hdD_inj {o o' : Hd} (h : hdD o = hdD o') : o = o' := by
  rcases o with _ | ⟨g, n, c⟩ <;> rcases o' with _ | ⟨g', n', c'⟩ <;> simp [hdD] at h ⊢
  omega
theorem hdR_mk (o : Hd) : hdR (hdV o) = some (hdD o, []) := by
  have hx : ∃ o', hdV o = hdV o' := ⟨o, rfl⟩
  unfold hdR
  rw [dif_pos hx, ← hdV_inj (Classical.choose_spec hx)]
theorem hdR_inv {v : Value} {z : DataW Unit × List MemPlace} (h : hdR v = some z) : ∃ o, v = hdV o ∧ z = (hdD o, []) := by
  unfold hdR at h
  split at h
  · rename_i hx
    exact ⟨_, Classical.choose_spec hx, (Option.some.inj h).symm⟩
  · cases h
def keyL (s : ByteArray) : Lit := .string s.data.toList
theorem keyL_inj {s s' : ByteArray} (h : keyL s = keyL s') : s = s' := by
  unfold keyL at h
  simp only [Lit.string.injEq] at h
  exact ByteArray.ext (Array.toList_inj.1 h)
/-- the map in block b holds, for each key, the list that G says -/
structure HdMap (w : World) (b n : Nat) (D : DataW Unit) (G : ByteArray → Hd) : Prop where
  own : w.ownsMap Try.prog 9 hdR b n D
  gives : ∀ s, D.atKey (keyL s) .nil = hdD (G s)
  there : ∀ s, Maps.has D (keyL s) = (G s).isSome
theorem mapKeyed : Keyed Try.prog 9 := string_keyed Try.underlying9
theorem mapZero (w : World) : (zeroValue 24).run Try.prog w = .ok (.slice none 0 0) w := by kernel_rfl
theorem HdMap.made (w : World) : HdMap (w.alloc (.map #[] 0)) w.heap.size 0 (.map []) (fun _ => none) := ⟨World.ownsMap_made _ _ _ _, fun s => rfl, fun s => rfl⟩
theorem HdMap.lt {w : World} {b n : Nat} {D : DataW Unit} {G : ByteArray → Hd} (h : HdMap w b n D G) : b < w.heap.size := h.own.lt
theorem HdMap.kept {w w' : World} {row : Option Nat} {b n : Nat} {D : DataW Unit} {G : ByteArray → Hd} (h : HdMap w b n D G) (hg : w.grownBy w' row) (hne : some b ≠ row) : HdMap w' b n D G := ⟨h.own.kept hg hne, h.gives, h.there⟩
theorem HdMap.alloc {w : World} {b n : Nat} {D : DataW Unit} {G : ByteArray → Hd} (h : HdMap w b n D G) (o : Obj) : HdMap (w.alloc o) b n D G := ⟨h.own.alloc o, h.gives, h.there⟩
theorem HdMap.drew {w : World} {b n : Nat} {D : DataW Unit} {G : ByteArray → Hd} (h : HdMap w b n D G) : HdMap w.drew b n D G := ⟨h.own.drew, h.gives, h.there⟩
theorem HdMap.same {w w' : World} {b n : Nat} {D : DataW Unit} {G : ByteArray → Hd} (h : HdMap w b n D G) (hb : w'.heap[b]? = w.heap[b]?) : HdMap w' b n D G := by
  refine ⟨?_, h.gives, h.there⟩
  obtain ⟨es, clock, h1, h2⟩ := h.own
  exact ⟨es, clock, hb.trans h1, h2⟩
theorem HdMap.setCell {w : World} {b n : Nat} {D : DataW Unit} {G : ByteArray → Hd} (h : HdMap w b n D G) {a : Addr} (ha : b ≠ a.block) (u : Value) : HdMap (w.setCell a u) b n D G := ⟨h.own.setCell ha u, h.gives, h.there⟩
theorem HdMap.up {w w' : World} {b n : Nat} {D : DataW Unit} {G : ByteArray → Hd} (h : HdMap w b n D G) (hb : Below w.heap.size w w') : HdMap w' b n D G := h.same (hb.block b h.lt)
/-- what m[s] gives -/
theorem HdMap.look {w : World} {b n : Nat} {D : DataW Unit} {G : ByteArray → Hd} (h : HdMap w b n D G) {s : ByteArray} (hs : s.size ≤ maxLen) {t : TypeId} (ht : Try.prog.underlying t = some (.map 9 24)) : (Instr.lookup t (.map (some b)) (.string s) false).run Try.prog w = .ok (hdV (G s)) w := by
  obtain ⟨v, ps, h1, h2⟩ := h.own.lookup mapKeyed ht (mapZero w) (hdR_mk none) (WideMaps.keyOf_string_mk Try.underlying9 hs)
  obtain ⟨o, rfl, e⟩ := hdR_inv h2
  simp only [Prod.mk.injEq] at e
  have : hdD (G s) = hdD o := (h.gives s).symm.trans e.1
  rw [h1, hdD_inj this]
def setG (G : ByteArray → Hd) (s : ByteArray) (o : Nat × Nat × Nat) : ByteArray → Hd := fun s' => if s' = s then some o else G s'
/-- m[s] = .. -/
theorem HdMap.put {w : World} {b n : Nat} {D : DataW Unit} {G : ByteArray → Hd} (h : HdMap w b n D G) (hn : n < maxLen) {s : ByteArray} (hs : s.size ≤ maxLen) {t : TypeId} (ht : Try.prog.underlying t = some (.map 9 24)) (o : Nat × Nat × Nat) :
    ∃ w' D', (Instr.mapUpdate t (.map (some b)) (.string s) (hdV (some o))).run Try.prog w = .ok () w' ∧ HdMap w' b (n + 1) D' (setG G s o) ∧ w.grownBy w' (some b) := by
  have hk : keyOf Try.prog 9 (.string s) = some (keyL s) := WideMaps.keyOf_string_mk Try.underlying9 hs
  obtain ⟨w', h1, h2, h3⟩ := h.own.update mapKeyed ht hn hk (hdR_mk (some o))
  have hm : IsMap D := h.own.isMap
  refine ⟨w', _, h1, ⟨h2, fun s' => ?_, fun s' => ?_⟩, h3⟩
  · unfold setG
    by_cases e : s' = s
    · subst e
      rw [if_pos rfl]
      exact atKey_put_same hm (mapKeyed.key hk) _ _
    · rw [if_neg e, atKey_put_other (fun e' => e (keyL_inj e'))]
      exact h.gives s'
  · unfold setG
    by_cases e : s' = s
    · subst e
      rw [if_pos rfl]
      exact has_put_same hm (mapKeyed.key hk) _
    · rw [if_neg e, has_put_other (fun e' => e (keyL_inj e'))]
      exact h.there s'
theorem step_hdLook {w : World} {ops : Array Oper} {o : Oper} {a : Act} {K : Act → World → Prop} {Q : Exit → Act → World → Prop} {E : Prop} (hw : Region.wanted o (yielded ops a.tmps) = true) (m x : Operand) (t : TypeId)
    (hop : o.op = Op.lookup t m x false) (ht : Try.prog.underlying t = some (.map 9 24)) (b n : Nat) (D : DataW Unit) (G : ByteArray → Hd) (hm : a.eval m = .map (some b)) (h : HdMap w b n D G) (s : ByteArray) (hs : s.size ≤ maxLen) (hx : a.eval x = .string s)
    (hK : K (a.put o.dst (hdV (G s))) w) : if Region.wanted o (yielded ops a.tmps) = true then Oper.wp Try.prog o a w K Q else E := by
  rw [if_pos hw]
  unfold Oper.wp
  simp [execOp, hop, hm, hx, h.look hs ht, Result.andThen]
  exact hK
theorem step_hdPut {w : World} {ops : Array Oper} {o : Oper} {a : Act} {K : Act → World → Prop} {Q : Exit → Act → World → Prop} {E : Prop} (hw : Region.wanted o (yielded ops a.tmps) = true) (m x v : Operand) (t : TypeId)
    (hop : o.op = Op.mapUpdate t m x v) (ht : Try.prog.underlying t = some (.map 9 24)) (b n : Nat) (D : DataW Unit) (G : ByteArray → Hd) (hm : a.eval m = .map (some b)) (h : HdMap w b n D G) (hn : n < maxLen) (s : ByteArray) (hs : s.size ≤ maxLen) (hx : a.eval x = .string s) (p : Nat × Nat × Nat) (hv : a.eval v = hdV (some p))
    (hK : ∀ w' D', HdMap w' b (n + 1) D' (setG G s p) → w.grownBy w' (some b) → K (a.put o.dst undef) w') : if Region.wanted o (yielded ops a.tmps) = true then Oper.wp Try.prog o a w K Q else E := by
  rw [if_pos hw]
  obtain ⟨w', D', h1, h2, h3⟩ := h.put hn hs ht p
  unfold Oper.wp
  simp [execOp, hop, hm, hx, hv, h1, Result.andThen]
  exact hK w' D' h2 h3
theorem wpList_hdLook {w : World} {ops : Array Oper} {rest : List Oper} {o : Oper} {a : Act} {Q : Exit → Act → World → Prop} (hg : o.guard = none) (m x : Operand) (t : TypeId)
    (hop : o.op = Op.lookup t m x false) (ht : Try.prog.underlying t = some (.map 9 24)) (b n : Nat) (D : DataW Unit) (G : ByteArray → Hd) (hm : a.eval m = .map (some b)) (h : HdMap w b n D G) (s : ByteArray) (hs : s.size ≤ maxLen) (hx : a.eval x = .string s)
    (hK : wpList Try.prog ops Q rest (a.put o.dst (hdV (G s))) w) : wpList Try.prog ops Q (o :: rest) a w := by
  refine wpList_plain hg fun K' hK' => ?_
  unfold Oper.wp
  simp [execOp, hop, hm, hx, h.look hs ht, Result.andThen]
  exact hK' _ _ hK
/-- a number behind a list of one's own: where the new one lies -/
theorem step_inOne {w : World} {ops : Array Oper} {o : Oper} {a : Act} {K : Act → World → Prop} {Q : Exit → Act → World → Prop} {E : Prop} (hw : Region.wanted o (yielded ops a.tmps) = true) (s x : Operand)
    (ho : o.op = .call { callee := .builtin .append, args := #[s, x], argTypes := #[24, 24] }) (B : Nat) (v : Value) (xs : List Int) (y : Int) (g : Nat) (hs : a.eval s = v) (hx : a.eval x = .slice (some ⟨g, 0, none⟩) 1 1)
    (hv : InRow B w v xs) (c0 : w.cell? ⟨g, 0, none⟩ = some (.int .i64 y)) (hl : xs.length ≤ 1000000) (hB : B ≤ w.heap.size)
    (h : ∀ g' c w', InRow B w' (.slice (some ⟨g', 0, none⟩) (xs.length + 1) c) (xs ++ [y]) → w.grownBy w' v.ownBlock → (v.ownBlock = some g' ∨ g' = w.heap.size) → K (a.put o.dst (.slice (some ⟨g', 0, none⟩) (xs.length + 1) c)) w') :
    if Region.wanted o (yielded ops a.tmps) = true then Oper.wp Try.prog o a w K Q else E := by
  rw [if_pos hw]
  obtain ⟨i0, hi, hz0, hz1, hz2⟩ := info_parts1 infoInt
  obtain ⟨g', cap, w', h1, h2, h3, h4, h5⟩ := run_append_lies (P := Try.prog) (w := w) 24 o.type B 3 i0 _ 1 8 Try.underlying24 hi hz0 hz1 hz2 rfl (by decide) v xs.length (xs.map (.int .i64)) hv ⟨g, 0, none⟩ 1 1 [.int .i64 y] rfl (fun j u hj => by
    match j, hj with
    | 0, hj => simp at hj; subst hj; simpa [Addr.add] using c0) (by intro u hu; simp at hu; rw [hu]; rfl) (by decide) (by unfold maxLen; omega) (by omega) hB w.heap.size rfl
  unfold Oper.wp execOp
  simp only [ho, resolve, invoke, builtin, Sem.run_bind, Sem.run_pure, Result.andThen_ok, List.map_toArray, List.map_cons, List.map_nil, hs, hx, h1]
  refine h g' cap w' ?_ h3 h4
  unfold InRow
  rw [List.length_append, List.map_append]
  exact h2
theorem wpList_inOne {w : World} {ops : Array Oper} {rest : List Oper} {o : Oper} {a : Act} {Q : Exit → Act → World → Prop} (hgd : o.guard = none) (s x : Operand)
    (ho : o.op = .call { callee := .builtin .append, args := #[s, x], argTypes := #[24, 24] }) (B : Nat) (v : Value) (xs : List Int) (y : Int) (g : Nat) (hs : a.eval s = v) (hx : a.eval x = .slice (some ⟨g, 0, none⟩) 1 1)
    (hv : InRow B w v xs) (c0 : w.cell? ⟨g, 0, none⟩ = some (.int .i64 y)) (hl : xs.length ≤ 1000000) (hB : B ≤ w.heap.size)
    (h : ∀ g' c w', InRow B w' (.slice (some ⟨g', 0, none⟩) (xs.length + 1) c) (xs ++ [y]) → w.grownBy w' v.ownBlock → (v.ownBlock = some g' ∨ g' = w.heap.size) → wpList Try.prog ops Q rest (a.put o.dst (.slice (some ⟨g', 0, none⟩) (xs.length + 1) c)) w') : wpList Try.prog ops Q (o :: rest) a w := by
  obtain ⟨i0, hi, hz0, hz1, hz2⟩ := info_parts1 infoInt
  refine wpList_append_lies w hgd s x 24 ho B 3 i0 _ 1 8 Try.underlying24 hi hz0 hz1 hz2 rfl (by decide) v xs.length (xs.map (.int .i64)) hs hv ⟨g, 0, none⟩ 1 1 [.int .i64 y] hx rfl (fun j u hj => by
    match j, hj with
    | 0, hj => simp at hj; subst hj; simpa [Addr.add] using c0) (by intro u hu; simp at hu; rw [hu]; rfl) (by decide) (by unfold maxLen; omega) (by omega) hB w.heap.size rfl ?_
  intro g' cap w' h2 h3 h4 h5
  refine h g' cap w' ?_ h3 h4
  unfold InRow
  rw [List.length_append, List.map_append]
  exact h2
end Go.Proofs.Ytpiapgjiaeddjaa
