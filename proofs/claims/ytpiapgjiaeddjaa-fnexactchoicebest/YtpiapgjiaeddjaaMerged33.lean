/-
  All choices that agree: mathematics.
-/
/-
  Rows of lists of ints that one may append to, with what they hold.
-/
import Derived.Test.YtpiapgjiaeddjaaMerged26
import Derived.Test.YtpiapgjiaeddjaaBestM
import Derived.Test.YtpiapgjiaeddjaaCountS
import Derived.Test.YtpiapgjiaeddjaaMerged31
set_option linter.unusedVariables false
namespace Go.Proofs.Ytpiapgjiaeddjaa
open Go.RowKit Go.Maps Go.Deep

/-- the choices that agree and begin so, one after another -/
def alS (ws : List (List ItemV)) : List (List ItemV) → List Int → List (List Int)
  | [], ps => if agB ws ps then [ps] else []
  | win :: rest, ps => if agB ws ps then (List.range win.length).flatMap (fun (i : Nat) => alS ws rest (ps ++ [(i : Int)])) else []
def alTo (ws : List (List ItemV)) (rest : List (List ItemV)) (ps : List Int) (k : Nat) : List (List Int) := (List.range k).flatMap (fun (i : Nat) => alS ws rest (ps ++ [(i : Int)]))
theorem alTo_step (ws : List (List ItemV)) (rest : List (List ItemV)) (ps : List Int) (k : Nat) : alTo ws rest ps (k + 1) = alTo ws rest ps k ++ alS ws rest (ps ++ [(k : Int)]) := by
  unfold alTo
  rw [List.range_succ, List.flatMap_append]
  simp
theorem al_no {ws : List (List ItemV)} {rest : List (List ItemV)} {ps : List Int} (h : agB ws ps = false) : alS ws rest ps = [] := by
  cases rest <;> simp [alS, h]
theorem al_one {ws : List (List ItemV)} {ps : List Int} (h : agB ws ps = true) : alS ws [] ps = [ps] := by simp [alS, h]
theorem al_more {ws : List (List ItemV)} {win : List ItemV} {rest : List (List ItemV)} {ps : List Int} (h : agB ws ps = true) : alS ws (win :: rest) ps = alTo ws rest ps win.length := by simp [alS, alTo, h]
theorem al_len (ws : List (List ItemV)) : ∀ (rest : List (List ItemV)) (ps : List Int), (alS ws rest ps).length = cs ws rest ps
  | [], ps => by unfold alS cs; split <;> rfl
  | win :: rest, ps => by
    unfold alS cs
    split
    · rw [List.length_flatMap]
      congr 1
      refine List.map_congr_left fun i _ => ?_
      exact al_len ws rest _
    · rfl
theorem alTo_len (ws : List (List ItemV)) (rest : List (List ItemV)) (ps : List Int) (k : Nat) : (alTo ws rest ps k).length = csTo ws rest ps k := by
  unfold alTo csTo
  rw [List.length_flatMap]
  congr 1
  refine List.map_congr_left fun i _ => ?_
  exact al_len ws rest _
theorem stamp_take {ws : List (List ItemV)} {p : List Int} {n j : Nat} (h : j < n) : stampAt ws (p.take n) j = stampAt ws p j := by
  unfold stampAt
  simp only [List.getD_eq_getElem?_getD, List.getElem?_take_of_lt h]
theorem ag_take {ws : List (List ItemV)} {p : List Int} (n : Nat) (h : agB ws p = true) : agB ws (p.take n) = true := by
  refine pair_yes fun i k hi hk => ?_
  rw [List.length_take] at hi
  have := ag_each h (show i < p.length by omega) hk
  unfold pairB at this ⊢
  rw [stamp_take (by omega), stamp_take (by omega)]
  exact this
theorem al_in (ws : List (List ItemV)) : ∀ (rest : List (List ItemV)) (ps : List Int), rest = ws.drop ps.length → ps.length ≤ ws.length → inB ws ps = true → ∀ p ∈ alS ws rest ps, IsCh ws p
  | [], ps, h, hl, hin, p, hp => by
    unfold alS at hp
    split at hp
    · rename_i hag
      obtain rfl := List.mem_singleton.1 hp
      have := List.drop_eq_nil_iff.1 h.symm
      exact ⟨⟨by omega, hin⟩, hag⟩
    · simp at hp
  | win :: rest, ps, h, hl, hin, p, hp => by
    unfold alS at hp
    split at hp
    · obtain ⟨i, hi, hp⟩ := List.mem_flatMap.1 hp
      have hi := List.mem_range.1 hi
      have hw : ws[ps.length]? = some win := by
        have := congrArg List.head? h
        simpa using this.symm
      have hr : rest = ws.drop (ps.length + 1) := by
        have := congrArg List.tail h
        simpa using this
      have hlt : ps.length < ws.length := (List.getElem?_eq_some_iff.1 hw).1
      exact al_in ws rest (ps ++ [(i : Int)]) (by rw [List.length_append]; exact hr) (by rw [List.length_append]; simp; omega) (in_snoc hin hw hi) p hp
    · simp at hp
theorem al_all (ws : List (List ItemV)) : ∀ (rest : List (List ItemV)) (ps : List Int), rest = ws.drop ps.length → ∀ p, IsCh ws p → p.take ps.length = ps → p ∈ alS ws rest ps
  | [], ps, h, p, hp, ht => by
    have hl := List.drop_eq_nil_iff.1 h.symm
    have e : p = ps := by rw [← ht, List.take_of_length_le (by rw [hp.1.1]; exact hl)]
    subst e
    unfold alS
    rw [if_pos hp.2]
    simp
  | win :: rest, ps, h, p, hp, ht => by
    have hw : ws[ps.length]? = some win := by
      have := congrArg List.head? h
      simpa using this.symm
    have hr : rest = ws.drop (ps.length + 1) := by
      have := congrArg List.tail h
      simpa using this
    have hlt : ps.length < ws.length := (List.getElem?_eq_some_iff.1 hw).1
    have hag : agB ws ps = true := by rw [← ht]; exact ag_take _ hp.2
    obtain ⟨q, h1, h2, -⟩ := inR_at hp.1 hlt
    have hwe : ws[ps.length] = win := by rw [List.getElem?_eq_getElem hlt] at hw; exact Option.some.inj hw
    rw [hwe] at h2
    have hpl : ps.length < p.length := by rw [hp.1.1]; exact hlt
    have hq : p[ps.length] = (q : Int) := by
      rw [← h1, List.getD_eq_getElem?_getD, List.getElem?_eq_getElem hpl]
      rfl
    rw [al_more hag]
    refine List.mem_flatMap.2 ⟨q, List.mem_range.2 h2, al_all ws rest (ps ++ [(q : Int)]) (by rw [List.length_append]; exact hr) p hp ?_⟩
    rw [List.length_append, List.length_cons, List.length_nil, List.take_succ_eq_append_getElem hpl, ht, hq]
/-- all of them -/
def alL (ws : List (List ItemV)) : List (List Int) := alS ws ws []
theorem alL_iff (ws : List (List ItemV)) (p : List Int) : p ∈ alL ws ↔ IsCh ws p :=
  ⟨fun h => al_in ws ws [] rfl (Nat.zero_le _) (by simp [inB]) p h, fun h => al_all ws ws [] rfl p h rfl⟩
/-- of each place the greatest number that some choice ahead of i has there (of choice i itself: at the places ahead of k) -/
def MxTo (ws : List (List ItemV)) (bs : List Int) (i k : Nat) : Prop := bs.length = ws.length ∧ (∀ j, j < ws.length → ∃ p, IsCh ws p ∧ p.getD j 0 = bs.getD j 0) ∧
  ∀ a (h : a < (alL ws).length) j, j < ws.length → (a < i ∨ (a = i ∧ j < k)) → (alL ws)[a].getD j 0 ≤ bs.getD j 0
theorem mx_start {ws : List (List ItemV)} {b : List Int} (h : b ∈ alL ws) : MxTo ws b 0 0 := ⟨((alL_iff ws b).1 h).1.1, fun j hj => ⟨b, (alL_iff ws b).1 h, rfl⟩, fun a _ j _ h => by omega⟩
theorem mx_next {ws : List (List ItemV)} {bs : List Int} {i : Nat} (h : MxTo ws bs i ws.length) : MxTo ws bs (i + 1) 0 := ⟨h.1, h.2.1, fun a ha j hj hh => h.2.2 a ha j hj (by omega)⟩
theorem mx_keep {ws : List (List ItemV)} {bs : List Int} {i k : Nat} (h : MxTo ws bs i k) (hi : i < (alL ws).length) (hle : (alL ws)[i].getD k 0 ≤ bs.getD k 0) : MxTo ws bs i (k + 1) := ⟨h.1, h.2.1, fun a ha j hj hh => by
  by_cases e : a = i ∧ j = k
  · obtain ⟨rfl, rfl⟩ := e
    exact hle
  · exact h.2.2 a ha j hj (by omega)⟩
theorem mx_set {ws : List (List ItemV)} {bs : List Int} {i k : Nat} (h : MxTo ws bs i k) (hi : i < (alL ws).length) (hk : k < ws.length) (hlt : bs.getD k 0 < (alL ws)[i].getD k 0) : MxTo ws (bs.set k ((alL ws)[i].getD k 0)) i (k + 1) := by
  have hkl : k < bs.length := by rw [h.1]; exact hk
  refine ⟨by rw [List.length_set]; exact h.1, fun j hj => ?_, fun a ha j hj hh => ?_⟩
  · rw [getD_set bs k j _ hkl]
    split
    · rename_i e
      subst e
      exact ⟨_, (alL_iff ws _).1 (List.getElem_mem hi), rfl⟩
    · exact h.2.1 j hj
  · rw [getD_set bs k j _ hkl]
    by_cases e : j = k
    · subst e
      rw [if_pos rfl]
      by_cases ea : a = i
      · subst ea; exact Int.le_refl _
      · have := h.2.2 a ha j hj (by omega); omega
    · rw [if_neg e]
      exact h.2.2 a ha j hj (by omega)
theorem mx_end {ws : List (List ItemV)} {bs : List Int} (hw : winsB ws = true) (h : MxTo ws bs (alL ws).length 0) : BestIs ws (some bs) := ⟨hw, h.1, fun p hp k hk => by
  obtain ⟨a, ha, rfl⟩ := List.getElem_of_mem ((alL_iff ws p).2 hp)
  exact h.2.2 a ha k hk (.inl ha), fun k hk => h.2.1 k hk⟩
theorem al_none {ws : List (List ItemV)} (h : (alL ws).length = 0) : BestIs ws none := .inr fun p hp => by
  have := (alL_iff ws p).2 hp
  rw [List.eq_nil_of_length_eq_zero h] at this
  simp at this
end Go.Proofs.Ytpiapgjiaeddjaa

set_option linter.unusedVariables false
namespace Go.Proofs.Ytpiapgjiaeddjaa
open Go.RowKit Go.Maps Go.Deep

theorem InRow.typed {B : Nat} {w : World} {v : Value} {ts : List Int} (h : InRow B w v ts) : ∀ g, v.ownBlock = some g → ∃ cur, w.heap[g]? = some (.cells cur 3) := by
  intro g hg
  rcases h.2 with ⟨rfl, _⟩ | ⟨g', cap, cur, rfl, hB, hh, _⟩
  · simp [Value.ownBlock] at hg
  · simp [Value.ownBlock] at hg
    subst hg
    exact ⟨cur, hh⟩
theorem InRow.mono {B B' : Nat} {w : World} {v : Value} {ts : List Int} (h : InRow B w v ts) (hB : B' ≤ B) : InRow B' w v ts := by
  rcases h with ⟨hl, h | ⟨g, cap, cur, rfl, hg, hr⟩⟩
  · exact ⟨hl, .inl h⟩
  · exact ⟨hl, .inr ⟨g, cap, cur, rfl, by omega, hr⟩⟩
theorem int_types {w : World} {g : Nat} {c1 c2 : Array Value} (h1 : w.heap[g]? = some (.cells c1 24)) (h2 : w.heap[g]? = some (.cells c2 3)) : False := by
  rw [h1] at h2
  simp at h2
/-- all blocks of ints are as they were -/
def KeepI (w w' : World) : Prop := ∀ (g : Nat) (cur : Array Value), w.heap[g]? = some (Obj.cells cur 3) → w'.heap[g]? = w.heap[g]?
theorem KeepI.below {w w' : World} (h : Below w.heap.size w w') : KeepI w w' := fun g cur hg => h.block g (Array.getElem?_eq_some_iff.1 hg).1
theorem KeepI.grown {w w' : World} {row : Option Nat} (h : w.grownBy w' row) (hr : ∀ g, row = some g → ∃ cur, w.heap[g]? = some (.cells cur 24)) : KeepI w w' :=
  fun g cur hg => h.block g (Array.getElem?_eq_some_iff.1 hg).1 (fun e => by
    obtain ⟨c2, hc⟩ := hr g e.symm
    exact int_types hc hg)
theorem InRow.keepI {B : Nat} {w w' : World} {v : Value} {ts : List Int} (h : InRow B w v ts) (hk : KeepI w w') : InRow B w' v ts := h.keep (fun g hg => by
  obtain ⟨cur, hc⟩ := h.typed g hg
  exact hk g cur hc)
/-- lists of ints, each a row of one's own -/
structure PsIs (B : Nat) (w : World) (vs : List Value) (xs : List (List Int)) : Prop where
  len : vs.length = xs.length
  el : ∀ i (h : i < vs.length) (h' : i < xs.length), InRow B w vs[i] xs[i]
theorem PsIs.keepI {B : Nat} {w w' : World} {vs : List Value} {xs : List (List Int)} (h : PsIs B w vs xs) (hk : KeepI w w') : PsIs B w' vs xs := ⟨h.len, fun i h1 h2 => (h.el i h1 h2).keepI hk⟩
theorem PsIs.snoc {B : Nat} {w : World} {vs : List Value} {xs : List (List Int)} {x : Value} {ps : List Int} (h : PsIs B w vs xs) (hx : InRow B w x ps) : PsIs B w (vs ++ [x]) (xs ++ [ps]) := by
  have hl := h.len
  refine ⟨by simp [hl], fun i h1 h2 => ?_⟩
  by_cases e : i < vs.length
  · rw [List.getElem_append_left e, List.getElem_append_left (by omega)]
    exact h.el i e (by omega)
  · have e' : i = vs.length := by simp at h1; omega
    subst e'
    simp only [hl, List.getElem_append_right (Nat.le_refl _), Nat.sub_self, List.getElem_cons_zero]
    rw [List.getElem_append_right (by omega)]
    simp only [hl, Nat.sub_self, List.getElem_cons_zero]
    exact hx
/-- a row of lists of ints that one may append to -/
def PsRow (B : Nat) (w : World) (v : Value) (xs : List (List Int)) : Prop := ∃ vs, w.ownsRow B 24 1 v xs.length vs ∧ PsIs B w vs xs
theorem PsRow.nil (B : Nat) (w : World) : PsRow B w (.slice none 0 0) [] := ⟨[], ⟨rfl, .inl ⟨rfl, rfl⟩⟩, rfl, fun i h => by simp at h⟩
theorem PsRow.form {B : Nat} {w : World} {v : Value} {xs : List (List Int)} (h : PsRow B w v xs) : ∃ a c, v = .slice a xs.length c := by
  obtain ⟨vs, ⟨_, ⟨rfl, h0⟩ | ⟨g, cap, cur, rfl, _⟩⟩, _⟩ := h
  · exact ⟨none, 0, by rw [h0]⟩
  · exact ⟨_, cap, rfl⟩
theorem PsRow.ge {B : Nat} {w : World} {v : Value} {xs : List (List Int)} (h : PsRow B w v xs) : ∀ g, v.ownBlock = some g → B ≤ g := by
  intro g hg
  obtain ⟨vs, ⟨_, ⟨rfl, _⟩ | ⟨g', cap, cur, rfl, hB, _⟩⟩, _⟩ := h
  · simp [Value.ownBlock] at hg
  · simp [Value.ownBlock] at hg; omega
theorem own_lt {B s : Nat} {t : TypeId} {n : Nat} {w : World} {v : Value} {vs : List Value} (h : w.ownsRow B t s v n vs) : ∀ g, v.ownBlock = some g → g < w.heap.size := by
  intro g hg
  rcases h.2 with ⟨rfl, _⟩ | ⟨g', cap, cur, rfl, hB, hh, _⟩
  · simp [Value.ownBlock] at hg
  · simp [Value.ownBlock] at hg
    subst hg
    exact (Array.getElem?_eq_some_iff.1 hh).1
theorem own_typed {B s : Nat} {t : TypeId} {n : Nat} {w : World} {v : Value} {vs : List Value} (h : w.ownsRow B t s v n vs) : ∀ g, v.ownBlock = some g → ∃ cur, w.heap[g]? = some (.cells cur t) := by
  intro g hg
  rcases h.2 with ⟨rfl, _⟩ | ⟨g', cap, cur, rfl, hB, hh, _⟩
  · simp [Value.ownBlock] at hg
  · simp [Value.ownBlock] at hg
    subst hg
    exact ⟨cur, hh⟩
theorem own_keep {B s : Nat} {t : TypeId} {n : Nat} {w w' : World} {v : Value} {vs : List Value} (h : w.ownsRow B t s v n vs) (hk : ∀ g, v.ownBlock = some g → w'.heap[g]? = w.heap[g]?) : w'.ownsRow B t s v n vs := by
  rcases h with ⟨hl, h | ⟨g, cap, cur, rfl, hB, hg, hr⟩⟩
  · exact ⟨hl, .inl h⟩
  · exact ⟨hl, .inr ⟨g, cap, cur, rfl, hB, (hk g rfl).trans hg, hr⟩⟩
theorem PsRow.lt {B : Nat} {w : World} {v : Value} {xs : List (List Int)} (h : PsRow B w v xs) : ∀ g, v.ownBlock = some g → g < w.heap.size := by
  obtain ⟨vs, h1, _⟩ := h
  exact own_lt h1
theorem PsRow.up {B : Nat} {w w' : World} {v : Value} {xs : List (List Int)} (h : PsRow B w v xs) (hb : Below w.heap.size w w') : PsRow B w' v xs := by
  obtain ⟨vs, h1, h2⟩ := h
  exact ⟨vs, own_keep h1 (fun g hg => hb.block g (own_lt h1 g hg)), h2.keepI (KeepI.below hb)⟩
/-- one of its lists -/
theorem PsRow.at {B : Nat} {w : World} {a : Option Addr} {n c : Nat} {xs : List (List Int)} (h : PsRow B w (.slice a n c) xs) {i : Nat} (hi : i < xs.length) : ∃ g ya yc, a = some ⟨g, 0, none⟩ ∧ w.cell? ⟨g, i, none⟩ = some (.slice ya xs[i].length yc) ∧ InRow B w (.slice ya xs[i].length yc) xs[i] := by
  obtain ⟨vs, h1, h2⟩ := h
  have hl := h2.len
  have hh := h1
  rcases h1 with ⟨_, ⟨_, h0⟩ | ⟨g, cap, cur, e, hB, hg, hnc, _⟩⟩
  · omega
  · simp only [Value.slice.injEq] at e
    obtain ⟨rfl, rfl, rfl⟩ := e
    have hv : i < vs.length := by omega
    have hr := h2.el i hv hi
    obtain ⟨ya, yc, e⟩ := hr.form
    refine ⟨g, ya, yc, rfl, ?_, e ▸ hr⟩
    rw [hh.cellAt _ (by omega)]
    simp [hv, e]
theorem wpList_psAppend {w : World} {ops : Array Oper} {rest : List Oper} {o : Oper} {a : Act} {Q : Exit → Act → World → Prop} (hgd : o.guard = none) (s x : Operand)
    (ho : o.op = .call { callee := .builtin .append, args := #[s, x], argTypes := #[37, 37] }) (B : Nat) (v : Value) (xs : List (List Int)) (ps : List Int) (ya : Option Addr) (yn yc : Nat) (g : Nat) (hs : a.eval s = v) (hx : a.eval x = .slice (some ⟨g, 0, none⟩) 1 1)
    (hv : PsRow B w v xs) (hy : InRow B w (.slice ya yn yc) ps) (c0 : w.cell? ⟨g, 0, none⟩ = some (.slice ya yn yc)) (hl : xs.length ≤ 1000000) (hB : B ≤ w.heap.size)
    (h : ∀ g' c w', PsRow B w' (.slice (some ⟨g', 0, none⟩) (xs.length + 1) c) (xs ++ [ps]) → w.grownBy w' v.ownBlock → (v.ownBlock = some g' ∨ g' = w.heap.size) → wpList Try.prog ops Q rest (a.put o.dst (.slice (some ⟨g', 0, none⟩) (xs.length + 1) c)) w') : wpList Try.prog ops Q (o :: rest) a w := by
  obtain ⟨i0, hi, hz0, hz1, hz2⟩ := info_parts1 infoFd
  obtain ⟨vs, hv, hp⟩ := hv
  refine wpList_append_lies w hgd s x 37 ho B 24 i0 _ 1 24 Try.underlying37 hi hz0 hz1 hz2 rfl (by decide) v xs.length vs hs hv ⟨g, 0, none⟩ 1 1 [.slice ya yn yc] hx rfl (fun j u hj => by
    match j, hj with
    | 0, hj => simp at hj; subst hj; simpa [Addr.add] using c0) (by intro u hu; simp at hu; rw [hu]; rfl) (by decide) (by unfold maxLen; omega) (by omega) hB w.heap.size rfl ?_
  intro g' cap w' h2 h3 h4 h5
  refine h g' cap w' ⟨vs ++ [.slice ya yn yc], ?_, (hp.snoc hy).keepI (KeepI.grown h3 (own_typed hv))⟩ h3 h4
  rw [List.length_append]
  exact h2
end Go.Proofs.Ytpiapgjiaeddjaa
