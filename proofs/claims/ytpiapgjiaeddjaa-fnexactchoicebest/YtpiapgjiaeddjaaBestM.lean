/-
  The greatest choice that agrees: mathematics.
-/
import Derived.Test.YtpiapgjiaeddjaaMerged25
import Derived.Test.YtpiapgjiaeddjaaMerged29
set_option linter.unusedVariables false
namespace Go.Proofs.Ytpiapgjiaeddjaa
open Go.RowKit Go.Maps Go.Deep

theorem win_items {ns : List ItemV} (h : windowB orderOut ns = true) : ns.length ≤ 4 ∧ ∀ i (hi : i < ns.length), itemB ns[i] = true ∧ (0 < i → aboveB orderOut (ns[i - 1]'(by omega)).a1 ns[i].a1 = true) := by
  simp only [windowB, Bool.and_eq_true, decide_eq_true_eq] at h
  exact ⟨h.1, fun i hi => h.2 i hi hi⟩
theorem win_stamp {ns : List ItemV} (h : windowB orderOut ns = true) {i : Nat} (hi : i < ns.length) : mstampB ns[i].a1 = true := by
  have := ((win_items h).2 i hi).1
  unfold itemB at this
  simp only [Bool.and_eq_true] at this
  exact this.1
/-- within a window versions never go down -/
theorem win_mono {ns : List ItemV} (h : windowB orderOut ns = true) (s : ByteArray) : ∀ j (hj : j < ns.length) i (hi : i ≤ j), getV (ns[i]'(by omega)).a1 s ≤ getV ns[j].a1 s := by
  intro j
  induction j with
  | zero =>
    intro hj i hi
    obtain rfl : i = 0 := by omega
    exact Int.le_refl _
  | succ j ih =>
    intro hj i hi
    by_cases e : i = j + 1
    · subst e; exact Int.le_refl _
    · have h1 := ih (by omega) i (by omega)
      have ha := ((win_items h).2 (j + 1) hj).2 (by omega)
      simp only [Nat.add_sub_cancel] at ha
      unfold aboveB at ha
      simp only [Bool.and_eq_true, beq_iff_eq] at ha
      have ho := (order_less_iff.1 ha.2).2.2.2
      have h2 : getV ns[j].a1 s ≤ getV ns[j + 1].a1 s := by
        refine Classical.byContradiction fun hn => ho ⟨s, by omega⟩
      omega
theorem src_names {xs ys : List MarkV} (hx : mstampB xs = true) (hy : mstampB ys = true) (h : srcB xs ys = true) (s : ByteArray) : 0 < getV xs s ↔ 0 < getV ys s := by
  unfold srcB at h
  simp only [decide_eq_true_eq] at h
  have key : ∀ {xs ys : List MarkV}, mstampB xs = true → mstampB ys = true → xs.map (·.a0) = ys.map (·.a0) → 0 < getV xs s → 0 < getV ys s := by
    intro xs ys hx hy h hp
    obtain ⟨x, hm, e⟩ := getV_in (ns := xs) (s := s) (by omega)
    have hin : s ∈ ys.map (·.a0) := by rw [← h, ← e]; exact List.mem_map.2 ⟨x, hm, rfl⟩
    obtain ⟨y, hy', ey⟩ := List.mem_map.1 hin
    have := getV_pos (asc_of_stamp hy) (pos_of_stamp hy) (s := s) ⟨y, hy', ey⟩
    omega
  exact ⟨key hx hy h, key hy hx h.symm⟩
theorem win_same {ns : List ItemV} (h : windowB orderOut ns = true) (s : ByteArray) : ∀ j (hj : j < ns.length) (h0 : 0 < ns.length), 0 < getV ns[j].a1 s ↔ 0 < getV ns[0].a1 s := by
  intro j
  induction j with
  | zero => intro hj h0; exact Iff.rfl
  | succ j ih =>
    intro hj h0
    have ha := ((win_items h).2 (j + 1) hj).2 (by omega)
    simp only [Nat.add_sub_cancel] at ha
    unfold aboveB at ha
    simp only [Bool.and_eq_true] at ha
    rw [← src_names (win_stamp h (by omega)) (win_stamp h hj) ha.1 s]
    exact ih (by omega) h0

/-- what a choice has of a source, by window -/
def verC (ws : List (List ItemV)) (ps : List Int) (i : Nat) (s : ByteArray) : Int := getV (stampAt ws ps i) s
def InR (ws : List (List ItemV)) (ps : List Int) : Prop := ps.length = ws.length ∧ inB ws ps = true
def IsCh (ws : List (List ItemV)) (ps : List Int) : Prop := InR ws ps ∧ agB ws ps = true
theorem inR_at {ws : List (List ItemV)} {ps : List Int} (h : InR ws ps) {i : Nat} (hi : i < ws.length) : ∃ q : Nat, ps.getD i 0 = (q : Int) ∧ q < ws[i].length ∧ stampAt ws ps i = (ws[i][q]?.map (fun x => x.a1)).getD [] := by
  have hp := in_each h.2 (by rw [h.1]; exact hi)
  unfold placeB at hp
  simp only [Bool.and_eq_true, decide_eq_true_eq] at hp
  have hw : ws.getD i [] = ws[i] := by rw [List.getD_eq_getElem?_getD, List.getElem?_eq_getElem hi]; rfl
  rw [hw] at hp
  refine ⟨(ps.getD i 0).toNat, by omega, by omega, ?_⟩
  unfold stampAt
  rw [hw]
theorem inR_stamp {ws : List (List ItemV)} {ps : List Int} (hw : winsB ws = true) (h : InR ws ps) {i : Nat} (hi : i < ws.length) : ∃ (q : Nat) (hq : q < ws[i].length), ps.getD i 0 = (q : Int) ∧ stampAt ws ps i = ws[i][q].a1 ∧ mstampB (stampAt ws ps i) = true ∧ windowB orderOut ws[i] = true := by
  obtain ⟨q, h1, h2, h3⟩ := inR_at h hi
  have hwin := winsB_each hw _ (List.getElem_mem hi)
  rw [List.getElem?_eq_getElem h2, Option.map_some, Option.getD_some] at h3
  exact ⟨q, h2, h1, h3, by rw [h3]; exact win_stamp hwin h2, hwin⟩
theorem ver_mono {ws : List (List ItemV)} {p q : List Int} (hw : winsB ws = true) (hp : InR ws p) (hq : InR ws q) {i : Nat} (hi : i < ws.length) (hle : p.getD i 0 ≤ q.getD i 0) (s : ByteArray) : verC ws p i s ≤ verC ws q i s := by
  obtain ⟨a, ha, e1, e2, -, hwin⟩ := inR_stamp hw hp hi
  obtain ⟨b, hb, f1, f2, -, -⟩ := inR_stamp hw hq hi
  unfold verC
  rw [e2, f2]
  exact win_mono hwin s b hb a (by omega)
theorem ver_has {ws : List (List ItemV)} {p q : List Int} (hw : winsB ws = true) (hp : InR ws p) (hq : InR ws q) {i : Nat} (hi : i < ws.length) (s : ByteArray) : 0 < verC ws p i s ↔ 0 < verC ws q i s := by
  obtain ⟨a, ha, e1, e2, -, hwin⟩ := inR_stamp hw hp hi
  obtain ⟨b, hb, f1, f2, -, -⟩ := inR_stamp hw hq hi
  unfold verC
  rw [e2, f2, win_same hwin s a ha (by omega), win_same hwin s b hb (by omega)]
theorem pair_agr {ws : List (List ItemV)} {ps : List Int} (hw : winsB ws = true) (h : InR ws ps) {i k : Nat} (hi : i < ws.length) (hk : k < ws.length) : pairB ws ps i k = true ↔ ∀ s, 0 < verC ws ps i s → 0 < verC ws ps k s → verC ws ps i s = verC ws ps k s := by
  obtain ⟨-, -, -, -, h1, -⟩ := inR_stamp hw h hi
  obtain ⟨-, -, -, -, h2, -⟩ := inR_stamp hw h hk
  unfold pairB agreeOut
  rw [h1, h2, Bool.true_and, Bool.true_and, agree_iff (asc_of_stamp h1) (asc_of_stamp h2)]
  rfl
theorem ag_all {ws : List (List ItemV)} {ps : List Int} (hw : winsB ws = true) (h : InR ws ps) : agB ws ps = true ↔ ∀ i k, i < ws.length → k < ws.length → ∀ s, 0 < verC ws ps i s → 0 < verC ws ps k s → verC ws ps i s = verC ws ps k s := by
  constructor
  · intro ha i k hi hk s h1 h2
    rcases Nat.lt_trichotomy i k with hl | hl | hl
    · exact ((pair_agr hw h hk hi).1 (ag_each ha (by rw [h.1]; exact hk) hl) s h2 h1).symm
    · subst hl; rfl
    · exact (pair_agr hw h hi hk).1 (ag_each ha (by rw [h.1]; exact hi) hl) s h1 h2
  · intro ha
    refine pair_yes fun i k hi hk => ?_
    rw [h.1] at hi
    exact (pair_agr hw h hi (by omega)).2 fun s => ha i k hi (by omega) s
/-- no choice that agrees is anywhere ahead of q -/
def UB (ws : List (List ItemV)) (q : List Int) : Prop := ∀ p, IsCh ws p → ∀ k, k < ws.length → p.getD k 0 ≤ q.getD k 0
theorem getD_set (l : List Int) (a k : Nat) (v : Int) (ha : a < l.length) : (l.set a v).getD k 0 = if k = a then v else l.getD k 0 := by
  simp only [List.getD_eq_getElem?_getD, List.getElem?_set]
  by_cases e : k = a
  · subst e; simp [ha]
  · rw [if_neg (fun h => e h.symm), if_neg e]
/-- where one window has a later version than another, no choice that agrees has that item -/
theorem late_below {ws : List (List ItemV)} {q : List Int} (hw : winsB ws = true) (hq : InR ws q) (hu : UB ws q) {a b : Nat} (ha : a < ws.length) (hb : b < ws.length) {s : ByteArray} (h0 : 0 < verC ws q b s) (hlt : verC ws q b s < verC ws q a s) : ∀ p, IsCh ws p → p.getD a 0 < q.getD a 0 := by
  intro p hp
  have h1 := hu p hp a ha
  refine Classical.byContradiction fun hn => ?_
  have e : p.getD a 0 = q.getD a 0 := by omega
  have m1 := ver_mono hw hq hp.1 ha (by omega) s
  have m2 := ver_mono hw hp.1 hq hb (hu p hp b hb) s
  have p1 := (ver_has hw hp.1 hq hb s).2 h0
  have p2 : 0 < verC ws p a s := by omega
  have := (ag_all hw hp.1).1 hp.2 a b ha hb s p2 p1
  omega
theorem late_step {ws : List (List ItemV)} {q : List Int} (hw : winsB ws = true) (hq : InR ws q) (hu : UB ws q) {a b : Nat} (ha : a < ws.length) (hb : b < ws.length) {s : ByteArray} (h0 : 0 < verC ws q b s) (hlt : verC ws q b s < verC ws q a s) :
    (q.getD a 0 = 0 → ∀ p, ¬ IsCh ws p) ∧ (q.getD a 0 ≠ 0 → InR ws (q.set a (q.getD a 0 - 1)) ∧ UB ws (q.set a (q.getD a 0 - 1))) := by
  have hl := late_below hw hq hu ha hb h0 hlt
  constructor
  · intro hz p hp
    have := hl p hp
    obtain ⟨x, hx, -⟩ := inR_at hp.1 ha
    omega
  · intro hz
    have hal : a < q.length := by rw [hq.1]; exact ha
    refine ⟨⟨by rw [List.length_set]; exact hq.1, place_yes fun k hk => ?_⟩, fun p hp k hk => ?_⟩
    · rw [List.length_set] at hk
      have hp := in_each hq.2 hk
      unfold placeB at hp ⊢
      simp only [Bool.and_eq_true, decide_eq_true_eq] at hp ⊢
      rw [getD_set q a k _ hal]
      split
      · rename_i e; subst e; omega
      · exact hp
    · rw [getD_set q a k _ hal]
      split
      · rename_i e; subst e; have := hl p hp; omega
      · exact hu p hp k hk
/-- where all windows that share a source have one version of it, the choice agrees -/
theorem even_agrees {ws : List (List ItemV)} {q : List Int} (hw : winsB ws = true) (hq : InR ws q) (h : ∀ s a b, a < ws.length → b < ws.length → 0 < verC ws q a s → 0 < verC ws q b s → ¬ verC ws q b s < verC ws q a s) : IsCh ws q := by
  refine ⟨hq, (ag_all hw hq).2 fun i k hi hk s h1 h2 => ?_⟩
  have := h s i k hi hk h1 h2
  have := h s k i hk hi h2 h1
  omega
/-- the last items -/
def lasts (ws : List (List ItemV)) : List Int := ws.map fun w => (w.length : Int) - 1
theorem lasts_in {ws : List (List ItemV)} (h : ∀ w ∈ ws, w ≠ []) : InR ws (lasts ws) ∧ UB ws (lasts ws) := by
  have hg : ∀ k (hk : k < ws.length), (lasts ws).getD k 0 = (ws[k].length : Int) - 1 := by
    intro k hk
    unfold lasts
    simp [List.getD_eq_getElem?_getD, hk]
  refine ⟨⟨by simp [lasts], place_yes fun k hk => ?_⟩, fun p hp k hk => ?_⟩
  · have hk' : k < ws.length := by simpa [lasts] using hk
    have := List.length_pos_iff.2 (h _ (List.getElem_mem hk'))
    unfold placeB
    rw [hg k hk', show ws.getD k [] = ws[k] by rw [List.getD_eq_getElem?_getD, List.getElem?_eq_getElem hk']; rfl]
    simp only [Bool.and_eq_true, decide_eq_true_eq]
    omega
  · rw [hg k hk]
    obtain ⟨q, h1, h2, -⟩ := inR_at hp.1 hk
    omega
theorem empty_none {ws : List (List ItemV)} (h : ∃ w ∈ ws, w = []) : ∀ p, ¬ IsCh ws p := by
  intro p hp
  obtain ⟨w, hw, rfl⟩ := h
  obtain ⟨i, hi, e⟩ := List.getElem_of_mem hw
  obtain ⟨q, h1, h2, -⟩ := inR_at hp.1 hi
  rw [e] at h2
  simp at h2
/-- the greatest choice, if there is one -/
def BestIs (ws : List (List ItemV)) : Option (List Int) → Prop
  | none => winsB ws = false ∨ ∀ p, ¬ IsCh ws p
  | some b => winsB ws = true ∧ b.length = ws.length ∧ UB ws b ∧ ∀ k, k < ws.length → ∃ p, IsCh ws p ∧ p.getD k 0 = b.getD k 0
theorem best_same {ws : List (List ItemV)} (h1 : 1 ≤ ws.length ∨ winsB ws = false) {o o' : Option (List Int)} (h : BestIs ws o) (h' : BestIs ws o') : o = o' := by
  cases o with
  | none =>
    cases o' with
    | none => rfl
    | some b =>
      obtain ⟨g1, g2, g3, g4⟩ := h'
      rcases h with h | h
      · rw [h] at g1; cases g1
      · have : 1 ≤ ws.length := (winsB_len g1).1
        obtain ⟨p, hp, -⟩ := g4 0 (by omega)
        exact absurd hp (h p)
  | some b =>
    obtain ⟨g1, g2, g3, g4⟩ := h
    cases o' with
    | none =>
      rcases h' with h | h
      · rw [h] at g1; cases g1
      · have : 1 ≤ ws.length := (winsB_len g1).1
        obtain ⟨p, hp, -⟩ := g4 0 (by omega)
        exact absurd hp (h p)
    | some c =>
      obtain ⟨k1, k2, k3, k4⟩ := h'
      congr 1
      refine List.ext_getElem (by omega) fun i h1 h2 => ?_
      have hi : i < ws.length := by omega
      obtain ⟨p, hp, e⟩ := g4 i hi
      obtain ⟨q, hq, f⟩ := k4 i hi
      have a1 := k3 p hp i hi
      have a2 := g3 q hq i hi
      have b1 : b.getD i 0 = b[i] := by rw [List.getD_eq_getElem?_getD, List.getElem?_eq_getElem h1]; rfl
      have c1 : c.getD i 0 = c[i] := by rw [List.getD_eq_getElem?_getD, List.getElem?_eq_getElem h2]; rfl
      omega
/-- a choice that agrees and is nowhere behind is the greatest -/
theorem best_of_top {ws : List (List ItemV)} {q : List Int} (hw : winsB ws = true) (h : IsCh ws q) (hu : UB ws q) : BestIs ws (some q) := ⟨hw, h.1.1, hu, fun k _ => ⟨q, h, rfl⟩⟩
open Classical in
noncomputable def bestO (ws : List (List ItemV)) : Option (List Int) := if h : ∃ o, BestIs ws o then Classical.choose h else none
theorem best_is {ws : List (List ItemV)} {o : Option (List Int)} (h : BestIs ws o) : bestO ws = o := by
  have hx : ∃ o, BestIs ws o := ⟨o, h⟩
  have e : bestO ws = Classical.choose hx := by unfold bestO; rw [dif_pos hx]
  rw [e]
  refine best_same ?_ (Classical.choose_spec hx) h
  cases hw : winsB ws
  · exact .inr rfl
  · exact .inl (winsB_len hw).1
noncomputable def bestV (ws : List (List ItemV)) : List Int := (bestO ws).getD []
noncomputable def bestB (ws : List (List ItemV)) : Bool := (bestO ws).isSome
theorem best_yes {ws : List (List ItemV)} {b : List Int} (h : BestIs ws (some b)) : bestV ws = b ∧ bestB ws = true := by
  unfold bestV bestB
  rw [best_is h]
  exact ⟨rfl, rfl⟩
theorem best_no {ws : List (List ItemV)} (h : BestIs ws none) : bestV ws = [] ∧ bestB ws = false := by
  unfold bestV bestB
  rw [best_is h]
  exact ⟨rfl, rfl⟩
end Go.Proofs.Ytpiapgjiaeddjaa
