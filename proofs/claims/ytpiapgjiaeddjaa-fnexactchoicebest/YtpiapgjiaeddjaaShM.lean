/-
  Which windows share a source: mathematics, and the lists that a map holds of them.
-/
import Derived.Test.YtpiapgjiaeddjaaBestM
import Derived.Test.YtpiapgjiaeddjaaHdMap
set_option linter.unusedVariables false
namespace Go.Proofs.Ytpiapgjiaeddjaa
open Go.RowKit Go.Maps Go.Deep

/-- the stamp of a window's first item -/
def frst (ws : List (List ItemV)) (a : Nat) : List MarkV := (((ws.getD a [])[0]?).map (fun x => x.a1)).getD []
def namB (ns : List MarkV) (s : ByteArray) : Bool := ns.any (fun (x : MarkV) => decide (x.a0 = s))
/-- the windows ahead of i that have a source, and i too if it is among its first j -/
def shr (ws : List (List ItemV)) (i j : Nat) (s : ByteArray) : List Int := ((List.range i).filter (fun a => namB (frst ws a) s)).map Int.ofNat ++ (if namB ((frst ws i).take j) s then [(i : Int)] else [])
theorem namB_nil (s : ByteArray) : namB [] s = false := by simp [namB]
theorem shr_zero (ws : List (List ItemV)) (s : ByteArray) : shr ws 0 0 s = [] := by simp [shr, namB_nil]
theorem shr_next (ws : List (List ItemV)) (i : Nat) (s : ByteArray) : shr ws i (frst ws i).length s = shr ws (i + 1) 0 s := by
  unfold shr
  rw [List.take_length, List.take_zero, namB_nil, List.range_succ, List.filter_append, List.map_append]
  cases h : namB (frst ws i) s <;> simp [h]
theorem namB_step {ns : List MarkV} {j : Nat} (ha : AscM ns) (hj : j < ns.length) : namB (ns.take j) ns[j].a0 = false ∧ namB (ns.take (j + 1)) ns[j].a0 = true ∧ ∀ s, s ≠ ns[j].a0 → namB (ns.take (j + 1)) s = namB (ns.take j) s := by
  have ht : ns.take (j + 1) = ns.take j ++ [ns[j]] := List.take_succ_eq_append_getElem hj
  have has := asc_snoc (xs := ns.take j) (x := ns[j]) (by rw [← ht]; exact asc_take ha _)
  refine ⟨?_, ?_, fun s hs => ?_⟩
  · unfold namB
    rw [List.any_eq_false]
    intro y hy
    simpa using less_ne (has.2 y hy)
  · unfold namB
    rw [List.any_eq_true]
    exact ⟨ns[j], by rw [ht]; exact List.mem_append_right _ (List.mem_singleton.2 rfl), by simp⟩
  · unfold namB
    rw [ht, List.any_append]
    simp [Ne.symm hs]
theorem shr_step {ws : List (List ItemV)} {i j : Nat} (ha : AscM (frst ws i)) (hj : j < (frst ws i).length) : shr ws i (j + 1) (frst ws i)[j].a0 = shr ws i j (frst ws i)[j].a0 ++ [(i : Int)] ∧ ∀ s, s ≠ (frst ws i)[j].a0 → shr ws i (j + 1) s = shr ws i j s := by
  obtain ⟨h1, h2, h3⟩ := namB_step ha hj
  refine ⟨?_, fun s hs => ?_⟩
  · unfold shr
    rw [h1, h2]
    simp
  · unfold shr
    rw [h3 s hs]
theorem shr_len (ws : List (List ItemV)) (i j : Nat) (s : ByteArray) : (shr ws i j s).length ≤ i + 1 := by
  unfold shr
  rw [List.length_append, List.length_map]
  have := List.length_filter_le (fun a => namB (frst ws a) s) (List.range i)
  rw [List.length_range] at this
  split <;> simp <;> omega
theorem shr_mem {ws : List (List ItemV)} {n : Nat} {s : ByteArray} {x : Int} : x ∈ shr ws n 0 s ↔ ∃ a : Nat, x = (a : Int) ∧ a < n ∧ namB (frst ws a) s = true := by
  unfold shr
  rw [List.take_zero, namB_nil]
  simp only [Bool.false_eq_true, if_false, List.append_nil, List.mem_map, List.mem_filter, List.mem_range]
  constructor
  · rintro ⟨a, ⟨h1, h2⟩, rfl⟩
    exact ⟨a, rfl, h1, h2⟩
  · rintro ⟨a, rfl, h1, h2⟩
    exact ⟨a, ⟨h1, h2⟩, rfl⟩
theorem shr_nodup (ws : List (List ItemV)) (n : Nat) (s : ByteArray) : (shr ws n 0 s).Nodup := by
  unfold shr
  rw [List.take_zero, namB_nil]
  simp only [Bool.false_eq_true, if_false, List.append_nil]
  exact List.pairwise_map.2 ((List.nodup_range.filter _).imp (fun h e => h (Int.ofNat.inj e)))
/-- a window has a source just if a choice's stamp there has it -/
theorem nam_ver {ws : List (List ItemV)} {q : List Int} (hw : winsB ws = true) (hq : InR ws q) {a : Nat} (ha : a < ws.length) (s : ByteArray) : namB (frst ws a) s = true ↔ 0 < verC ws q a s := by
  obtain ⟨k, hk, e1, e2, -, hwin⟩ := inR_stamp hw hq ha
  have h0 : 0 < ws[a].length := by omega
  have hf : frst ws a = ws[a][0].a1 := by
    unfold frst
    rw [show ws.getD a [] = ws[a] by rw [List.getD_eq_getElem?_getD, List.getElem?_eq_getElem ha]; rfl, List.getElem?_eq_getElem h0]
    rfl
  have hst := win_stamp hwin h0
  unfold verC
  rw [e2, win_same hwin s k hk h0, hf]
  unfold namB
  rw [List.any_eq_true]
  constructor
  · rintro ⟨y, hy, e⟩
    have := getV_pos (asc_of_stamp hst) (pos_of_stamp hst) (s := s) ⟨y, hy, by simpa using e⟩
    omega
  · intro h
    obtain ⟨x, hm, e⟩ := getV_in (ns := ws[a][0].a1) (s := s) (by omega)
    exact ⟨x, hm, by simpa using e⟩
/-- each key's list, in a row of its own that is not the row pr -/
structure ShRows (B : Nat) (w : World) (G : ByteArray → Hd) (sh : ByteArray → List Int) (pr : Option Nat) : Prop where
  row : ∀ s, InRow B w (hdV (G s)) (sh s)
  non : ∀ s, G s ≠ none → sh s ≠ []
  far : ∀ s s' g, (hdV (G s)).ownBlock = some g → (hdV (G s')).ownBlock = some g → s = s'
  off : ∀ s g, (hdV (G s)).ownBlock = some g → pr ≠ some g
theorem InRow.none (B : Nat) (w : World) : InRow B w (.slice none 0 0) [] := ⟨rfl, .inl ⟨rfl, rfl⟩⟩
theorem ShRows.start (B : Nat) (w : World) (sh : ByteArray → List Int) (hs : ∀ s, sh s = []) (pr : Option Nat) : ShRows B w (fun _ => none) sh pr :=
  ⟨fun s => by rw [hs]; exact InRow.none B w, fun s h => absurd rfl h, fun s s' g h => by simp [hdV, Value.ownBlock] at h, fun s g h => by simp [hdV, Value.ownBlock] at h⟩
theorem ShRows.keep {B : Nat} {w w' : World} {G : ByteArray → Hd} {sh : ByteArray → List Int} {pr : Option Nat} (h : ShRows B w G sh pr) (hk : ∀ s g, (hdV (G s)).ownBlock = some g → w'.heap[g]? = w.heap[g]?) : ShRows B w' G sh pr :=
  ⟨fun s => (h.row s).keep (hk s), h.non, h.far, h.off⟩
theorem ShRows.up {B : Nat} {w w' : World} {G : ByteArray → Hd} {sh : ByteArray → List Int} {pr : Option Nat} (h : ShRows B w G sh pr) (hb : Below w.heap.size w w') : ShRows B w' G sh pr := h.keep fun s g hg => hb.block g ((h.row s).lt g hg)
theorem ShRows.grown {B : Nat} {w w' : World} {G : ByteArray → Hd} {sh : ByteArray → List Int} {pr : Option Nat} (h : ShRows B w G sh pr) (hg : w.grownBy w' pr) : ShRows B w' G sh pr := h.keep fun s g he => hg.block g ((h.row s).lt g he) (fun e => h.off s g he e.symm)
/-- another row to keep off: the old one, or a new one -/
theorem ShRows.aim {B : Nat} {w : World} {G : ByteArray → Hd} {sh : ByteArray → List Int} {pr pr' : Option Nat} (h : ShRows B w G sh pr) (hp : ∀ g, pr' = some g → pr = some g ∨ w.heap.size ≤ g) : ShRows B w G sh pr' :=
  ⟨h.row, h.non, h.far, fun s g hg e => by
    rcases hp g e with e' | e'
    · exact h.off s g hg e'
    · have := (h.row s).lt g hg; omega⟩
theorem ShRows.turn {B : Nat} {S : List Nat} {w w' : World} {G : ByteArray → Hd} {sh : ByteArray → List Int} {pr : Option Nat} (h : ShRows B w G sh pr) (t : Turn S w w') (hS : ∀ k ∈ S, k < B ∨ pr = some k) : ShRows B w' G sh pr := h.keep fun s g hg => t.block g ((h.row s).lt g hg) (fun hm => by
  rcases hS g hm with e | e
  · have := (h.row s).ge g hg; omega
  · exact h.off s g hg e)
/-- one key's list has grown, and the map has been told -/
theorem ShRows.put {B b : Nat} {w w1 w2 : World} {G : ByteArray → Hd} {sh sh' : ByteArray → List Int} {pr : Option Nat} (h : ShRows B w G sh pr) {s : ByteArray} {y : Int} {g n c : Nat} (hb : b < B) (hp : ∀ p, pr = some p → p < w.heap.size)
    (hr : InRow B w1 (.slice (some ⟨g, 0, none⟩) n c) (sh s ++ [y])) (hg : w.grownBy w1 (hdV (G s)).ownBlock) (hl : (hdV (G s)).ownBlock = some g ∨ w.heap.size ≤ g) (h2 : w1.grownBy w2 (some b)) (hs : sh' s = sh s ++ [y]) (ho : ∀ s', s' ≠ s → sh' s' = sh s') :
    ShRows B w2 (setG G s (g, n, c)) sh' pr := by
  have hgB : B ≤ g := hr.ge g rfl
  have new : ∀ s', s' ≠ s → ∀ k, (hdV (G s')).ownBlock = some k → k ≠ g := fun s' hne k hk e => by
    subst e
    rcases hl with e | e
    · exact hne (h.far s' s k hk e)
    · have := (h.row s').lt k hk; omega
  refine ⟨fun s' => ?_, fun s' hn => ?_, fun s1 s2 k h1 h2 => ?_, fun s' k hk e => ?_⟩
  · unfold setG
    by_cases e : s' = s
    · subst e
      rw [if_pos rfl, hs]
      exact hr.keep fun k hk => h2.block k (hr.lt k hk) (fun e => by have := hr.ge k hk; simp only [Option.some.injEq] at e; omega)
    · rw [if_neg e, ho s' e]
      have r1 := (h.row s').keep (w' := w1) fun k hk => hg.block k ((h.row s').lt k hk) (fun e' => e (h.far s' s k hk e'.symm))
      exact r1.keep fun k hk => h2.block k (r1.lt k hk) (fun e => by have := r1.ge k hk; simp only [Option.some.injEq] at e; omega)
  · by_cases e : s' = s
    · subst e; rw [hs]; simp
    · rw [ho s' e]
      refine h.non s' ?_
      unfold setG at hn
      rwa [if_neg e] at hn
  · unfold setG at h1 h2
    by_cases e1 : s1 = s <;> by_cases e2 : s2 = s
    · rw [e1, e2]
    · rw [if_pos e1] at h1
      rw [if_neg e2] at h2
      simp only [hdV, Value.ownBlock, Option.some.injEq] at h1
      exact absurd h1.symm (new s2 e2 k h2)
    · rw [if_neg e1] at h1
      rw [if_pos e2] at h2
      simp only [hdV, Value.ownBlock, Option.some.injEq] at h2
      exact absurd h2.symm (new s1 e1 k h1)
    · rw [if_neg e1] at h1
      rw [if_neg e2] at h2
      exact h.far s1 s2 k h1 h2
  · unfold setG at hk
    by_cases e1 : s' = s
    · rw [if_pos e1] at hk
      simp only [hdV, Value.ownBlock, Option.some.injEq] at hk
      subst hk
      rcases hl with e' | e'
      · exact h.off s g e' e
      · have := hp g e; omega
    · rw [if_neg e1] at hk
      exact h.off s' k hk e
end Go.Proofs.Ytpiapgjiaeddjaa
