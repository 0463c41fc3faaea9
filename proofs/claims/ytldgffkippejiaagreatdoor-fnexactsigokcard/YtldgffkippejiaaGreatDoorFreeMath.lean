/-
  The names that a tree asks for, as plain mathematics: in the order in which they stand; put one by one where they belong; sorted, and each once.
-/
import Derived.Test.YtldgffkippejiaaGreatDoorMerged14
import Derived.Lib.SlicesCompact
import Derived.Sort.Walk0
namespace Go.Proofs.YtldgffkippejiaaGreatDoor
open Go.RowKit Go.Maps Go.Deep

def ltB (a b : ByteArray) : Bool := Op.bytesLess a.toList b.toList
def hasB (ts : List ByteArray) (s : ByteArray) : Bool := ts.any fun t => t.data == s.data
theorem hasB_iff (ts : List ByteArray) (s : ByteArray) : hasB ts s = true ↔ s ∈ ts := by
  unfold hasB
  rw [List.any_eq_true]
  constructor
  · rintro ⟨t, ht, h⟩
    have : t = s := by cases t; cases s; simp_all
    rw [← this]; exact ht
  · intro h
    exact ⟨s, h, by simp⟩
/-- one name put where it belongs -/
def addS (ts : List ByteArray) (s : ByteArray) : List ByteArray := if hasB ts s then ts else ts.takeWhile (fun t => !ltB s t) ++ s :: ts.dropWhile (fun t => !ltB s t)
/-- what is known within the i-th kid -/
def knownAt (k : Int) (nm : ByteArray) (bs : List ByteArray) (i : Nat) : List ByteArray := if (k = 22 ∧ i = 1) ∨ (k = 23 ∧ i = 2) then bs ++ [nm] else bs
/-- the names that stand free in a forest's trees, the i-th tree under its own known names -/
def freeF : BT NodeV → (Nat → List ByteArray) → Nat → List ByteArray
  | .nil, _, _ => []
  | .node _ _ x l r, bf, i => (if x.kind = 2 then (if hasB (bf i) x.name then [] else [x.name]) else freeF l (knownAt x.kind x.name (bf i)) 0) ++ freeF r bf (i + 1)
def freeT (x : NodeV) (l : BT NodeV) (bs : List ByteArray) : List ByteArray := if x.kind = 2 then (if hasB bs x.name then [] else [x.name]) else freeF l (knownAt x.kind x.name bs) 0
theorem freeF_node (b o : Nat) (x : NodeV) (l r : BT NodeV) (bf : Nat → List ByteArray) (i : Nat) : freeF (.node b o x l r) bf i = freeT x l (bf i) ++ freeF r bf (i + 1) := rfl
theorem freeF_app (f g : BT NodeV) (bf : Nat → List ByteArray) : ∀ i, freeF (app f g) bf i = freeF f bf i ++ freeF g bf (i + cnt f) := by
  induction f with
  | nil => intro i; rfl
  | node b o x l r _ ih =>
    intro i
    have e : i + 1 + cnt r = i + cnt (.node b o x l r) := by simp only [cnt]; omega
    rw [app, freeF_node, freeF_node, ih, e, List.append_assoc]
theorem freeF_snoc (d : BT NodeV) (b o : Nat) (y : NodeV) (m : BT NodeV) (bf : Nat → List ByteArray) : freeF (app d (.node b o y m .nil)) bf 0 = freeF d bf 0 ++ freeT y m (bf (cnt d)) := by
  rw [freeF_app, Nat.zero_add, freeF_node]
  simp [freeF]
/-- how many there are at most -/
theorem freeF_len (f : BT NodeV) : ∀ bf i, (freeF f bf i).length ≤ (fl f).length := by
  induction f with
  | nil => intro bf i; simp [freeF, fl]
  | node b o x l r ihl ihr =>
    intro bf i
    have h1 := ihl (knownAt x.kind x.name (bf i)) 0
    have h2 := ihr bf (i + 1)
    simp only [freeF, List.length_append, fl, List.length_cons]
    split
    · split <;> simp <;> omega
    · omega
theorem freeT_len (x : NodeV) (l : BT NodeV) (bs : List ByteArray) : (freeT x l bs).length ≤ (fl l).length + 1 := by
  have := freeF_len l (knownAt x.kind x.name bs) 0
  unfold freeT
  split
  · split <;> simp
  · omega

/-! order -/
abbrev key (s : ByteArray) : List UInt8 := s.data.toList
theorem key_inj {a b : ByteArray} (h : key a = key b) : a = b := by
  cases a; cases b
  simp only [key] at h
  congr
  exact Array.toList_inj.1 h
theorem toList_key (a : ByteArray) : a.toList = key a := ByteArray.toList_eq a
theorem ltB_eq (a b : ByteArray) : ltB a b = decide (key a < key b) := by
  unfold ltB
  rw [Proofs.bytesLess_eq, toList_key, toList_key]
theorem lt_irr (a : List UInt8) : ¬ a < a := List.lt_irrefl a
theorem lt_asy {a b : List UInt8} (h : a < b) : ¬ b < a := List.lt_asymm h
theorem lt_tr {a b c : List UInt8} (h : a < b) (h' : b < c) : a < c := List.lt_trans h h'
theorem lt_or {a b : List UInt8} (h : a ≠ b) : a < b ∨ b < a := by
  by_cases h1 : a < b
  · exact .inl h1
  · by_cases h2 : b < a
    · exact .inr h2
    · exact absurd (List.le_antisymm (List.not_lt.1 h2) (List.not_lt.1 h1)) h
/-- two lists that rise and have the same members are one -/
theorem rise_ext : ∀ (l m : List (List UInt8)), l.Pairwise (· < ·) → m.Pairwise (· < ·) → (∀ x, x ∈ l ↔ x ∈ m) → l = m := by
  intro l
  induction l with
  | nil =>
    intro m _ _ h
    cases m with
    | nil => rfl
    | cons b m => exact absurd ((h b).2 (by simp)) (by simp)
  | cons a l ih =>
    intro m hl hm h
    cases m with
    | nil => exact absurd ((h a).1 (by simp)) (by simp)
    | cons b m =>
      rw [List.pairwise_cons] at hl hm
      have hab : a = b := by
        by_cases e : a = b
        · exact e
        · have ha : a ∈ m := by
            rcases List.mem_cons.1 ((h a).1 (by simp)) with h' | h'
            · exact absurd h' e
            · exact h'
          have hb : b ∈ l := by
            rcases List.mem_cons.1 ((h b).2 (by simp)) with h' | h'
            · exact absurd h'.symm e
            · exact h'
          exact absurd (hl.1 b hb) (lt_asy (hm.1 a ha))
      subst hab
      rw [ih m hl.2 hm.2]
      intro x
      constructor
      · intro hx
        rcases List.mem_cons.1 ((h x).1 (List.mem_cons_of_mem _ hx)) with rfl | h'
        · exact absurd (hl.1 x hx) (lt_irr _)
        · exact h'
      · intro hx
        rcases List.mem_cons.1 ((h x).2 (List.mem_cons_of_mem _ hx)) with rfl | h'
        · exact absurd (hm.1 x hx) (lt_irr _)
        · exact h'
def Rising (ts : List ByteArray) : Prop := (ts.map key).Pairwise (· < ·)
theorem add_mem (ts : List ByteArray) (s x : ByteArray) : x ∈ addS ts s ↔ x ∈ ts ∨ x = s := by
  unfold addS
  split
  · rename_i h
    rw [hasB_iff] at h
    constructor
    · exact .inl
    · rintro (h' | rfl)
      · exact h'
      · exact h
  · rw [List.mem_append, List.mem_cons]
    have : x ∈ ts ↔ x ∈ ts.takeWhile (fun t => !ltB s t) ∨ x ∈ ts.dropWhile (fun t => !ltB s t) := by
      rw [← List.mem_append, List.takeWhile_append_dropWhile]
    rw [this]
    constructor
    · rintro (h | h | h)
      · exact .inl (.inl h)
      · exact .inr h
      · exact .inl (.inr h)
    · rintro ((h | h) | h)
      · exact .inl h
      · exact .inr (.inr h)
      · exact .inr (.inl h)
theorem add_rising (ts : List ByteArray) (s : ByteArray) (h : Rising ts) : Rising (addS ts s) := by
  unfold addS
  split
  · exact h
  · rename_i hs
    rw [hasB_iff] at hs
    unfold Rising at *
    induction ts with
    | nil => simp
    | cons t ts ih =>
      simp only [List.map_cons, List.pairwise_cons] at h
      have hne : key s ≠ key t := fun e => hs (by rw [key_inj e]; simp)
      by_cases hlt : key s < key t
      · have hb : (!ltB s t) = false := by rw [ltB_eq]; simp [hlt]
        rw [List.takeWhile_cons, List.dropWhile_cons]
        simp only [hb, Bool.false_eq_true, if_false, List.nil_append, List.map_cons, List.pairwise_cons]
        refine ⟨fun x hx => ?_, fun x hx => h.1 x hx, h.2⟩
        rcases List.mem_cons.1 hx with rfl | hx
        · exact hlt
        · exact lt_tr hlt (h.1 x hx)
      · have hb : (!ltB s t) = true := by rw [ltB_eq]; simp [hlt]
        rw [List.takeWhile_cons, List.dropWhile_cons]
        simp only [hb, if_true, List.cons_append, List.map_cons, List.pairwise_cons]
        refine ⟨fun x hx => ?_, ih h.2 (fun h' => hs (List.mem_cons_of_mem _ h'))⟩
        obtain ⟨y, hy, rfl⟩ := List.mem_map.1 hx
        have : y ∈ ts ∨ y = s := by
          rcases List.mem_append.1 hy with h' | h'
          · exact .inl (List.takeWhile_subset _ h')
          · rcases List.mem_cons.1 h' with h' | h'
            · exact .inr h'
            · exact .inl (List.dropWhile_subset _ h')
        rcases this with h' | rfl
        · exact h.1 _ (List.mem_map_of_mem h')
        · exact (lt_or hne).resolve_left hlt
theorem fold_mem (L : List ByteArray) : ∀ (ts : List ByteArray) (x : ByteArray), x ∈ L.foldl addS ts ↔ x ∈ ts ∨ x ∈ L := by
  induction L with
  | nil => intro ts x; simp
  | cons s L ih =>
    intro ts x
    rw [List.foldl_cons, ih, add_mem, List.mem_cons]
    constructor
    · rintro ((h | h) | h)
      · exact .inl h
      · exact .inr (.inl h)
      · exact .inr (.inr h)
    · rintro (h | h | h)
      · exact .inl (.inl h)
      · exact .inl (.inr h)
      · exact .inr h
theorem fold_rising (L : List ByteArray) : ∀ (ts : List ByteArray), Rising ts → Rising (L.foldl addS ts) := by
  induction L with
  | nil => intro ts h; exact h
  | cons s L ih => intro ts h; exact ih _ (add_rising ts s h)
theorem fold_len (L : List ByteArray) : ∀ (ts : List ByteArray), (L.foldl addS ts).length ≤ ts.length + L.length := by
  induction L with
  | nil => intro ts; simp
  | cons s L ih =>
    intro ts
    have h1 := ih (addS ts s)
    have h2 : (addS ts s).length ≤ ts.length + 1 := by
      unfold addS
      split
      · omega
      · have := congrArg List.length (List.takeWhile_append_dropWhile (p := fun t => !ltB s t) (l := ts))
        simp only [List.length_append, List.length_cons] at this ⊢
        omega
    simp only [List.foldl_cons, List.length_cons]
    omega

/-! sorted, and each once -/
theorem le_of_lt' {a b : List UInt8} (h : a < b) : a ≤ b := List.not_lt.1 (lt_asy h)
theorem compact_upto (d : Array (List UInt8)) (hs : ∀ i j, i ≤ j → j < d.size → d[i]! ≤ d[j]!) : ∀ m, m ≤ d.size → (Lib.compactUpTo d m).Pairwise (· < ·) ∧ ∀ x, x ∈ Lib.compactUpTo d m ↔ ∃ j, j < m ∧ d[j]! = x := by
  intro m
  induction m with
  | zero => intro _; exact ⟨by simp [Lib.compactUpTo], fun x => by simp [Lib.compactUpTo]⟩
  | succ m ih =>
    intro hm
    obtain ⟨h1, h2⟩ := ih (by omega)
    rw [Lib.compactUpTo_succ]
    by_cases h0 : m = 0
    · subst h0
      have hk : Lib.keeps d 0 = true := Lib.keeps_lt_one d 0 (by omega)
      have e0 : Lib.compactUpTo d 0 = [] := by simp [Lib.compactUpTo]
      rw [hk, e0]
      refine ⟨by simp, fun x => ?_⟩
      simp only [if_true, List.nil_append, List.mem_singleton]
      constructor
      · rintro rfl; exact ⟨0, by omega, rfl⟩
      · rintro ⟨j, hj, rfl⟩
        have : j = 0 := by omega
        subst this; rfl
    · by_cases he : d[m]! = d[m - 1]!
      · rw [Lib.keeps_neg (by omega) he]
        simp only [Bool.false_eq_true, if_false, List.append_nil]
        refine ⟨h1, fun x => ?_⟩
        rw [h2]
        constructor
        · rintro ⟨j, hj, rfl⟩; exact ⟨j, by omega, rfl⟩
        · rintro ⟨j, hj, rfl⟩
          by_cases hjm : j = m
          · subst hjm; exact ⟨j - 1, by omega, he.symm⟩
          · exact ⟨j, by omega, rfl⟩
      · rw [Lib.keeps_pos he]
        simp only [if_true]
        have hlt : d[m - 1]! < d[m]! := by
          rcases lt_or he with h | h
          · exact absurd h (List.not_lt.2 (hs (m - 1) m (by omega) (by omega)))
          · exact h
        refine ⟨List.pairwise_append.2 ⟨h1, by simp, fun x hx y hy => ?_⟩, fun x => ?_⟩
        · simp only [List.mem_singleton] at hy
          subst hy
          obtain ⟨j, hj, rfl⟩ := (h2 x).1 hx
          exact List.lt_of_le_of_lt (hs j (m - 1) (by omega) (by omega)) hlt
        · rw [List.mem_append, h2, List.mem_singleton]
          constructor
          · rintro (⟨j, hj, rfl⟩ | rfl)
            · exact ⟨j, by omega, rfl⟩
            · exact ⟨m, by omega, rfl⟩
          · rintro ⟨j, hj, rfl⟩
            by_cases hjm : j = m
            · subst hjm; exact .inr rfl
            · exact .inl ⟨j, by omega, rfl⟩
theorem compact_sorted (zs : List (List UInt8)) (hs : zs.Pairwise (· ≤ ·)) : (Lib.compact zs).Pairwise (· < ·) ∧ ∀ x, x ∈ Lib.compact zs ↔ x ∈ zs := by
  have hget : ∀ i (h : i < zs.length), zs.toArray[i]! = zs[i] := fun i h => by simp [getElem!_pos, h]
  have := compact_upto zs.toArray (fun i j hij hj => by
    have hj' : j < zs.length := by simpa using hj
    rw [hget i (by omega), hget j hj']
    by_cases e : i = j
    · subst e; exact List.le_refl _
    · exact List.pairwise_iff_getElem.1 hs i j (by omega) hj' (by omega)) zs.length (by simp)
  refine ⟨this.1, fun x => ?_⟩
  unfold Lib.compact
  rw [this.2]
  constructor
  · rintro ⟨j, hj, rfl⟩
    rw [hget j hj]
    exact List.getElem_mem hj
  · intro hx
    obtain ⟨j, hj, rfl⟩ := List.getElem_of_mem hx
    exact ⟨j, hj, hget j hj⟩
theorem sort_compact (L : List ByteArray) : Lib.compact ((L.map key).mergeSort fun x y => decide (x ≤ y)) = (L.foldl addS []).map key := by
  have hsort : ((L.map key).mergeSort fun x y => decide (x ≤ y)).Pairwise (· ≤ ·) := by
    have := List.pairwise_mergeSort (le := fun x y : List UInt8 => decide (x ≤ y)) (fun a b c h1 h2 => by simp only [decide_eq_true_eq] at *; exact List.le_trans h1 h2) (fun a b => by
      simp only [Bool.or_eq_true, decide_eq_true_eq]; exact List.le_total a b) (L.map key)
    exact this.imp (fun h => by simpa using h)
  obtain ⟨h1, h2⟩ := compact_sorted _ hsort
  refine rise_ext _ _ h1 (fold_rising L [] (by simp [Rising])) fun x => ?_
  rw [h2, List.mem_mergeSort, List.mem_map, List.mem_map]
  constructor
  · rintro ⟨a, ha, rfl⟩; exact ⟨a, (fold_mem L [] a).2 (.inr ha), rfl⟩
  · rintro ⟨a, ha, rfl⟩
    rcases (fold_mem L [] a).1 ha with h | h
    · cases h
    · exact ⟨a, h, rfl⟩

/-! the loop that puts a name where it belongs -/
def insK (p : List ByteArray) (s : ByteArray) : List ByteArray := if p.any (ltB s) then p.takeWhile (fun t => !ltB s t) ++ s :: p.dropWhile (fun t => !ltB s t) else p
theorem take_all {p : List ByteArray} {s : ByteArray} (h : p.any (ltB s) = false) : ∀ t ∈ p, (!ltB s t) = true := by
  intro t ht
  have := List.any_eq_false.1 h t ht
  simpa using this
theorem ins_none {p : List ByteArray} {s t : ByteArray} (h : p.any (ltB s) = false) (ht : ltB s t = false) : (p ++ [t]).any (ltB s) = false ∧ insK (p ++ [t]) s = insK p s ++ [t] := by
  have h' : (p ++ [t]).any (ltB s) = false := by rw [List.any_append, h]; simp [ht]
  refine ⟨h', ?_⟩
  unfold insK
  rw [h', h]
  simp
theorem ins_new {p : List ByteArray} {s t : ByteArray} (h : p.any (ltB s) = false) (ht : ltB s t = true) : (p ++ [t]).any (ltB s) = true ∧ insK (p ++ [t]) s = insK p s ++ [s] ++ [t] := by
  have h' : (p ++ [t]).any (ltB s) = true := by rw [List.any_append]; simp [ht]
  refine ⟨h', ?_⟩
  unfold insK
  rw [h', h]
  have ha := take_all h
  rw [List.takeWhile_append_of_pos ha, List.dropWhile_append_of_pos ha]
  simp [ht]
theorem ins_more {p : List ByteArray} {s t : ByteArray} (h : p.any (ltB s) = true) : (p ++ [t]).any (ltB s) = true ∧ insK (p ++ [t]) s = insK p s ++ [t] := by
  have h' : (p ++ [t]).any (ltB s) = true := by rw [List.any_append, h]; simp
  refine ⟨h', ?_⟩
  unfold insK
  rw [h', h]
  have key' : (p ++ [t]).takeWhile (fun t => !ltB s t) = p.takeWhile (fun t => !ltB s t) ∧ (p ++ [t]).dropWhile (fun t => !ltB s t) = p.dropWhile (fun t => !ltB s t) ++ [t] := by
    clear h'
    induction p with
    | nil => simp at h
    | cons a p ih =>
      by_cases ha : ltB s a = true
      · simp [ha]
      · have hp : p.any (ltB s) = true := by
          rw [List.any_cons] at h
          simpa [ha] using h
        obtain ⟨h1, h2⟩ := ih hp
        simp only [List.cons_append, List.takeWhile_cons, List.dropWhile_cons, Bool.not_eq_true] at ha ⊢
        simp [ha, h1, h2]
  simp [key'.1, key'.2]
theorem ins_end (ts : List ByteArray) (s : ByteArray) (h : hasB ts s = false) : addS ts s = if ts.any (ltB s) then insK ts s else insK ts s ++ [s] := by
  unfold addS insK
  rw [h]
  cases ha : ts.any (ltB s)
  · have hb := take_all ha
    have e1 : ts.takeWhile (fun t => !ltB s t) = ts := by have := List.takeWhile_append_of_pos (l₂ := []) hb; simpa using this
    have e2 : ts.dropWhile (fun t => !ltB s t) = [] := by have := List.dropWhile_append_of_pos (l₂ := []) hb; simpa using this
    simp [e1, e2]
  · simp
theorem ins_len (p : List ByteArray) (s : ByteArray) : (insK p s).length ≤ p.length + 1 := by
  unfold insK
  split
  · have := congrArg List.length (List.takeWhile_append_dropWhile (p := fun t => !ltB s t) (l := p))
    simp only [List.length_append, List.length_cons] at this ⊢
    omega
  · omega

end Go.Proofs.YtldgffkippejiaaGreatDoor
