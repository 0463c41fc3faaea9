/-
  The words of a text, as the reader meets them: mathematics alone.
-/
/-
  A tree out of a text: mathematics of the whole.
-/
/-
  All of a tree's words are read as the tree. Mathematics alone.
-/
import Derived.Test.YtjfebnplffpmoaaGreatDoorReadM
import Derived.Test.YtjfebnplffpmoaaGreatDoorSpecDeep
import Derived.Test.YtjfebnplffpmoaaGreatDoorMerged16
set_option linter.unusedVariables false
namespace Go.Proofs.YtjfebnplffpmoaaGreatDoor
open Go.RowKit Go.Maps

theorem decVal_snoc (l : List UInt8) (b : UInt8) : numTextV.decVal (l ++ [b]) = 10 * numTextV.decVal l + (b.toNat - 48) := by
  simp [numTextV.decVal, List.foldl_append]
theorem snocI {p : List UInt8 → Prop} (h0 : p []) (h1 : ∀ l b, p l → p (l ++ [b])) (l : List UInt8) : p l := by
  have : ∀ n (l : List UInt8), l.length = n → p l := by
    intro n
    induction n with
    | zero => intro l h; rw [List.eq_nil_of_length_eq_zero h]; exact h0
    | succ n ih =>
      intro l h
      have hne : l ≠ [] := by intro e; subst e; simp at h
      rw [← List.dropLast_concat_getLast hne]
      exact h1 _ _ (ih _ (by simp [h]))
  exact this _ l rfl
theorem decVal_lt (l : List UInt8) : (∀ b ∈ l, 48 ≤ b.toNat ∧ b.toNat ≤ 57) → numTextV.decVal l < 10 ^ l.length := by
  induction l using snocI with
  | h0 => intro _; decide
  | h1 l b ih =>
    intro h
    have h1 := ih (fun c hc => h c (by simp [hc]))
    have h2 := h b (by simp)
    rw [decVal_snoc, List.length_append, List.length_singleton, Nat.pow_succ]
    omega
theorem run_all (s : ByteArray) (ls : Bool) : ∀ n k, s.size - k = n → ∀ i, k ≤ i → i < runEnd s ls k → (digB (byteAt s i) || (ls && letB (byteAt s i))) = true := by
  intro n
  induction n with
  | zero =>
    intro k hk i h1 h2
    rw [runEnd, dif_neg (by omega)] at h2
    omega
  | succ n ih =>
    intro k hk i h1 h2
    rw [runEnd, dif_pos (by omega)] at h2
    split at h2
    · rename_i hd
      by_cases e : i = k
      · rw [e]; exact hd
      · exact ih (k + 1) (by omega) i (by omega) h2
    · omega
/-- what a word of a text is -/
inductive WordIs : WordV → Prop
  | num (x : WordV) (h : x.a0 = 1) (h1 : 1 ≤ x.a1.size ∧ x.a1.size ≤ 18) (hd : ∀ b ∈ x.a1.data.toList, 48 ≤ b.toNat ∧ b.toNat ≤ 57) : WordIs x
  | name (x : WordV) (h : x.a0 = 2) (h1 : x.a1.size ≤ 8) (hl : letB (byteAt x.a1 0) = true) (hk : isKeyB x.a1 = false) : WordIs x
  | key (x : WordV) (h : x.a0 = 3) (hk : isKeyB x.a1 = true) : WordIs x
  | sign (x : WordV) (h : x.a0 = 4) (hs : isSgnL x.a1.data.toList = true) : WordIs x
theorem ext_mem (s : ByteArray) (a b : Nat) (hb : b ≤ s.size) (c : UInt8) (h : c ∈ (s.extract a b).data.toList) : ∃ i, a ≤ i ∧ i < b ∧ s.data.getD i 0 = c := by
  rw [ext_lst] at h
  obtain ⟨i, hi, e⟩ := List.getElem_of_mem h
  rw [List.length_take, List.length_drop] at hi
  have hlen : s.data.toList.length = s.size := by rw [Array.length_toList]; rfl
  refine ⟨a + i, by omega, by omega, ?_⟩
  rw [List.getElem_take, List.getElem_drop] at e
  have h1 : a + i < s.data.size := by have : s.data.size = s.size := rfl; omega
  rw [Array.getD, dif_pos h1]
  rw [← e]
  rfl
theorem sign_pre (l : List UInt8) (h : signPreL l ≠ []) : isSgnL (signPreL l) = true := by
  unfold signPreL at h ⊢
  cases hq : (signLs.find? fun g => g.isPrefixOf l) with
  | none => rw [hq] at h; exact absurd rfl h
  | some g =>
    have h2 := List.mem_of_find?_eq_some hq
    show isSgnL g = true
    unfold isSgnL
    rw [List.any_eq_true]
    exact ⟨g, h2, by simp⟩
theorem word_is {s : ByteArray} {k n : Nat} {x : WordV} (hk : k < s.size) (h : wordAt s k = .word x n) : WordIs x := by
  have hg := word_good hk h
  unfold wordAt at h
  split at h
  · rename_i hd
    split at h
    · cases h
    · rename_i hno
      injection h with h1 h2
      subst h1 h2
      have hz := ext_sz s k (runEnd s false k) (by omega) hg.2.1
      refine .num _ rfl ⟨by simp only; omega, by simp only; omega⟩ fun b hb => ?_
      obtain ⟨i, q1, q2, rfl⟩ := ext_mem s k _ hg.2.1 b hb
      have hp := run_all s false _ k rfl i q1 q2
      simp only [Bool.false_and, Bool.or_false] at hp
      unfold digB byteAt at hp
      simp only [Bool.and_eq_true, decide_eq_true_eq] at hp
      omega
  split at h
  · rename_i hl
    split at h
    · cases h
    · rename_i h8
      injection h with h1 h2
      subst h1 h2
      have hb0 := ext_byte s k (runEnd s true k) hg.1 hg.2.1
      cases hkey : isKeyB (s.extract k (runEnd s true k))
      · exact .name _ (by simp) (by simp only; omega) (by simp only; rw [hb0]; exact hl) (by simp only; exact hkey)
      · exact .key _ (by simp) (by simp only; exact hkey)
  split at h
  · cases h
  · rename_i hne
    injection h with h1 h2
    subst h1 h2
    exact .sign _ rfl (sign_pre _ hne)
theorem lex_is (s : ByteArray) : ∀ n k ws, s.size - k = n → lexR s k = .ok ws → ∀ x ∈ ws, WordIs x := by
  intro n
  induction n using Nat.strongRecOn with
  | ind n ih =>
    intro k ws hn h
    by_cases hk : k < s.size
    · rw [lexR, dif_pos hk] at h
      split at h
      · exact ih (s.size - (k + 1)) (by omega) (k + 1) ws rfl h
      · split at h
        · cases h
        · rename_i x e hw
          have g1 := (word_good hk hw).1
          cases hq : lexR s (max e (k + 1)) with
          | bad c a => rw [hq] at h; cases h
          | ok us =>
            rw [hq] at h
            injection h with h
            subst h
            intro y hy
            rcases List.mem_cons.1 hy with rfl | hy
            · exact word_is hk hw
            · exact ih (s.size - max e (k + 1)) (by omega) (max e (k + 1)) us rfl hq y hy
    · rw [lexR, dif_neg hk] at h
      injection h with h
      subst h
      simp
theorem WordIs.fine {x : WordV} (h : WordIs x) : WordFine x := by
  cases h with
  | num h h1 hd =>
    refine ⟨fun _ => ?_, fun e => by omega⟩
    have := decVal_lt x.a1.data.toList hd
    rw [Array.length_toList] at this
    have hp : 10 ^ x.a1.data.size ≤ 10 ^ 18 := Nat.pow_le_pow_right (by decide) h1.2
    unfold numTextV
    have h9 : (10 : Nat) ^ 18 = 1000000000000000000 := by decide
    omega
  | name h h1 hl hk => exact ⟨fun e => by omega, fun _ => h1⟩
  | key h hk => exact ⟨fun e => by omega, fun e => by omega⟩
  | sign h hs => exact ⟨fun e => by omega, fun e => by omega⟩
/-- a text that is a key or a sign is a word's just where the word is one -/
theorem txt_iff {ws : List WordV} (hw : ∀ x ∈ ws, WordIs x) {n : Nat} (hn : n < ws.length) {s : ByteArray} (hs : isKeyB s = true ∨ isSgnL s.data.toList = true) : ws[n].a1 = s ↔ txt ws n = s := by
  unfold txt
  rw [List.getElem?_eq_getElem hn]
  simp only
  have hne : s ≠ ⟨#[]⟩ := by
    rintro rfl
    rcases hs with h | h
    · exact absurd h (by decide)
    · exact absurd h (by decide)
  have hkl : isKeyB s = true → letB (byteAt s 0) = true := fun h => by
    unfold isKeyB at h
    rw [List.any_eq_true] at h
    obtain ⟨k, hk, e⟩ := h
    have e := of_decide_eq_true e
    subst e
    simp only [keyStrs, List.mem_cons, List.not_mem_nil, or_false] at hk
    rcases hk with rfl | rfl | rfl | rfl | rfl | rfl | rfl | rfl | rfl | rfl | rfl | rfl | rfl | rfl | rfl <;> decide
  have hsl : isSgnL s.data.toList = true → letB (byteAt s 0) = false ∧ digB (byteAt s 0) = false := fun h => by
    unfold isSgnL at h
    rw [List.any_eq_true] at h
    obtain ⟨g, hg, e⟩ := h
    have e : g = s.data.toList := by simpa using e
    have es : s = ⟨g.toArray⟩ := by rw [e]
    subst es
    simp only [signLs, List.mem_cons, List.not_mem_nil, or_false] at hg
    rcases hg with rfl | rfl | rfl | rfl | rfl | rfl | rfl | rfl | rfl | rfl | rfl | rfl | rfl | rfl <;> decide
  cases hw ws[n] (List.getElem_mem hn) with
  | num h h1 hd =>
    rw [if_neg (by omega)]
    refine ⟨fun e => ?_, fun e => absurd e.symm hne⟩
    have hd0 : digB (byteAt ws[n].a1 0) = true := by
      have h0 : 0 < ws[n].a1.data.toList.length := by rw [Array.length_toList]; exact h1.1
      have := hd _ (List.getElem_mem h0)
      unfold digB byteAt
      have h00 : 0 < ws[n].a1.data.size := h1.1
      rw [Array.getD, dif_pos h00]
      have e9 : ws[n].a1.data.toList[0] = ws[n].a1.data.getInternal 0 h00 := rfl
      rw [e9] at this
      simp only [Bool.and_eq_true, decide_eq_true_eq]
      omega
    rw [e] at hd0
    rcases hs with q | q
    · have := hkl q
      unfold letB digB at *
      simp only [Bool.and_eq_true, decide_eq_true_eq] at *
      omega
    · rw [(hsl q).2] at hd0; cases hd0
  | name h h1 hl hk =>
    rw [if_neg (by omega)]
    refine ⟨fun e => ?_, fun e => absurd e.symm hne⟩
    rw [e] at hl hk
    rcases hs with q | q
    · rw [q] at hk; cases hk
    · rw [(hsl q).1] at hl; cases hl
  | key h hk => rw [if_pos (by omega)]
  | sign h hs' => rw [if_pos (by omega)]
end Go.Proofs.YtjfebnplffpmoaaGreatDoor

set_option linter.unusedVariables false
namespace Go.Proofs.YtjfebnplffpmoaaGreatDoor
open Go.RowKit Go.Maps Go.Deep

/-- where a fault of a word is told: at the word, or at the text's end -/
def atW (ws : List WordV) (sz k : Nat) : Int := match ws[k]? with
  | some x => x.a2
  | none => (sz : Int)
inductive TrRes where
  | bad (c a : Int)
  | ok (x : TreeV)
def fuelT (ws : List WordV) : Nat := 10 * ws.length + 10
def trRes (t : ByteArray) : TrRes :=
  if bwCode t ≠ 0 then .bad (bwCode t) (bwAt t)
  else match parse (bwWords t) (fuelT (bwWords t)) .expr 0 with
    | .out => .bad 5 0
    | .bad k => .bad 5 (atW (bwWords t) t.size k)
    | .ok x k => if k < (bwWords t).length then .bad 5 (atW (bwWords t) t.size k) else if 400 < sizeT x then .bad 6 0 else if 40 < dp x.l + 1 then .bad 7 0 else .ok x
def TrRes.nodes : TrRes → List NodeV
  | .ok x => fl x.f
  | .bad _ _ => []
def TrRes.code : TrRes → Int
  | .ok _ => 0
  | .bad c _ => c
def TrRes.at' : TrRes → Int
  | .ok _ => 0
  | .bad _ a => a
theorem bw_words (t : ByteArray) : (bwWords t).length ≤ 1500 ∧ ∀ x ∈ bwWords t, WordIs x := by
  unfold bwWords
  split
  · simp
  · rename_i h
    cases hl : lexR t 0 with
    | bad c a => simp
    | ok ws =>
      have h1 := (lex_small t _ 0 ws rfl hl).1
      exact ⟨by simp only; omega, lex_is t _ 0 ws rfl hl⟩
theorem fuel_ok (ws : List WordV) : needF (ws.length - 0) .expr < fuelT ws := by simp only [needF, fuelT]; omega
theorem tr_good (t : ByteArray) : GoodR (bwWords t) 0 1 (parse (bwWords t) (fuelT (bwWords t)) .expr 0) := parse_good (bwWords t) _ .expr 0 (Nat.zero_le _) trivial (fuel_ok _)
theorem tr_tree (t : ByteArray) : TreeR 0 0 (parse (bwWords t) (fuelT (bwWords t)) .expr 0) := parse_tree (bwWords t) (fun x hx => ((bw_words t).2 x hx).fine) _ .expr 0 trivial
theorem tr_words {t : ByteArray} (h : bwCode t ≠ 0) : trRes t = .bad (bwCode t) (bwAt t) := by unfold trRes; rw [if_pos h]
theorem tr_bad {t : ByteArray} {k : Nat} (h : bwCode t = 0) (hp : parse (bwWords t) (fuelT (bwWords t)) .expr 0 = .bad k) : trRes t = .bad 5 (atW (bwWords t) t.size k) := by unfold trRes; rw [if_neg (by simpa using h), hp]
theorem tr_more {t : ByteArray} {k : Nat} {x : TreeV} (h : bwCode t = 0) (hp : parse (bwWords t) (fuelT (bwWords t)) .expr 0 = .ok x k) (hk : k < (bwWords t).length) : trRes t = .bad 5 (atW (bwWords t) t.size k) := by unfold trRes; rw [if_neg (by simpa using h), hp]; simp only; rw [if_pos hk]
theorem tr_many {t : ByteArray} {k : Nat} {x : TreeV} (h : bwCode t = 0) (hp : parse (bwWords t) (fuelT (bwWords t)) .expr 0 = .ok x k) (hk : ¬ k < (bwWords t).length) (hs : 400 < sizeT x) : trRes t = .bad 6 0 := by unfold trRes; rw [if_neg (by simpa using h), hp]; simp only; rw [if_neg hk, if_pos hs]
theorem tr_deep {t : ByteArray} {k : Nat} {x : TreeV} (h : bwCode t = 0) (hp : parse (bwWords t) (fuelT (bwWords t)) .expr 0 = .ok x k) (hk : ¬ k < (bwWords t).length) (hs : ¬ 400 < sizeT x) (hd : 40 < dp x.l + 1) : trRes t = .bad 7 0 := by unfold trRes; rw [if_neg (by simpa using h), hp]; simp only; rw [if_neg hk, if_neg hs, if_pos hd]
theorem tr_ok {t : ByteArray} {k : Nat} {x : TreeV} (h : bwCode t = 0) (hp : parse (bwWords t) (fuelT (bwWords t)) .expr 0 = .ok x k) (hk : ¬ k < (bwWords t).length) (hs : ¬ 400 < sizeT x) (hd : ¬ 40 < dp x.l + 1) : trRes t = .ok x := by unfold trRes; rw [if_neg (by simpa using h), hp]; simp only; rw [if_neg hk, if_neg hs, if_neg hd]
end Go.Proofs.YtjfebnplffpmoaaGreatDoor

set_option linter.unusedVariables false
namespace Go.Proofs.YtjfebnplffpmoaaGreatDoor
open Go.RowKit Go.Maps Go.Deep

def NodeFit (x : NodeV) : Prop := Norm x ∧ 1 ≤ x.kind ∧ x.kind ≤ 23 ∧ 0 ≤ x.num
def AllF : BT NodeV → Prop
  | .nil => True
  | .node _ _ x l r => AllK (levelN x.kind) (bareK x l) (treeV x l) ∧ AllF r
theorem cnt_0 {l : BT NodeV} (h : cnt l = 0) : l = .nil := by
  cases l with
  | nil => rfl
  | node b o x l r => simp [cnt] at h
theorem cnt_s {l : BT NodeV} {n : Nat} (h : cnt l = n + 1) : ∃ b o x m r, l = .node b o x m r ∧ cnt r = n := by
  cases l with
  | nil => simp [cnt] at h
  | node b o x m r => exact ⟨b, o, x, m, r, rfl, by simp [cnt] at h; exact h⟩
theorem all_node (x : NodeV) (l : BT NodeV) (hx : NodeFit x) (hc : x.kids = cnt l) (hl : AllF l) : AllK (levelN x.kind) (bareK x l) (treeV x l) := by
  obtain ⟨k, m, s, c⟩ := x
  obtain ⟨⟨h1, h2, h3⟩, hk1, hk2, hm⟩ := hx
  simp only at h1 h2 h3 hk1 hk2 hc hm
  have ha : (cnt l : Int) = arity k := by rw [← hc]; exact h3
  by_cases c0 : k = 1 ∨ k = 2
  · have e0 : arity k = 0 := by unfold arity; rw [if_pos c0]
    have el := cnt_0 (show cnt l = 0 by omega)
    subst el
    obtain rfl : c = 0 := by omega
    rcases c0 with rfl | rfl
    · obtain rfl := h2 (by decide) (by decide) (by decide)
      exact all_num hm
    · obtain rfl := h1 (by decide)
      exact all_name s
  by_cases c1 : k = 3 ∨ k = 4 ∨ k = 20
  · have e0 : arity k = 1 := by unfold arity; rw [if_neg c0, if_pos c1]
    obtain ⟨b, o, y, ml, r, rfl, hr⟩ := cnt_s (n := 0) (show cnt l = 0 + 1 by omega)
    obtain rfl := cnt_0 hr
    obtain rfl : c = 1 := by omega
    obtain rfl := h1 (by omega)
    obtain rfl := h2 (by omega) (by omega) (by omega)
    have A := hl.1
    rcases c1 with rfl | rfl | rfl
    · exact all_neg A
    · exact all_not A
    · exact all_abs A.expr
  by_cases c2 : (5 ≤ k ∧ k ≤ 19) ∨ k = 22
  · have e0 : arity k = 2 := by
      unfold arity
      rw [if_neg c0, if_neg c1]
      rcases c2 with h | h
      · rw [if_pos h]
      · rw [if_neg (by omega), if_pos h]
    obtain ⟨b, o, y, ml, r, rfl, hr⟩ := cnt_s (n := 1) (show cnt l = 1 + 1 by omega)
    obtain ⟨b', o', z, nl, r', rfl, hr'⟩ := cnt_s (n := 0) hr
    obtain rfl := cnt_0 hr'
    obtain rfl : c = 2 := by omega
    obtain rfl := h1 (by omega)
    have A := hl.1
    have B := hl.2.1
    by_cases k22 : k = 22
    · subst k22
      exact all_let A.expr B.expr
    obtain rfl := h2 (by omega) k22 (by omega)
    by_cases k18 : k = 18
    · subst k18
      exact all_pair (.inl ⟨rfl, rfl⟩) A.expr B.expr
    by_cases k19 : k = 19
    · subst k19
      exact all_pair (.inr ⟨rfl, rfl⟩) A.expr B.expr
    have hs := all_sign (kd := k) (by omega) A B
    have e : bareK ⟨k, 0, ⟨#[]⟩, 2⟩ (.node b o y ml (.node b' o' z nl .nil)) = wrapK (firstN k) y (bareK y ml) ++ signK k :: wrapK (levelN k + 1) z (bareK z nl) := by
      show (if k = 18 then _ else if k = 19 then _ else if k = 22 then _ else _) = _
      rw [if_neg k18, if_neg k19, if_neg k22]
      rfl
    rw [e]
    exact hs
  · have c3 : k = 21 ∨ k = 23 := by omega
    have e0 : arity k = 3 := by rcases c3 with rfl | rfl <;> rfl
    obtain ⟨b, o, y, ml, r, rfl, hr⟩ := cnt_s (n := 2) (show cnt l = 2 + 1 by omega)
    obtain ⟨b', o', z, nl, r', rfl, hr'⟩ := cnt_s (n := 1) hr
    obtain ⟨b2, o2, u, ul, r2, rfl, hr2⟩ := cnt_s (n := 0) hr'
    obtain rfl := cnt_0 hr2
    obtain rfl : c = 3 := by omega
    obtain rfl := h1 (by omega)
    have A := hl.1
    have B := hl.2.1
    have C := hl.2.2.1
    rcases c3 with rfl | rfl
    · obtain rfl := h2 (by decide) (by decide) (by decide)
      exact all_if A.expr B.expr C.expr
    · exact all_rep A.expr B.expr C.expr
theorem all_forest (f : BT NodeV) : (∀ x ∈ fl f, NodeFit x) → kok f → AllF f := by
  induction f with
  | nil => intro _ _; trivial
  | node b o x l r ihl ihr =>
    intro h hk
    exact ⟨all_node x l (h x (by simp [fl])) hk.1 (ihl (fun y hy => h y (by simp [fl, hy])) hk.2.1), ihr (fun y hy => h y (by simp [fl, hy])) hk.2.2⟩
/-- the words of a tree are read as the tree, all of them -/
theorem read_back {ws : List WordV} {x : NodeV} {l : BT NodeV} (hx : NodeFit x) (hl : ∀ y ∈ fl l, NodeFit y) (hc : x.kids = cnt l) (hk : kok l) (hw : ws.map tokW = bareK x l) : parse ws (fuelT ws) .expr 0 = .ok (treeV x l) ws.length := by
  have A := (all_node x l hx hc (all_forest l hl hk)).expr
  have hn : NoS 1 [] := fun M _ _ => kindL_empty M
  have o := A ws 0 [] (by unfold AtK; rw [List.append_nil, List.drop_zero]; exact hw) hn
  have e : (bareK x l).length = ws.length := by rw [← hw, List.length_map]
  rw [Nat.zero_add, e] at o
  exact o.enough (Nat.zero_le _) (fuel_ok ws)
end Go.Proofs.YtjfebnplffpmoaaGreatDoor
