/-
  The words of a text, as the reader meets them: mathematics alone.
-/
/-
  The program's table of shapes, as it lies in its variable.
-/
/-
  The kind that a text makes at a level, and the program's table of shapes against it: mathematics alone. (Made by wip/mkrdrm.py.)
-/
import Derived.Test.YtldgffkippejiaaGreatDoorReadM
import Derived.Test.YtldgffkippejiaaGreatDoorMerged3
set_option linter.unusedVariables false
namespace Go.Proofs.YtldgffkippejiaaGreatDoor
open Go.RowKit Go.Maps

theorem decVal_snoc (l : List UInt8) (b : UInt8) : numTextV.decVal (l ++ [b]) = 10 * numTextV.decVal l + (b.toNat - 48) := by
  simp [numTextV.decVal, List.foldl_append]
theorem snocI {p : List UInt8 → Prop} (h0 : p []) (h1 : ∀ l b, p l → p (l ++ [b])) (l : List UInt8) : p l := by
  have : ∀ n (l : List UInt8), l.length = n → p l := by
    intro n
    induction n with
    | zero => intro l h; rw [List.eq_nil_of_length_eq_zero h]; exact h0
    | succ n ih =>
      intro l h
      have hne : l ≠ [] := by intro e; subst e; simp at h
      rw [← List.dropLast_concat_getLast hne]
      exact h1 _ _ (ih _ (by simp [h]))
  exact this _ l rfl
theorem decVal_lt (l : List UInt8) : (∀ b ∈ l, 48 ≤ b.toNat ∧ b.toNat ≤ 57) → numTextV.decVal l < 10 ^ l.length := by
  induction l using snocI with
  | h0 => intro _; decide
  | h1 l b ih =>
    intro h
    have h1 := ih (fun c hc => h c (by simp [hc]))
    have h2 := h b (by simp)
    rw [decVal_snoc, List.length_append, List.length_singleton, Nat.pow_succ]
    omega
theorem run_all (s : ByteArray) (ls : Bool) : ∀ n k, s.size - k = n → ∀ i, k ≤ i → i < runEnd s ls k → (digB (byteAt s i) || (ls && letB (byteAt s i))) = true := by
  intro n
  induction n with
  | zero =>
    intro k hk i h1 h2
    rw [runEnd, dif_neg (by omega)] at h2
    omega
  | succ n ih =>
    intro k hk i h1 h2
    rw [runEnd, dif_pos (by omega)] at h2
    split at h2
    · rename_i hd
      by_cases e : i = k
      · rw [e]; exact hd
      · exact ih (k + 1) (by omega) i (by omega) h2
    · omega
/-- what a word of a text is -/
inductive WordIs : WordV → Prop
  | num (x : WordV) (h : x.a0 = 1) (h1 : 1 ≤ x.a1.size ∧ x.a1.size ≤ 18) (hd : ∀ b ∈ x.a1.data.toList, 48 ≤ b.toNat ∧ b.toNat ≤ 57) : WordIs x
  | name (x : WordV) (h : x.a0 = 2) (h1 : x.a1.size ≤ 8) (hl : letB (byteAt x.a1 0) = true) (hk : isKeyB x.a1 = false) : WordIs x
  | key (x : WordV) (h : x.a0 = 3) (hk : isKeyB x.a1 = true) : WordIs x
  | sign (x : WordV) (h : x.a0 = 4) (hs : isSgnL x.a1.data.toList = true) : WordIs x
theorem ext_mem (s : ByteArray) (a b : Nat) (hb : b ≤ s.size) (c : UInt8) (h : c ∈ (s.extract a b).data.toList) : ∃ i, a ≤ i ∧ i < b ∧ s.data.getD i 0 = c := by
  rw [ext_lst] at h
  obtain ⟨i, hi, e⟩ := List.getElem_of_mem h
  rw [List.length_take, List.length_drop] at hi
  have hlen : s.data.toList.length = s.size := by rw [Array.length_toList]; rfl
  refine ⟨a + i, by omega, by omega, ?_⟩
  rw [List.getElem_take, List.getElem_drop] at e
  have h1 : a + i < s.data.size := by have : s.data.size = s.size := rfl; omega
  rw [Array.getD, dif_pos h1]
  rw [← e]
  rfl
theorem sign_pre (l : List UInt8) (h : signPreL l ≠ []) : isSgnL (signPreL l) = true := by
  unfold signPreL at h ⊢
  cases hq : (signLs.find? fun g => g.isPrefixOf l) with
  | none => rw [hq] at h; exact absurd rfl h
  | some g =>
    have h2 := List.mem_of_find?_eq_some hq
    show isSgnL g = true
    unfold isSgnL
    rw [List.any_eq_true]
    exact ⟨g, h2, by simp⟩
theorem word_is {s : ByteArray} {k n : Nat} {x : WordV} (hk : k < s.size) (h : wordAt s k = .word x n) : WordIs x := by
  have hg := word_good hk h
  unfold wordAt at h
  split at h
  · rename_i hd
    split at h
    · cases h
    · rename_i hno
      injection h with h1 h2
      subst h1 h2
      have hz := ext_sz s k (runEnd s false k) (by omega) hg.2.1
      refine .num _ rfl ⟨by simp only; omega, by simp only; omega⟩ fun b hb => ?_
      obtain ⟨i, q1, q2, rfl⟩ := ext_mem s k _ hg.2.1 b hb
      have hp := run_all s false _ k rfl i q1 q2
      simp only [Bool.false_and, Bool.or_false] at hp
      unfold digB byteAt at hp
      simp only [Bool.and_eq_true, decide_eq_true_eq] at hp
      omega
  split at h
  · rename_i hl
    split at h
    · cases h
    · rename_i h8
      injection h with h1 h2
      subst h1 h2
      have hb0 := ext_byte s k (runEnd s true k) hg.1 hg.2.1
      cases hkey : isKeyB (s.extract k (runEnd s true k))
      · exact .name _ (by simp) (by simp only; omega) (by simp only; rw [hb0]; exact hl) (by simp only; exact hkey)
      · exact .key _ (by simp) (by simp only; exact hkey)
  split at h
  · cases h
  · rename_i hne
    injection h with h1 h2
    subst h1 h2
    exact .sign _ rfl (sign_pre _ hne)
theorem lex_is (s : ByteArray) : ∀ n k ws, s.size - k = n → lexR s k = .ok ws → ∀ x ∈ ws, WordIs x := by
  intro n
  induction n using Nat.strongRecOn with
  | ind n ih =>
    intro k ws hn h
    by_cases hk : k < s.size
    · rw [lexR, dif_pos hk] at h
      split at h
      · exact ih (s.size - (k + 1)) (by omega) (k + 1) ws rfl h
      · split at h
        · cases h
        · rename_i x e hw
          have g1 := (word_good hk hw).1
          cases hq : lexR s (max e (k + 1)) with
          | bad c a => rw [hq] at h; cases h
          | ok us =>
            rw [hq] at h
            injection h with h
            subst h
            intro y hy
            rcases List.mem_cons.1 hy with rfl | hy
            · exact word_is hk hw
            · exact ih (s.size - max e (k + 1)) (by omega) (max e (k + 1)) us rfl hq y hy
    · rw [lexR, dif_neg hk] at h
      injection h with h
      subst h
      simp
theorem WordIs.fine {x : WordV} (h : WordIs x) : WordFine x := by
  cases h with
  | num h h1 hd =>
    refine ⟨fun _ => ?_, fun e => by omega⟩
    have := decVal_lt x.a1.data.toList hd
    rw [Array.length_toList] at this
    have hp : 10 ^ x.a1.data.size ≤ 10 ^ 18 := Nat.pow_le_pow_right (by decide) h1.2
    unfold numTextV
    have h9 : (10 : Nat) ^ 18 = 1000000000000000000 := by decide
    omega
  | name h h1 hl hk => exact ⟨fun e => by omega, fun _ => h1⟩
  | key h hk => exact ⟨fun e => by omega, fun e => by omega⟩
  | sign h hs => exact ⟨fun e => by omega, fun e => by omega⟩
/-- a text that is a key or a sign is a word's just where the word is one -/
theorem txt_iff {ws : List WordV} (hw : ∀ x ∈ ws, WordIs x) {n : Nat} (hn : n < ws.length) {s : ByteArray} (hs : isKeyB s = true ∨ isSgnL s.data.toList = true) : ws[n].a1 = s ↔ txt ws n = s := by
  unfold txt
  rw [List.getElem?_eq_getElem hn]
  simp only
  have hne : s ≠ ⟨#[]⟩ := by
    rintro rfl
    rcases hs with h | h
    · exact absurd h (by decide)
    · exact absurd h (by decide)
  have hkl : isKeyB s = true → letB (byteAt s 0) = true := fun h => by
    unfold isKeyB at h
    rw [List.any_eq_true] at h
    obtain ⟨k, hk, e⟩ := h
    have e := of_decide_eq_true e
    subst e
    simp only [keyStrs, List.mem_cons, List.not_mem_nil, or_false] at hk
    rcases hk with rfl | rfl | rfl | rfl | rfl | rfl | rfl | rfl | rfl | rfl | rfl | rfl | rfl | rfl | rfl <;> decide
  have hsl : isSgnL s.data.toList = true → letB (byteAt s 0) = false ∧ digB (byteAt s 0) = false := fun h => by
    unfold isSgnL at h
    rw [List.any_eq_true] at h
    obtain ⟨g, hg, e⟩ := h
    have e : g = s.data.toList := by simpa using e
    have es : s = ⟨g.toArray⟩ := by rw [e]
    subst es
    simp only [signLs, List.mem_cons, List.not_mem_nil, or_false] at hg
    rcases hg with rfl | rfl | rfl | rfl | rfl | rfl | rfl | rfl | rfl | rfl | rfl | rfl | rfl | rfl <;> decide
  cases hw ws[n] (List.getElem_mem hn) with
  | num h h1 hd =>
    rw [if_neg (by omega)]
    refine ⟨fun e => ?_, fun e => absurd e.symm hne⟩
    have hd0 : digB (byteAt ws[n].a1 0) = true := by
      have h0 : 0 < ws[n].a1.data.toList.length := by rw [Array.length_toList]; exact h1.1
      have := hd _ (List.getElem_mem h0)
      unfold digB byteAt
      have h00 : 0 < ws[n].a1.data.size := h1.1
      rw [Array.getD, dif_pos h00]
      have e9 : ws[n].a1.data.toList[0] = ws[n].a1.data.getInternal 0 h00 := rfl
      rw [e9] at this
      simp only [Bool.and_eq_true, decide_eq_true_eq]
      omega
    rw [e] at hd0
    rcases hs with q | q
    · have := hkl q
      unfold letB digB at *
      simp only [Bool.and_eq_true, decide_eq_true_eq] at *
      omega
    · rw [(hsl q).2] at hd0; cases hd0
  | name h h1 hl hk =>
    rw [if_neg (by omega)]
    refine ⟨fun e => ?_, fun e => absurd e.symm hne⟩
    rw [e] at hl hk
    rcases hs with q | q
    · rw [q] at hk; cases hk
    · rw [(hsl q).1] at hl; cases hl
  | key h hk => rw [if_pos (by omega)]
  | sign h hs' => rw [if_pos (by omega)]
end Go.Proofs.YtldgffkippejiaaGreatDoor

namespace Go.Proofs.YtldgffkippejiaaGreatDoor
open Go.RowKit Go.Maps

/-- what the program's table says of each kind: how many kids, its level, its word -/
def shapesL : List (Int × Int × ByteArray) :=
  [(0, 0, ⟨#[]⟩), (0, 7, ⟨#[]⟩), (0, 7, ⟨#[]⟩), (1, 6, ⟨#[45]⟩), (1, 6, ⟨#[110, 111, 116]⟩), (2, 5, ⟨#[42]⟩), (2, 5, ⟨#[47]⟩), (2, 5, ⟨#[37]⟩), (2, 4, ⟨#[43]⟩), (2, 4, ⟨#[45]⟩),
   (2, 3, ⟨#[61]⟩), (2, 3, ⟨#[33, 61]⟩), (2, 3, ⟨#[60]⟩), (2, 3, ⟨#[60, 61]⟩), (2, 3, ⟨#[62]⟩), (2, 3, ⟨#[62, 61]⟩), (2, 2, ⟨#[97, 110, 100]⟩), (2, 1, ⟨#[111, 114]⟩),
   (2, 7, ⟨#[109, 105, 110]⟩), (2, 7, ⟨#[109, 97, 120]⟩), (1, 7, ⟨#[97, 98, 115]⟩), (3, 0, ⟨#[105, 102]⟩), (2, 0, ⟨#[108, 101, 116]⟩), (3, 0, ⟨#[114, 101, 112]⟩)]
theorem shapes_len : shapesL.length = 24 := rfl
/-- the table lies in its variable -/
def ShapesIn (w : World) : Prop :=
  1 < w.heap.size ∧ ∀ k (h : k < shapesL.length), w.cell? ⟨1, k * 3, none⟩ = some (.int .i64 shapesL[k].1) ∧ w.cell? ⟨1, k * 3 + 1, none⟩ = some (.int .i64 shapesL[k].2.1) ∧ w.cell? ⟨1, k * 3 + 2, none⟩ = some (.string shapesL[k].2.2)
theorem ShapesIn.below {w w' : World} {B : Nat} (h : ShapesIn w) (hb : Below B w w') (hB : w.heap.size ≤ B) : ShapesIn w' := by
  refine ⟨Nat.lt_of_lt_of_le h.1 hb.size, fun k hk => ?_⟩
  obtain ⟨a, b, c⟩ := h.2 k hk
  exact ⟨(hb.cell (Nat.lt_of_lt_of_le h.1 hB)).trans a, (hb.cell (Nat.lt_of_lt_of_le h.1 hB)).trans b, (hb.cell (Nat.lt_of_lt_of_le h.1 hB)).trans c⟩

end Go.Proofs.YtldgffkippejiaaGreatDoor

set_option linter.unusedVariables false
namespace Go.Proofs.YtldgffkippejiaaGreatDoor
open Go.RowKit Go.Maps Go.Deep

def kindG (lv : Nat) (s : ByteArray) : Nat :=
  if lv = 0 ∧ s = kIf then 21
  else if lv = 0 ∧ s = kLet then 22
  else if lv = 0 ∧ s = kRep then 23
  else if lv = 6 ∧ s = sSub then 3
  else if lv = 6 ∧ s = kNot then 4
  else if lv = 7 ∧ s = kMin then 18
  else if lv = 7 ∧ s = kMax then 19
  else if lv = 7 ∧ s = kAbs then 20
  else if lv = 1 ∧ s = kOr then 17
  else if lv = 2 ∧ s = kAnd then 16
  else if lv = 3 ∧ s = sEq then 10
  else if lv = 3 ∧ s = sNe then 11
  else if lv = 3 ∧ s = sLt then 12
  else if lv = 3 ∧ s = sLe then 13
  else if lv = 3 ∧ s = sGt then 14
  else if lv = 3 ∧ s = sGe then 15
  else if lv = 4 ∧ s = sAdd then 8
  else if lv = 4 ∧ s = sSub then 9
  else if lv = 5 ∧ s = sMul then 5
  else if lv = 5 ∧ s = sDiv then 6
  else if lv = 5 ∧ s = sMod then 7
  else 0
theorem hit_is {i lv : Nat} {s : ByteArray} (h : i < shapesL.length) (hl : shapesL[i].2.1 = (lv : Int)) (hs : shapesL[i].2.2 = s) (hn : s ≠ ⟨#[]⟩) : kindG lv s = i := by
  subst hs
  have key : ∀ i (h : i < shapesL.length), shapesL[i].2.2 ≠ ⟨#[]⟩ → kindG shapesL[i].2.1.toNat shapesL[i].2.2 = i := by decide
  have e : lv = shapesL[i].2.1.toNat := by omega
  rw [e]
  exact key i h hn
theorem kindG_in {lv : Nat} {s : ByteArray} (hz : kindG lv s ≠ 0) : (isKeyB s = true ∨ isSgnL s.data.toList = true) ∧ ∃ j, ∃ h : j < shapesL.length, shapesL[j].2.1 = (lv : Int) ∧ shapesL[j].2.2 = s := by
  unfold kindG at hz
  by_cases h : lv = 0 ∧ s = kIf
  · obtain ⟨rfl, rfl⟩ := h
    exact ⟨by decide, 21, by decide, by decide, by decide⟩
  rw [if_neg h] at hz
  clear h
  by_cases h : lv = 0 ∧ s = kLet
  · obtain ⟨rfl, rfl⟩ := h
    exact ⟨by decide, 22, by decide, by decide, by decide⟩
  rw [if_neg h] at hz
  clear h
  by_cases h : lv = 0 ∧ s = kRep
  · obtain ⟨rfl, rfl⟩ := h
    exact ⟨by decide, 23, by decide, by decide, by decide⟩
  rw [if_neg h] at hz
  clear h
  by_cases h : lv = 6 ∧ s = sSub
  · obtain ⟨rfl, rfl⟩ := h
    exact ⟨by decide, 3, by decide, by decide, by decide⟩
  rw [if_neg h] at hz
  clear h
  by_cases h : lv = 6 ∧ s = kNot
  · obtain ⟨rfl, rfl⟩ := h
    exact ⟨by decide, 4, by decide, by decide, by decide⟩
  rw [if_neg h] at hz
  clear h
  by_cases h : lv = 7 ∧ s = kMin
  · obtain ⟨rfl, rfl⟩ := h
    exact ⟨by decide, 18, by decide, by decide, by decide⟩
  rw [if_neg h] at hz
  clear h
  by_cases h : lv = 7 ∧ s = kMax
  · obtain ⟨rfl, rfl⟩ := h
    exact ⟨by decide, 19, by decide, by decide, by decide⟩
  rw [if_neg h] at hz
  clear h
  by_cases h : lv = 7 ∧ s = kAbs
  · obtain ⟨rfl, rfl⟩ := h
    exact ⟨by decide, 20, by decide, by decide, by decide⟩
  rw [if_neg h] at hz
  clear h
  by_cases h : lv = 1 ∧ s = kOr
  · obtain ⟨rfl, rfl⟩ := h
    exact ⟨by decide, 17, by decide, by decide, by decide⟩
  rw [if_neg h] at hz
  clear h
  by_cases h : lv = 2 ∧ s = kAnd
  · obtain ⟨rfl, rfl⟩ := h
    exact ⟨by decide, 16, by decide, by decide, by decide⟩
  rw [if_neg h] at hz
  clear h
  by_cases h : lv = 3 ∧ s = sEq
  · obtain ⟨rfl, rfl⟩ := h
    exact ⟨by decide, 10, by decide, by decide, by decide⟩
  rw [if_neg h] at hz
  clear h
  by_cases h : lv = 3 ∧ s = sNe
  · obtain ⟨rfl, rfl⟩ := h
    exact ⟨by decide, 11, by decide, by decide, by decide⟩
  rw [if_neg h] at hz
  clear h
  by_cases h : lv = 3 ∧ s = sLt
  · obtain ⟨rfl, rfl⟩ := h
    exact ⟨by decide, 12, by decide, by decide, by decide⟩
  rw [if_neg h] at hz
  clear h
  by_cases h : lv = 3 ∧ s = sLe
  · obtain ⟨rfl, rfl⟩ := h
    exact ⟨by decide, 13, by decide, by decide, by decide⟩
  rw [if_neg h] at hz
  clear h
  by_cases h : lv = 3 ∧ s = sGt
  · obtain ⟨rfl, rfl⟩ := h
    exact ⟨by decide, 14, by decide, by decide, by decide⟩
  rw [if_neg h] at hz
  clear h
  by_cases h : lv = 3 ∧ s = sGe
  · obtain ⟨rfl, rfl⟩ := h
    exact ⟨by decide, 15, by decide, by decide, by decide⟩
  rw [if_neg h] at hz
  clear h
  by_cases h : lv = 4 ∧ s = sAdd
  · obtain ⟨rfl, rfl⟩ := h
    exact ⟨by decide, 8, by decide, by decide, by decide⟩
  rw [if_neg h] at hz
  clear h
  by_cases h : lv = 4 ∧ s = sSub
  · obtain ⟨rfl, rfl⟩ := h
    exact ⟨by decide, 9, by decide, by decide, by decide⟩
  rw [if_neg h] at hz
  clear h
  by_cases h : lv = 5 ∧ s = sMul
  · obtain ⟨rfl, rfl⟩ := h
    exact ⟨by decide, 5, by decide, by decide, by decide⟩
  rw [if_neg h] at hz
  clear h
  by_cases h : lv = 5 ∧ s = sDiv
  · obtain ⟨rfl, rfl⟩ := h
    exact ⟨by decide, 6, by decide, by decide, by decide⟩
  rw [if_neg h] at hz
  clear h
  by_cases h : lv = 5 ∧ s = sMod
  · obtain ⟨rfl, rfl⟩ := h
    exact ⟨by decide, 7, by decide, by decide, by decide⟩
  rw [if_neg h] at hz
  clear h
  exact absurd rfl hz
theorem kindG_empty (lv : Nat) : kindG lv ⟨#[]⟩ = 0 := by
  rcases Nat.eq_zero_or_pos (kindG lv ⟨#[]⟩) with h | h
  · exact h
  · exact absurd (kindG_in (Nat.ne_of_gt h)).1 (by decide)
theorem kindG_lt {ws : List WordV} {n lv : Nat} (h : kindG lv (txt ws n) ≠ 0) : n < ws.length := by
  refine txt_lt (s := txt ws n) rfl (fun e => ?_)
  rw [e, kindG_empty] at h
  exact h rfl
theorem castIf (c : Prop) [Decidable c] (a b : Nat) : ((if c then a else b : Nat) : Int) = if c then (a : Int) else (b : Int) := by split <;> rfl
/-- at the levels of signs between two -/
theorem kindG_L {lv : Nat} (h : 1 ≤ lv ∧ lv ≤ 5) (s : ByteArray) : ((kindG lv s : Nat) : Int) = kindL lv s := by
  unfold kindG kindL
  obtain rfl | rfl | rfl | rfl | rfl : lv = 1 ∨ lv = 2 ∨ lv = 3 ∨ lv = 4 ∨ lv = 5 := by omega
  all_goals
    simp [castIf]
/-- a text that the table has -/
theorem word_hit {ws : List WordV} (hw : ∀ x ∈ ws, WordIs x) {n : Nat} (hn : n < ws.length) {lv i : Nat} (h : i < shapesL.length) (hl : shapesL[i].2.1 = (lv : Int)) (hs : shapesL[i].2.2 = ws[n].a1) : kindG lv (txt ws n) = i ∧ i ≠ 0 := by
  have hne : ws[n].a1 ≠ ⟨#[]⟩ := by
    intro e
    have := hw ws[n] (List.getElem_mem hn)
    cases this with
    | num h h1 hd => rw [e] at h1; exact absurd h1.1 (by decide)
    | name h h1 hl hk => rw [e] at hl; exact absurd hl (by decide)
    | key h hk => rw [e] at hk; exact absurd hk (by decide)
    | sign h hs => rw [e] at hs; exact absurd hs (by decide)
  have hk := hit_is h hl hs hne
  by_cases hz : i = 0
  · subst hz
    exact absurd hs.symm hne
  · have h2 := (kindG_in (lv := lv) (s := ws[n].a1) (by rw [hk]; exact hz)).1
    rw [(txt_iff hw hn h2).1 rfl, hk]
    exact ⟨rfl, hz⟩
theorem word_none {ws : List WordV} (hw : ∀ x ∈ ws, WordIs x) {n : Nat} (hn : n < ws.length) {lv : Nat} (h : ∀ i (h : i < shapesL.length), ¬ (shapesL[i].2.1 = (lv : Int) ∧ shapesL[i].2.2 = ws[n].a1)) : kindG lv (txt ws n) = 0 := by
  rcases Nat.eq_zero_or_pos (kindG lv (txt ws n)) with hz | hz
  · exact hz
  · obtain ⟨h1, j, hj, h2, h3⟩ := kindG_in (lv := lv) (s := txt ws n) (Nat.ne_of_gt hz)
    exact absurd ⟨h2, h3.trans ((txt_iff hw hn h1).2 rfl).symm⟩ (h j hj)
/-- where it stands: the reading of each level, by the kind -/
theorem kindG_0 (s : ByteArray) : (kindG 0 s = 21 ∧ s = kIf) ∨ (kindG 0 s = 22 ∧ s = kLet) ∨ (kindG 0 s = 23 ∧ s = kRep) ∨ (kindG 0 s = 0 ∧ s ≠ kIf ∧ s ≠ kLet ∧ s ≠ kRep) := by
  by_cases h1 : s = kIf
  · subst h1; exact .inl (by decide)
  by_cases h2 : s = kLet
  · subst h2; exact .inr (.inl (by decide))
  by_cases h3 : s = kRep
  · subst h3; exact .inr (.inr (.inl (by decide)))
  · exact .inr (.inr (.inr ⟨by unfold kindG; simp [h1, h2, h3], h1, h2, h3⟩))
theorem kindG_6 (s : ByteArray) : (kindG 6 s = 3 ∧ s = sSub) ∨ (kindG 6 s = 4 ∧ s = kNot) ∨ (kindG 6 s = 0 ∧ s ≠ sSub ∧ s ≠ kNot) := by
  by_cases h1 : s = sSub
  · subst h1; exact .inl (by decide)
  by_cases h2 : s = kNot
  · subst h2; exact .inr (.inl (by decide))
  · exact .inr (.inr ⟨by unfold kindG; simp [h1, h2], h1, h2⟩)
theorem kindG_7 (s : ByteArray) : (kindG 7 s = 18 ∧ s = kMin) ∨ (kindG 7 s = 19 ∧ s = kMax) ∨ (kindG 7 s = 20 ∧ s = kAbs) ∨ (kindG 7 s = 0 ∧ s ≠ kMin ∧ s ≠ kMax ∧ s ≠ kAbs) := by
  by_cases h1 : s = kMin
  · subst h1; exact .inl (by decide)
  by_cases h2 : s = kMax
  · subst h2; exact .inr (.inl (by decide))
  by_cases h3 : s = kAbs
  · subst h3; exact .inr (.inr (.inl (by decide)))
  · exact .inr (.inr (.inr ⟨by unfold kindG; simp [h1, h2, h3], h1, h2, h3⟩))
end Go.Proofs.YtldgffkippejiaaGreatDoor
