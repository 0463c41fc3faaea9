/-
  The words of a text, as the reader meets them: mathematics alone.
-/
/-
  The program's table of shapes, as it lies in its variable.
-/
import Derived.Test.YtaonajalokhngaaGreatDoorReadM
import Derived.Test.YtaonajalokhngaaGreatDoorMerged3
set_option linter.unusedVariables false
namespace Go.Proofs.YtaonajalokhngaaGreatDoor
open Go.RowKit Go.Maps

theorem decVal_snoc (l : List UInt8) (b : UInt8) : numTextV.decVal (l ++ [b]) = 10 * numTextV.decVal l + (b.toNat - 48) := by
  simp [numTextV.decVal, List.foldl_append]
theorem snocI {p : List UInt8 → Prop} (h0 : p []) (h1 : ∀ l b, p l → p (l ++ [b])) (l : List UInt8) : p l := by
  have : ∀ n (l : List UInt8), l.length = n → p l := by
    intro n
    induction n with
    | zero => intro l h; rw [List.eq_nil_of_length_eq_zero h]; exact h0
    | succ n ih =>
      intro l h
      have hne : l ≠ [] := by intro e; subst e; simp at h
      rw [← List.dropLast_concat_getLast hne]
      exact h1 _ _ (ih _ (by simp [h]))
  exact this _ l rfl
theorem decVal_lt (l : List UInt8) : (∀ b ∈ l, 48 ≤ b.toNat ∧ b.toNat ≤ 57) → numTextV.decVal l < 10 ^ l.length := by
  induction l using snocI with
  | h0 => intro _; decide
  | h1 l b ih =>
    intro h
    have h1 := ih (fun c hc => h c (by simp [hc]))
    have h2 := h b (by simp)
    rw [decVal_snoc, List.length_append, List.length_singleton, Nat.pow_succ]
    omega
theorem run_all (s : ByteArray) (ls : Bool) : ∀ n k, s.size - k = n → ∀ i, k ≤ i → i < runEnd s ls k → (digB (byteAt s i) || (ls && letB (byteAt s i))) = true := by
  intro n
  induction n with
  | zero =>
    intro k hk i h1 h2
    rw [runEnd, dif_neg (by omega)] at h2
    omega
  | succ n ih =>
    intro k hk i h1 h2
    rw [runEnd, dif_pos (by omega)] at h2
    split at h2
    · rename_i hd
      by_cases e : i = k
      · rw [e]; exact hd
      · exact ih (k + 1) (by omega) i (by omega) h2
    · omega
/-- what a word of a text is -/
inductive WordIs : WordV → Prop
  | num (x : WordV) (h : x.a0 = 1) (h1 : 1 ≤ x.a1.size ∧ x.a1.size ≤ 18) (hd : ∀ b ∈ x.a1.data.toList, 48 ≤ b.toNat ∧ b.toNat ≤ 57) : WordIs x
  | name (x : WordV) (h : x.a0 = 2) (h1 : x.a1.size ≤ 8) (hl : letB (byteAt x.a1 0) = true) (hk : isKeyB x.a1 = false) : WordIs x
  | key (x : WordV) (h : x.a0 = 3) (hk : isKeyB x.a1 = true) : WordIs x
  | sign (x : WordV) (h : x.a0 = 4) (hs : isSgnL x.a1.data.toList = true) : WordIs x
theorem ext_mem (s : ByteArray) (a b : Nat) (hb : b ≤ s.size) (c : UInt8) (h : c ∈ (s.extract a b).data.toList) : ∃ i, a ≤ i ∧ i < b ∧ s.data.getD i 0 = c := by
  rw [ext_lst] at h
  obtain ⟨i, hi, e⟩ := List.getElem_of_mem h
  rw [List.length_take, List.length_drop] at hi
  have hlen : s.data.toList.length = s.size := by rw [Array.length_toList]; rfl
  refine ⟨a + i, by omega, by omega, ?_⟩
  rw [List.getElem_take, List.getElem_drop] at e
  have h1 : a + i < s.data.size := by have : s.data.size = s.size := rfl; omega
  rw [Array.getD, dif_pos h1]
  rw [← e]
  rfl
theorem sign_pre (l : List UInt8) (h : signPreL l ≠ []) : isSgnL (signPreL l) = true := by
  unfold signPreL at h ⊢
  cases hq : (signLs.find? fun g => g.isPrefixOf l) with
  | none => rw [hq] at h; exact absurd rfl h
  | some g =>
    have h2 := List.mem_of_find?_eq_some hq
    show isSgnL g = true
    unfold isSgnL
    rw [List.any_eq_true]
    exact ⟨g, h2, by simp⟩
theorem word_is {s : ByteArray} {k n : Nat} {x : WordV} (hk : k < s.size) (h : wordAt s k = .word x n) : WordIs x := by
  have hg := word_good hk h
  unfold wordAt at h
  split at h
  · rename_i hd
    split at h
    · cases h
    · rename_i hno
      injection h with h1 h2
      subst h1 h2
      have hz := ext_sz s k (runEnd s false k) (by omega) hg.2.1
      refine .num _ rfl ⟨by simp only; omega, by simp only; omega⟩ fun b hb => ?_
      obtain ⟨i, q1, q2, rfl⟩ := ext_mem s k _ hg.2.1 b hb
      have hp := run_all s false _ k rfl i q1 q2
      simp only [Bool.false_and, Bool.or_false] at hp
      unfold digB byteAt at hp
      simp only [Bool.and_eq_true, decide_eq_true_eq] at hp
      omega
  split at h
  · rename_i hl
    split at h
    · cases h
    · rename_i h8
      injection h with h1 h2
      subst h1 h2
      have hb0 := ext_byte s k (runEnd s true k) hg.1 hg.2.1
      cases hkey : isKeyB (s.extract k (runEnd s true k))
      · exact .name _ (by simp) (by simp only; omega) (by simp only; rw [hb0]; exact hl) (by simp only; exact hkey)
      · exact .key _ (by simp) (by simp only; exact hkey)
  split at h
  · cases h
  · rename_i hne
    injection h with h1 h2
    subst h1 h2
    exact .sign _ rfl (sign_pre _ hne)
theorem lex_is (s : ByteArray) : ∀ n k ws, s.size - k = n → lexR s k = .ok ws → ∀ x ∈ ws, WordIs x := by
  intro n
  induction n using Nat.strongRecOn with
  | ind n ih =>
    intro k ws hn h
    by_cases hk : k < s.size
    · rw [lexR, dif_pos hk] at h
      split at h
      · exact ih (s.size - (k + 1)) (by omega) (k + 1) ws rfl h
      · split at h
        · cases h
        · rename_i x e hw
          have g1 := (word_good hk hw).1
          cases hq : lexR s (max e (k + 1)) with
          | bad c a => rw [hq] at h; cases h
          | ok us =>
            rw [hq] at h
            injection h with h
            subst h
            intro y hy
            rcases List.mem_cons.1 hy with rfl | hy
            · exact word_is hk hw
            · exact ih (s.size - max e (k + 1)) (by omega) (max e (k + 1)) us rfl hq y hy
    · rw [lexR, dif_neg hk] at h
      injection h with h
      subst h
      simp
theorem WordIs.fine {x : WordV} (h : WordIs x) : WordFine x := by
  cases h with
  | num h h1 hd =>
    refine ⟨fun _ => ?_, fun e => by omega⟩
    have := decVal_lt x.a1.data.toList hd
    rw [Array.length_toList] at this
    have hp : 10 ^ x.a1.data.size ≤ 10 ^ 18 := Nat.pow_le_pow_right (by decide) h1.2
    unfold numTextV
    have h9 : (10 : Nat) ^ 18 = 1000000000000000000 := by decide
    omega
  | name h h1 hl hk => exact ⟨fun e => by omega, fun _ => h1⟩
  | key h hk => exact ⟨fun e => by omega, fun e => by omega⟩
  | sign h hs => exact ⟨fun e => by omega, fun e => by omega⟩
/-- a text that is a key or a sign is a word's just where the word is one -/
theorem txt_iff {ws : List WordV} (hw : ∀ x ∈ ws, WordIs x) {n : Nat} (hn : n < ws.length) {s : ByteArray} (hs : isKeyB s = true ∨ isSgnL s.data.toList = true) : ws[n].a1 = s ↔ txt ws n = s := by
  unfold txt
  rw [List.getElem?_eq_getElem hn]
  simp only
  have hne : s ≠ ⟨#[]⟩ := by
    rintro rfl
    rcases hs with h | h
    · exact absurd h (by decide)
    · exact absurd h (by decide)
  have hkl : isKeyB s = true → letB (byteAt s 0) = true := fun h => by
    unfold isKeyB at h
    rw [List.any_eq_true] at h
    obtain ⟨k, hk, e⟩ := h
    have e := of_decide_eq_true e
    subst e
    simp only [keyStrs, List.mem_cons, List.not_mem_nil, or_false] at hk
    rcases hk with rfl | rfl | rfl | rfl | rfl | rfl | rfl | rfl | rfl | rfl | rfl | rfl | rfl | rfl | rfl <;> decide
  have hsl : isSgnL s.data.toList = true → letB (byteAt s 0) = false ∧ digB (byteAt s 0) = false := fun h => by
    unfold isSgnL at h
    rw [List.any_eq_true] at h
    obtain ⟨g, hg, e⟩ := h
    have e : g = s.data.toList := by simpa using e
    have es : s = ⟨g.toArray⟩ := by rw [e]
    subst es
    simp only [signLs, List.mem_cons, List.not_mem_nil, or_false] at hg
    rcases hg with rfl | rfl | rfl | rfl | rfl | rfl | rfl | rfl | rfl | rfl | rfl | rfl | rfl | rfl <;> decide
  cases hw ws[n] (List.getElem_mem hn) with
  | num h h1 hd =>
    rw [if_neg (by omega)]
    refine ⟨fun e => ?_, fun e => absurd e.symm hne⟩
    have hd0 : digB (byteAt ws[n].a1 0) = true := by
      have h0 : 0 < ws[n].a1.data.toList.length := by rw [Array.length_toList]; exact h1.1
      have := hd _ (List.getElem_mem h0)
      unfold digB byteAt
      have h00 : 0 < ws[n].a1.data.size := h1.1
      rw [Array.getD, dif_pos h00]
      have e9 : ws[n].a1.data.toList[0] = ws[n].a1.data.getInternal 0 h00 := rfl
      rw [e9] at this
      simp only [Bool.and_eq_true, decide_eq_true_eq]
      omega
    rw [e] at hd0
    rcases hs with q | q
    · have := hkl q
      unfold letB digB at *
      simp only [Bool.and_eq_true, decide_eq_true_eq] at *
      omega
    · rw [(hsl q).2] at hd0; cases hd0
  | name h h1 hl hk =>
    rw [if_neg (by omega)]
    refine ⟨fun e => ?_, fun e => absurd e.symm hne⟩
    rw [e] at hl hk
    rcases hs with q | q
    · rw [q] at hk; cases hk
    · rw [(hsl q).1] at hl; cases hl
  | key h hk => rw [if_pos (by omega)]
  | sign h hs' => rw [if_pos (by omega)]
end Go.Proofs.YtaonajalokhngaaGreatDoor

namespace Go.Proofs.YtaonajalokhngaaGreatDoor
open Go.RowKit Go.Maps

/-- what the program's table says of each kind: how many kids, its level, its word -/
def shapesL : List (Int × Int × ByteArray) :=
  [(0, 0, ⟨#[]⟩), (0, 7, ⟨#[]⟩), (0, 7, ⟨#[]⟩), (1, 6, ⟨#[45]⟩), (1, 6, ⟨#[110, 111, 116]⟩), (2, 5, ⟨#[42]⟩), (2, 5, ⟨#[47]⟩), (2, 5, ⟨#[37]⟩), (2, 4, ⟨#[43]⟩), (2, 4, ⟨#[45]⟩),
   (2, 3, ⟨#[61]⟩), (2, 3, ⟨#[33, 61]⟩), (2, 3, ⟨#[60]⟩), (2, 3, ⟨#[60, 61]⟩), (2, 3, ⟨#[62]⟩), (2, 3, ⟨#[62, 61]⟩), (2, 2, ⟨#[97, 110, 100]⟩), (2, 1, ⟨#[111, 114]⟩),
   (2, 7, ⟨#[109, 105, 110]⟩), (2, 7, ⟨#[109, 97, 120]⟩), (1, 7, ⟨#[97, 98, 115]⟩), (3, 0, ⟨#[105, 102]⟩), (2, 0, ⟨#[108, 101, 116]⟩), (3, 0, ⟨#[114, 101, 112]⟩)]
theorem shapes_len : shapesL.length = 24 := rfl
/-- the table lies in its variable -/
def ShapesIn (w : World) : Prop :=
  1 < w.heap.size ∧ ∀ k (h : k < shapesL.length), w.cell? ⟨1, k * 3, none⟩ = some (.int .i64 shapesL[k].1) ∧ w.cell? ⟨1, k * 3 + 1, none⟩ = some (.int .i64 shapesL[k].2.1) ∧ w.cell? ⟨1, k * 3 + 2, none⟩ = some (.string shapesL[k].2.2)
theorem ShapesIn.below {w w' : World} {B : Nat} (h : ShapesIn w) (hb : Below B w w') (hB : w.heap.size ≤ B) : ShapesIn w' := by
  refine ⟨Nat.lt_of_lt_of_le h.1 hb.size, fun k hk => ?_⟩
  obtain ⟨a, b, c⟩ := h.2 k hk
  exact ⟨(hb.cell (Nat.lt_of_lt_of_le h.1 hB)).trans a, (hb.cell (Nat.lt_of_lt_of_le h.1 hB)).trans b, (hb.cell (Nat.lt_of_lt_of_le h.1 hB)).trans c⟩

end Go.Proofs.YtaonajalokhngaaGreatDoor
