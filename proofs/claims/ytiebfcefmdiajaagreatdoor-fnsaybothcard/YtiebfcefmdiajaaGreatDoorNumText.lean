/-
  Texts of numbers, and lists of bytes that are cut at a byte: mathematics alone.
-/
import Derived.Test.YtiebfcefmdiajaaGreatDoorMerged34
import Derived.Lib.Join
set_option linter.unusedVariables false
namespace Go.Proofs.YtiebfcefmdiajaaGreatDoor
open Go.RowKit Go.Maps

theorem snoc_ind {α : Type} {P : List α → Prop} (h0 : P []) (h1 : ∀ l b, P l → P (l ++ [b])) (l : List α) : P l := by
  have h : ∀ n (l : List α), l.length = n → P l := by
    intro n
    induction n with
    | zero => intro l hl; rw [List.eq_nil_of_length_eq_zero hl]; exact h0
    | succ n ih =>
      intro l hl
      have hne : l ≠ [] := by intro e; rw [e] at hl; cases hl
      rw [← List.dropLast_concat_getLast hne]
      exact h1 _ _ (ih _ (by rw [List.length_dropLast]; omega))
  exact h l.length l rfl
/-- one byte more, of what is cut at each c: the parts that are whole, the part that is open -/
def cutStep (c : UInt8) (s : List (List UInt8) × List UInt8) (b : UInt8) : List (List UInt8) × List UInt8 := if b = c then (s.1 ++ [s.2], []) else (s.1, s.2 ++ [b])
def cutSt (c : UInt8) (bs : List UInt8) : List (List UInt8) × List UInt8 := bs.foldl (cutStep c) ([], [])
def cutB (c : UInt8) (bs : List UInt8) : List (List UInt8) := (cutSt c bs).1 ++ [(cutSt c bs).2]
theorem cutSt_snoc (c : UInt8) (bs : List UInt8) (b : UInt8) : cutSt c (bs ++ [b]) = cutStep c (cutSt c bs) b := by simp [cutSt]
theorem join_snocL (ps : List (List UInt8)) (p sep : List UInt8) (h : ps ≠ []) : Lib.join (ps ++ [p]) sep = Lib.join ps sep ++ sep ++ p := by
  cases ps with
  | nil => exact absurd rfl h
  | cons x r => rw [List.cons_append, Lib.join_cons, Lib.join_cons]; simp [Lib.joinTail]
theorem join_more (ps : List (List UInt8)) (p q sep : List UInt8) : Lib.join (ps ++ [p ++ q]) sep = Lib.join (ps ++ [p]) sep ++ q := by
  by_cases h : ps = []
  · subst h; simp [Lib.join_one]
  · rw [join_snocL _ _ _ h, join_snocL _ _ _ h]; simp
theorem cut_joinSt (c : UInt8) (bs : List UInt8) : Lib.join ((cutSt c bs).1 ++ [(cutSt c bs).2]) [c] = bs := by
  induction bs using snoc_ind with
  | h0 => simp [cutSt, Lib.join_one]
  | h1 bs b ih =>
    rw [cutSt_snoc]
    unfold cutStep
    split
    · rename_i e
      rw [join_snocL _ _ _ (by simp), ih, e]; simp
    · rw [join_more, ih]
theorem cut_join (c : UInt8) (bs : List UInt8) : Lib.join (cutB c bs) [c] = bs := cut_joinSt c bs
theorem cut_free (c : UInt8) (bs : List UInt8) : ∀ p ∈ cutB c bs, c ∉ p := by
  unfold cutB
  induction bs using snoc_ind with
  | h0 => simp [cutSt]
  | h1 bs b ih =>
    rw [cutSt_snoc]
    unfold cutStep
    intro p hp
    split at hp
    · simp only [List.mem_append, List.mem_cons, List.not_mem_nil, or_false] at hp
      rcases hp with (hp | hp) | hp
      · exact ih p (by simp [hp])
      · exact ih p (by simp [hp])
      · rw [hp]; simp
    · rename_i e
      simp only [List.mem_append, List.mem_cons, List.not_mem_nil, or_false] at hp
      rcases hp with hp | hp
      · exact ih p (by simp [hp])
      · rw [hp]
        intro hm
        rcases List.mem_append.1 hm with q | q
        · exact ih _ (by simp) q
        · simp at q; exact e q.symm
theorem fold_free (c : UInt8) (p : List UInt8) (h : c ∉ p) (s : List (List UInt8) × List UInt8) : p.foldl (cutStep c) s = (s.1, s.2 ++ p) := by
  induction p generalizing s with
  | nil => simp
  | cons b r ih =>
    simp at h
    rw [List.foldl_cons, cutStep, if_neg (fun e => h.1 e.symm), ih h.2]
    simp
theorem fold_tail (c : UInt8) (r : List (List UInt8)) (h : ∀ p ∈ r, c ∉ p) (s : List (List UInt8) × List UInt8) : ((Lib.joinTail [c] r).foldl (cutStep c) s).1 ++ [((Lib.joinTail [c] r).foldl (cutStep c) s).2] = s.1 ++ [s.2] ++ r := by
  induction r generalizing s with
  | nil => simp [Lib.joinTail]
  | cons p r ih =>
    have e : Lib.joinTail [c] (p :: r) = c :: (p ++ Lib.joinTail [c] r) := by simp [Lib.joinTail]
    rw [e, List.foldl_cons, cutStep, if_pos rfl, List.foldl_append, fold_free c p (h p (by simp)), ih (fun q hq => h q (by simp [hq]))]
    simp
theorem cut_back (c : UInt8) (ps : List (List UInt8)) (h0 : ps ≠ []) (h : ∀ p ∈ ps, c ∉ p) : cutB c (Lib.join ps [c]) = ps := by
  cases ps with
  | nil => exact absurd rfl h0
  | cons p r =>
    unfold cutB cutSt
    rw [Lib.join_cons, List.foldl_append, fold_free c p (h p (by simp)), fold_tail c r (fun q hq => h q (by simp [hq]))]
    simp

def digN (b : UInt8) : Bool := decide (48 ≤ b.toNat) && decide (b.toNat ≤ 57)
def decV (l : List UInt8) : Nat := l.foldl (fun a b => 10 * a + (b.toNat - 48)) 0
theorem decV_snoc (l : List UInt8) (b : UInt8) : decV (l ++ [b]) = 10 * decV l + (b.toNat - 48) := by simp [decV]
theorem decV_lt (l : List UInt8) (h : l.all digN = true) : decV l < 10 ^ l.length := by
  induction l using snoc_ind with
  | h0 => simp [decV]
  | h1 l b ih =>
    simp only [List.all_append, List.all_cons, List.all_nil, Bool.and_true, Bool.and_eq_true] at h
    have h1 := ih h.1
    have h2 := h.2
    unfold digN at h2
    simp at h2
    rw [decV_snoc, List.length_append, List.length_cons, List.length_nil, Nat.pow_succ]
    omega
theorem decV_take (l : List UInt8) (k : Nat) (h : k < l.length) : decV (l.take (k + 1)) = 10 * decV (l.take k) + (l[k].toNat - 48) := by
  rw [List.take_succ_eq_append_getElem h, decV_snoc]
theorem decV_mono (l : List UInt8) (k : Nat) : decV (l.take k) ≤ decV l := by
  induction l using snoc_ind with
  | h0 => simp
  | h1 l b ih =>
    by_cases h : k ≤ l.length
    · rw [List.take_append_of_le_length h, decV_snoc]; omega
    · rw [List.take_of_length_le (by rw [List.length_append]; simp only [List.length_cons, List.length_nil]; omega)]; exact Nat.le_refl _
theorem dig_toNat {u : Nat} (h : u < 10) : (UInt8.ofNat (48 + u)).toNat = 48 + u := by
  rw [UInt8.toNat_ofNat']
  exact Nat.mod_eq_of_lt (by omega)
theorem dec_dig (u : Nat) : (Lib.decDigits u).all digN = true := by
  induction u using Nat.strongRecOn with
  | _ u ih =>
    rw [Lib.decDigits]
    split
    · rename_i h
      have := dig_toNat h
      simp only [List.all_cons, List.all_nil, Bool.and_true, digN, this, Bool.and_eq_true, decide_eq_true_eq]; omega
    · rename_i h
      have := dig_toNat (show u % 10 < 10 by omega)
      rw [List.all_append, ih (u / 10) (by omega)]
      simp only [List.all_cons, List.all_nil, Bool.and_true, Bool.true_and, digN, this, Bool.and_eq_true, decide_eq_true_eq]; omega
theorem dec_val (u : Nat) : decV (Lib.decDigits u) = u := by
  induction u using Nat.strongRecOn with
  | _ u ih =>
    rw [Lib.decDigits]
    split
    · rename_i h
      have := dig_toNat h
      simp only [decV, List.foldl_cons, List.foldl_nil, this]; omega
    · rename_i h
      have := dig_toNat (show u % 10 < 10 by omega)
      rw [decV_snoc, ih (u / 10) (by omega), this]; omega
theorem dec_ne (u : Nat) : Lib.decDigits u ≠ [] := by
  rw [Lib.decDigits]
  split <;> simp
theorem dec_head (u : Nat) (h : 1 ≤ u) : ∀ b r, Lib.decDigits u = b :: r → b ≠ 48 := by
  induction u using Nat.strongRecOn with
  | _ u ih =>
    intro b r e
    rw [Lib.decDigits] at e
    split at e
    · rename_i h10
      simp only [List.cons.injEq] at e
      intro e2
      have := congrArg UInt8.toNat (e.1.trans e2)
      rw [dig_toNat h10] at this
      have e48 : (48 : UInt8).toNat = 48 := rfl
      omega
    · rename_i h10
      obtain ⟨b', r', e'⟩ := List.exists_cons_of_ne_nil (dec_ne (u / 10))
      rw [e'] at e
      simp only [List.cons_append, List.cons.injEq] at e
      rw [← e.1]
      exact ih (u / 10) (by omega) (by omega) b' r' e'
theorem decV_pos (l : List UInt8) (hd : l.all digN = true) (h0 : l ≠ []) (hh : l.head h0 ≠ 48) : 1 ≤ decV l := by
  induction l using snoc_ind with
  | h0 => exact absurd rfl h0
  | h1 l b ih =>
    rw [decV_snoc]
    simp only [List.all_append, List.all_cons, List.all_nil, Bool.and_true, Bool.and_eq_true] at hd
    by_cases hl : l = []
    · subst hl
      simp at hh
      have h2 := hd.2
      unfold digN at h2
      simp at h2
      have : b.toNat ≠ 48 := fun e => hh (UInt8.toNat_inj.1 (by simpa using e))
      simp [decV]; omega
    · have := ih hd.1 hl (by rw [List.head_append_of_ne_nil hl] at hh; exact hh)
      omega
/-- digits without a needless 0 ahead are written by the number that they spell -/
theorem dec_canon (l : List UInt8) (hd : l.all digN = true) (h0 : l ≠ []) (hh : l.head h0 ≠ 48 ∨ l.length = 1) : Lib.decDigits (decV l) = l := by
  induction l using snoc_ind with
  | h0 => exact absurd rfl h0
  | h1 l b ih =>
    have hd' := hd
    simp only [List.all_append, List.all_cons, List.all_nil, Bool.and_true, Bool.and_eq_true] at hd
    have h2 := hd.2
    unfold digN at h2
    simp at h2
    have hb : UInt8.ofNat (48 + (b.toNat - 48)) = b := by
      rw [show 48 + (b.toNat - 48) = b.toNat by omega]
      simp
    rw [decV_snoc]
    by_cases hl : l = []
    · subst hl
      have : decV [] = 0 := rfl
      rw [this, Nat.mul_zero, Nat.zero_add, Lib.decDigits, dif_pos (by omega), hb]
      rfl
    · have hh' : l.head hl ≠ 48 := by
        rcases hh with hh | hh
        · rw [List.head_append_of_ne_nil hl] at hh; exact hh
        · have : l.length ≠ 0 := fun e => hl (List.eq_nil_of_length_eq_zero e)
          rw [List.length_append] at hh; simp only [List.length_cons, List.length_nil] at hh; omega
      have h1 := decV_pos l hd.1 hl hh'
      rw [Lib.decDigits, dif_neg (by omega)]
      have e1 : (10 * decV l + (b.toNat - 48)) / 10 = decV l := by omega
      have e2 : (10 * decV l + (b.toNat - 48)) % 10 = b.toNat - 48 := by omega
      rw [e1, e2, ih hd.1 hl (.inl hh'), hb]
end Go.Proofs.YtiebfcefmdiajaaGreatDoor
