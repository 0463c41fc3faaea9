/-
  Cutting a text into words: mathematics alone.
-/
import Derived.Test.YtjfebnplffpmoaaGreatDoorMerged5
set_option linter.unusedVariables false
namespace Go.Proofs.YtjfebnplffpmoaaGreatDoor
open Go.RowKit Go.Maps

structure WordV where
  a0 : Int
  a1 : ByteArray
  a2 : Int
def WordFit (x : WordV) : Prop := x.a1.size ≤ maxLen ∧ (-9223372036854775808 ≤ x.a0 ∧ x.a0 ≤ 9223372036854775807) ∧ (-9223372036854775808 ≤ x.a2 ∧ x.a2 ≤ 9223372036854775807)
inductive WRes where
  | bad (c : Int)
  | word (w : WordV) (e : Nat)
inductive LRes where
  | bad (c a : Int)
  | ok (ws : List WordV)
def LRes.cons (w : WordV) : LRes → LRes
  | .bad c a => .bad c a
  | .ok ws => .ok (w :: ws)
def LRes.pre (xs : List WordV) : LRes → LRes
  | .bad c a => .bad c a
  | .ok ws => .ok (xs ++ ws)
theorem LRes.pre_nil (r : LRes) : r.pre [] = r := by cases r <;> rfl
theorem LRes.pre_cons (xs : List WordV) (w : WordV) (r : LRes) : (r.cons w).pre xs = r.pre (xs ++ [w]) := by cases r <;> simp [LRes.cons, LRes.pre]

def signLs : List (List UInt8) := [[33, 61], [60, 61], [62, 61], [40], [41], [44], [43], [45], [42], [47], [37], [61], [60], [62]]
def isSgnL (t : List UInt8) : Bool := signLs.any fun g => g == t
def signPreL (l : List UInt8) : List UInt8 := (signLs.find? fun g => g.isPrefixOf l).getD []

theorem ne_beq {a b : UInt8} (h : b ≠ a) : (a == b) = false := by
  rw [beq_eq_false_iff_ne]
  exact fun e => h e.symm
theorem sign_one (b : UInt8) (r : List UInt8) (h : r.head? ≠ some 61 ∨ isSgnL [b, 61] = false) : signPreL (b :: r) = if isSgnL [b] then [b] else [] := by
  by_cases h1 : b = 33
  · subst h1
    cases r with
    | nil => rfl
    | cons c r =>
      have hc : c ≠ 61 := by rcases h with h | h; simpa using h; exact absurd h (by decide)
      have hc2 : (61 == c) = false := ne_beq hc
      simp [signPreL, signLs, List.find?, List.isPrefixOf, hc2]; decide
  by_cases h2 : b = 60
  · subst h2
    cases r with
    | nil => rfl
    | cons c r =>
      have hc : c ≠ 61 := by rcases h with h | h; simpa using h; exact absurd h (by decide)
      have hc2 : (61 == c) = false := ne_beq hc
      simp [signPreL, signLs, List.find?, List.isPrefixOf, hc2]; decide
  by_cases h3 : b = 62
  · subst h3
    cases r with
    | nil => rfl
    | cons c r =>
      have hc : c ≠ 61 := by rcases h with h | h; simpa using h; exact absurd h (by decide)
      have hc2 : (61 == c) = false := ne_beq hc
      simp [signPreL, signLs, List.find?, List.isPrefixOf, hc2]; decide
  have e1 : (33 == b) = false := ne_beq h1
  have e2 : (60 == b) = false := ne_beq h2
  have e3 : (62 == b) = false := ne_beq h3
  by_cases h4 : b ∈ ([40, 41, 44, 43, 45, 42, 47, 37, 61] : List UInt8)
  · simp only [List.mem_cons, List.not_mem_nil, or_false] at h4
    rcases h4 with rfl | rfl | rfl | rfl | rfl | rfl | rfl | rfl | rfl <;> simp [signPreL, signLs, List.find?, List.isPrefixOf] <;> decide
  · simp only [List.mem_cons, List.not_mem_nil, or_false, not_or] at h4
    obtain ⟨q1, q2, q3, q4, q5, q6, q7, q8, q9⟩ := h4
    have f1 : (40 == b) = false := ne_beq q1
    have f2 : (41 == b) = false := ne_beq q2
    have f3 : (44 == b) = false := ne_beq q3
    have f4 : (43 == b) = false := ne_beq q4
    have f5 : (45 == b) = false := ne_beq q5
    have f6 : (42 == b) = false := ne_beq q6
    have f7 : (47 == b) = false := ne_beq q7
    have f8 : (37 == b) = false := ne_beq q8
    have f9 : (61 == b) = false := ne_beq q9
    have g : isSgnL [b] = false := by
      unfold isSgnL signLs
      simp [List.any_cons, e2, e3, f1, f2, f3, f4, f5, f6, f7, f8, f9]
    rw [g]
    simp [signPreL, signLs, List.find?, List.isPrefixOf, e1, e2, e3, f1, f2, f3, f4, f5, f6, f7, f8, f9]
theorem sign_two (b : UInt8) (r : List UInt8) (h : isSgnL [b, 61] = true) : signPreL (b :: 61 :: r) = [b, 61] := by
  unfold isSgnL at h
  rw [List.any_eq_true] at h
  obtain ⟨g, hg, he⟩ := h
  have : g = [b, 61] := by simpa using he
  subst this
  simp [signLs] at hg
  rcases hg with rfl | rfl | rfl <;> simp [signPreL, signLs, List.find?, List.isPrefixOf]
theorem sgn_len {t : List UInt8} (h : isSgnL t = true) : 1 ≤ t.length ∧ t.length ≤ 2 ∧ ∀ b ∈ t, b < 128 := by
  unfold isSgnL at h
  rw [List.any_eq_true] at h
  obtain ⟨g, hg, he⟩ := h
  have : g = t := by simpa using he
  subst this
  simp only [signLs, List.mem_cons, List.not_mem_nil, or_false] at hg
  rcases hg with rfl | rfl | rfl | rfl | rfl | rfl | rfl | rfl | rfl | rfl | rfl | rfl | rfl | rfl <;> decide
theorem sign_high {b : UInt8} (r : List UInt8) (h : 128 ≤ b.toNat) : signPreL (b :: r) = [] ∧ isSgnL (b :: r) = false := by
  have hn : ∀ t : List UInt8, isSgnL t = true → t.head? ≠ some b := fun t ht e => by
    have := (sgn_len ht).2.2 b (List.mem_of_mem_head? e)
    have : b.toNat < 128 := this
    omega
  refine ⟨?_, ?_⟩
  · unfold signPreL
    have : (signLs.find? fun g => g.isPrefixOf (b :: r)) = none := by
      rw [List.find?_eq_none]
      intro g hg hp
      have h1 : isSgnL g = true := by unfold isSgnL; rw [List.any_eq_true]; exact ⟨g, hg, by simp⟩
      have h2 := sgn_len h1
      rw [List.isPrefixOf_iff_prefix] at hp
      match g, h2.1 with
      | c :: g', _ =>
        have : c = b := by simpa using (List.cons_prefix_cons.1 hp).1
        exact hn (c :: g') h1 (by simp [this])
    rw [this]
    rfl
  · cases hq : isSgnL (b :: r)
    · rfl
    · exact absurd rfl (hn _ hq)

/-- the end of a run of digits, or of letters and digits -/
def runEnd (s : ByteArray) (ls : Bool) (k : Nat) : Nat :=
  if h : k < s.size then (if digB (byteAt s k) || (ls && letB (byteAt s k)) then runEnd s ls (k + 1) else k) else k
termination_by s.size - k
theorem run_is (s : ByteArray) (ls : Bool) (k : Nat) (hk : k ≤ s.size) (he : k = s.size ∨ (digB (byteAt s k) || (ls && letB (byteAt s k))) = false) : ∀ n st, st + n = k → (∀ i, st ≤ i → i < k → (digB (byteAt s i) || (ls && letB (byteAt s i))) = true) → runEnd s ls st = k := by
  intro n
  induction n with
  | zero =>
    intro st h1 h2
    obtain rfl : st = k := by omega
    rw [runEnd]
    rcases he with rfl | he
    · simp
    · rw [he]; simp
  | succ n ih =>
    intro st h1 h2
    rw [runEnd, dif_pos (by omega), if_pos (h2 st (Nat.le_refl _) (by omega))]
    exact ih (st + 1) (by omega) (fun i q1 q2 => h2 i (by omega) q2)
def numOkB (t : ByteArray) : Bool := decide (t.size ≤ 18) && (decide (t.size = 1) || !decide (byteAt t 0 = 48))
def tailL (s : ByteArray) (k : Nat) : List UInt8 := (s.extract k s.size).data.toList
def wordAt (s : ByteArray) (k : Nat) : WRes :=
  if digB (byteAt s k) then
    (if 18 < (s.extract k (runEnd s false k)).size ∨ (byteAt s k = 48 ∧ 1 < (s.extract k (runEnd s false k)).size) then .bad 3
     else .word ⟨1, s.extract k (runEnd s false k), k⟩ (runEnd s false k))
  else if letB (byteAt s k) then
    (if 8 < (s.extract k (runEnd s true k)).size then .bad 4
     else .word ⟨if isKeyB (s.extract k (runEnd s true k)) then 3 else 2, s.extract k (runEnd s true k), k⟩ (runEnd s true k))
  else if signPreL (tailL s k) = [] then .bad 2
  else .word ⟨4, ⟨(signPreL (tailL s k)).toArray⟩, k⟩ (k + (signPreL (tailL s k)).length)
def lexR (s : ByteArray) (k : Nat) : LRes :=
  if h : k < s.size then
    (if byteAt s k = 32 then lexR s (k + 1)
     else match wordAt s k with
      | .bad c => .bad c k
      | .word w e => (lexR s (max e (k + 1))).cons w)
  else .ok []
termination_by s.size - k
decreasing_by all_goals omega

/-- what the open word comes to at its end -/
def closeW (s : ByteArray) (opn : Int) (st k : Nat) : WRes :=
  if opn = 1 ∧ numOkB (s.extract st k) = false then .bad 3
  else if opn = 2 ∧ 8 < (s.extract st k).size then .bad 4
  else if opn = 4 ∧ isSgnL (s.extract st k).data.toList = false then .bad 2
  else .word ⟨if opn = 2 ∧ isKeyB (s.extract st k) = true then 3 else opn, s.extract st k, st⟩ k
def goB (s : ByteArray) (opn : Int) (st k : Nat) : Bool :=
  if opn = 1 then digB (byteAt s k) else if opn = 2 then letB (byteAt s k) || digB (byteAt s k)
  else if opn = 4 then decide (byteAt s k = 61) && isSgnL ((s.extract st k).data.toList ++ [61]) else false
inductive OpenAt (s : ByteArray) : Int → Nat → Nat → Prop
  | none (st k : Nat) : OpenAt s 0 st k
  | num (st k : Nat) (h : st < k) (hd : ∀ i, st ≤ i → i < k → digB (byteAt s i) = true) : OpenAt s 1 st k
  | name (st k : Nat) (h : st < k) (h0 : letB (byteAt s st) = true) (hd : ∀ i, st ≤ i → i < k → (digB (byteAt s i) || letB (byteAt s i)) = true) : OpenAt s 2 st k
  | one (st : Nat) (hs : st < s.size) (hb : byteAt s st < 128) (h1 : digB (byteAt s st) = false) (h2 : letB (byteAt s st) = false) (h3 : byteAt s st ≠ 32) : OpenAt s 4 st (st + 1)
  | two (st : Nat) (hs : st + 1 < s.size) (h1 : digB (byteAt s st) = false) (h2 : letB (byteAt s st) = false) (h3 : byteAt s st ≠ 32) (he : byteAt s (st + 1) = 61) (hg : isSgnL [s.data.getD st 0, 61] = true) : OpenAt s 4 st (st + 2)
  | high (st k : Nat) (hs : st < s.size) (h : st < k) (hb : 128 ≤ byteAt s st) : OpenAt s 4 st k

theorem ext_lst (s : ByteArray) (a b : Nat) : (s.extract a b).data.toList = (s.data.toList.drop a).take (b - a) := by
  rw [ByteArray.data_extract]
  simp
theorem tail_lst (s : ByteArray) (k : Nat) : tailL s k = s.data.toList.drop k := by
  unfold tailL
  rw [ext_lst, List.take_of_length_le]
  rw [List.length_drop]
  exact Nat.le_of_eq (by rw [Array.length_toList]; rfl)
theorem drop_all (s : ByteArray) : s.data.toList.drop s.size = [] := List.drop_of_length_le (by rw [Array.length_toList]; exact Nat.le_refl _)
theorem byte_get (s : ByteArray) (k : Nat) (h : k < s.size) : s.data.toList.drop k = s.data.getD k 0 :: s.data.toList.drop (k + 1) := by
  have h1 : k < s.data.size := h
  have h' : k < s.data.toList.length := by rw [Array.length_toList]; exact h1
  rw [List.drop_eq_getElem_cons h']
  congr 1
  rw [Array.getD, dif_pos h1]
  rfl
theorem ext_sz (s : ByteArray) (a b : Nat) (h : a ≤ b) (hb : b ≤ s.size) : (s.extract a b).size = b - a := by
  rw [ByteArray.size_extract]
  omega
theorem get_head (t : ByteArray) (x : UInt8) (r : List UInt8) (h : t.data.toList = x :: r) : t.data.getD 0 0 = x := by
  have h1 : 0 < t.data.size := by rw [← Array.length_toList, h]; simp
  rw [Array.getD, dif_pos h1]
  have h2 : t.data.toList[0]'(by rw [h]; simp) = x := by simp [h]
  simpa using h2
theorem ext_byte (s : ByteArray) (a b : Nat) (h : a < b) (hb : b ≤ s.size) : byteAt (s.extract a b) 0 = byteAt s a := by
  unfold byteAt
  obtain ⟨m, hm⟩ : ∃ m, b - a = m + 1 := ⟨b - a - 1, by omega⟩
  rw [get_head _ (s.data.getD a 0) ((s.data.toList.drop (a + 1)).take m) (by rw [ext_lst, byte_get s a (by omega), hm, List.take_succ_cons])]
theorem ba_ext {a b : ByteArray} (h : a.data.toList = b.data.toList) : a = b := by
  cases a; cases b
  simp at h
  simp [h]
/-- where the open word ends, it is the word that begins at its first byte -/
theorem end_word {s : ByteArray} {opn : Int} {st k : Nat} (ho : OpenAt s opn st k) (hk : k ≤ s.size) (h0 : opn ≠ 0) (hg : k = s.size ∨ goB s opn st k = false) : wordAt s st = closeW s opn st k ∧ byteAt s st ≠ 32 ∧ st < k := by
  cases ho with
  | none st k => exact absurd rfl h0
  | num st k h hd =>
    have hs := hd st (Nat.le_refl _) h
    have hr : runEnd s false st = k := run_is s false k hk (by
      rcases hg with hg | hg
      · exact .inl hg
      · exact .inr (by simpa [goB] using hg)) (k - st) st (by omega) (fun i h1 h2 => by simp [hd i h1 h2])
    have hz := ext_sz s st k (by omega) hk
    have hb := ext_byte s st k h hk
    refine ⟨?_, ?_, h⟩
    · unfold wordAt closeW
      rw [if_pos hs, hr]
      have e : (18 < (s.extract st k).size ∨ byteAt s st = 48 ∧ 1 < (s.extract st k).size) ↔ ((1 : Int) = 1 ∧ numOkB (s.extract st k) = false) := by
        unfold numOkB
        rw [hb]
        simp only [Bool.and_eq_false_iff, Bool.or_eq_false_iff, decide_eq_false_iff_not, Bool.not_eq_false', decide_eq_true_eq, true_and]
        omega
      by_cases q : (18 < (s.extract st k).size ∨ byteAt s st = 48 ∧ 1 < (s.extract st k).size)
      · rw [if_pos q, if_pos (e.1 q)]
      · rw [if_neg q, if_neg (fun x => q (e.2 x)), if_neg (fun x => absurd x.1 (by decide)), if_neg (fun x => absurd x.1 (by decide)), if_neg (fun x => absurd x.1 (by decide))]
    · intro e
      rw [e] at hs
      exact absurd hs (by decide)
  | name st k h h1 hd =>
    have hs : digB (byteAt s st) = false := by
      unfold letB at h1
      unfold digB
      simp only [Bool.and_eq_true, decide_eq_true_eq] at h1
      simp; omega
    have hr : runEnd s true st = k := run_is s true k hk (by
      rcases hg with hg | hg
      · exact .inl hg
      · exact .inr (by have := hg; simp [goB] at this; simp [this])) (k - st) st (by omega) (fun i q1 q2 => by simpa using hd i q1 q2)
    refine ⟨?_, ?_, h⟩
    · unfold wordAt closeW
      rw [if_neg (by rw [hs]; simp), if_pos h1, hr]
      generalize s.extract st k = t
      by_cases q : 8 < t.size <;> simp [q]
    · intro e
      rw [e] at h1
      exact absurd h1 (by decide)
  | one st hs hb h1 h2 h3 =>
    refine ⟨?_, h3, Nat.lt_succ_self _⟩
    have hl : (s.extract st (st + 1)).data.toList = [s.data.getD st 0] := by rw [ext_lst, byte_get s st hs]; simp
    have hp : signPreL (tailL s st) = if isSgnL [s.data.getD st 0] then [s.data.getD st 0] else [] := by
      rw [tail_lst, byte_get s st hs]
      refine sign_one _ _ ?_
      rcases hg with hg | hg
      · left
        rw [hg, drop_all]
        simp
      · by_cases hlt : st + 1 < s.size
        · rw [byte_get s (st + 1) hlt]
          unfold goB at hg
          rw [if_neg (by decide), if_neg (by decide), if_pos rfl, hl] at hg
          simp only [Bool.and_eq_false_iff, decide_eq_false_iff_not] at hg
          rcases hg with hg | hg
          · left
            simp only [List.head?_cons, ne_eq, Option.some.injEq]
            intro e
            exact hg (by unfold byteAt; rw [e]; rfl)
          · right; exact hg
        · left
          obtain e : st + 1 = s.size := by omega
          rw [e, drop_all]
          simp
    unfold wordAt closeW
    rw [if_neg (by rw [h1]; simp), if_neg (by rw [h2]; simp), hp, hl]
    generalize s.data.getD st 0 = b at hl hp
    generalize s.extract st (st + 1) = t at hl ⊢
    cases hq : isSgnL [b]
    · simp
    · have ht : (⟨#[b]⟩ : ByteArray) = t := ba_ext (by rw [hl])
      simp [ht]
  | two st hs h1 h2 h3 he hgg =>
    refine ⟨?_, h3, by omega⟩
    have hb61 : s.data.getD (st + 1) 0 = 61 := by
      have h9 : ((s.data.getD (st + 1) 0).toNat : Int) = 61 := he
      have h8 : (s.data.getD (st + 1) 0).toNat = 61 := by omega
      exact UInt8.toNat_inj.1 h8
    have hl : (s.extract st (st + 2)).data.toList = [s.data.getD st 0, 61] := by rw [ext_lst, byte_get s st (by omega), byte_get s (st + 1) hs, hb61]; simp
    have hp : signPreL (tailL s st) = [s.data.getD st 0, 61] := by
      rw [tail_lst, byte_get s st (by omega), byte_get s (st + 1) hs, hb61]
      exact sign_two _ _ hgg
    unfold wordAt closeW
    rw [if_neg (by rw [h1]; simp), if_neg (by rw [h2]; simp), hp, hl, hgg]
    generalize s.data.getD st 0 = b at hl hp
    generalize s.extract st (st + 2) = t at hl ⊢
    have ht : (⟨#[b, 61]⟩ : ByteArray) = t := ba_ext (by rw [hl])
    simp [ht]
  | high st k hs h hb =>
    have h1 : digB (byteAt s st) = false := by unfold digB; simp; omega
    have h2 : letB (byteAt s st) = false := by unfold letB; simp; omega
    have hbn : 128 ≤ (s.data.getD st 0).toNat := by unfold byteAt at hb; omega
    refine ⟨?_, by omega, h⟩
    have hp : signPreL (tailL s st) = [] := by
      rw [tail_lst, byte_get s st hs]
      exact (sign_high _ hbn).1
    have hl : isSgnL (s.extract st k).data.toList = false := by
      rw [ext_lst, byte_get s st hs]
      obtain ⟨m, hm⟩ : ∃ m, k - st = m + 1 := ⟨k - st - 1, by omega⟩
      rw [hm, List.take_succ_cons]
      exact (sign_high _ hbn).2
    unfold wordAt closeW
    rw [if_neg (by rw [h1]; simp), if_neg (by rw [h2]; simp), if_pos hp, if_neg (fun x => absurd x.1 (by decide)), if_neg (fun x => absurd x.1 (by decide)), if_pos ⟨rfl, hl⟩]
def contR (s : ByteArray) (opn : Int) (st k : Nat) : LRes := if opn = 0 then lexR s k else lexR s st
theorem lex_close {s : ByteArray} {opn : Int} {st k : Nat} (ho : OpenAt s opn st k) (hk : k ≤ s.size) (h0 : opn ≠ 0) (hg : k = s.size ∨ goB s opn st k = false) :
    contR s opn st k = match closeW s opn st k with | .bad c => .bad c st | .word w _ => (lexR s k).cons w := by
  obtain ⟨h1, h2, h3⟩ := end_word ho hk h0 hg
  unfold contR
  rw [if_neg h0, lexR, dif_pos (by omega), if_neg h2, h1]
  unfold closeW
  by_cases q1 : opn = 1 ∧ numOkB (s.extract st k) = false
  · rw [if_pos q1]
  rw [if_neg q1]
  by_cases q2 : opn = 2 ∧ 8 < (s.extract st k).size
  · rw [if_pos q2]
  rw [if_neg q2]
  by_cases q3 : opn = 4 ∧ isSgnL (s.extract st k).data.toList = false
  · rw [if_pos q3]
  rw [if_neg q3]
  simp only
  rw [Nat.max_eq_left (by omega)]
theorem lex_end (s : ByteArray) (k : Nat) (h : ¬ k < s.size) : lexR s k = .ok [] := by
  rw [lexR, dif_neg h]
def beginK (b : Int) : Int := if b = 32 then 0 else if digB b then 1 else if letB b then 2 else 4
/-- a word begins at a byte -/
theorem open_begin (s : ByteArray) (k n : Nat) (hk : k < s.size) (hn : 1 ≤ n) (h1 : byteAt s k < 128 → n = 1) :
    OpenAt s (beginK (byteAt s k)) k (k + n) ∧ contR s (beginK (byteAt s k)) k (k + n) = lexR s k := by
  unfold beginK contR
  by_cases h32 : byteAt s k = 32
  · rw [if_pos h32]
    refine ⟨.none _ _, ?_⟩
    rw [if_pos rfl]
    obtain rfl := h1 (by omega)
    conv => rhs; rw [lexR, dif_pos hk, if_pos h32]
  rw [if_neg h32]
  by_cases hd : digB (byteAt s k) = true
  · rw [if_pos hd]
    refine ⟨.num _ _ (by omega) ?_, by rw [if_neg (by decide)]⟩
    have hlt : byteAt s k < 128 := by unfold digB at hd; simp only [Bool.and_eq_true, decide_eq_true_eq] at hd; omega
    obtain rfl := h1 hlt
    intro i q1 q2
    obtain rfl : i = k := by omega
    exact hd
  rw [if_neg hd]
  by_cases hl : letB (byteAt s k) = true
  · rw [if_pos hl]
    have hlt : byteAt s k < 128 := by unfold letB at hl; simp only [Bool.and_eq_true, decide_eq_true_eq] at hl; omega
    obtain rfl := h1 hlt
    refine ⟨.name _ _ (by omega) hl ?_, by rw [if_neg (by decide)]⟩
    intro i q1 q2
    obtain rfl : i = k := by omega
    simp [hl]
  rw [if_neg hl]
  refine ⟨?_, by rw [if_neg (by decide)]⟩
  by_cases hlt : byteAt s k < 128
  · obtain rfl := h1 hlt
    exact .one k hk hlt (by simpa using hd) (by simpa using hl) h32
  · exact .high k _ hk (by omega) (by omega)
/-- the open word goes on -/
theorem open_go {s : ByteArray} {opn : Int} {st k : Nat} (ho : OpenAt s opn st k) (hk : k < s.size) (hg : goB s opn st k = true) : OpenAt s opn st (k + 1) ∧ byteAt s k < 128 ∧ opn ≠ 0 := by
  cases ho with
  | none st k => simp [goB] at hg
  | num st k h hd =>
    have hg' : digB (byteAt s k) = true := by simpa [goB] using hg
    refine ⟨.num _ _ (by omega) (fun i q1 q2 => ?_), by unfold digB at hg'; simp only [Bool.and_eq_true, decide_eq_true_eq] at hg'; omega, by decide⟩
    by_cases e : i = k
    · rw [e]; exact hg'
    · exact hd i q1 (by omega)
  | name st k h h1 hd =>
    have hg' : (letB (byteAt s k) || digB (byteAt s k)) = true := by simpa [goB] using hg
    refine ⟨.name _ _ (by omega) h1 (fun i q1 q2 => ?_), ?_, by decide⟩
    · by_cases e : i = k
      · rw [e, Bool.or_comm]; exact hg'
      · exact hd i q1 (by omega)
    · unfold letB digB at hg'
      simp only [Bool.or_eq_true, Bool.and_eq_true, decide_eq_true_eq] at hg'
      omega
  | one st hs hb h1 h2 h3 =>
    have hl : (s.extract st (st + 1)).data.toList = [s.data.getD st 0] := by rw [ext_lst, byte_get s st hs]; simp
    unfold goB at hg
    rw [if_neg (by decide), if_neg (by decide), if_pos rfl, hl] at hg
    simp only [Bool.and_eq_true, decide_eq_true_eq] at hg
    exact ⟨.two st hk h1 h2 h3 hg.1 hg.2, by omega, by decide⟩
  | two st hs h1 h2 h3 he hgg =>
    have hl : (s.extract st (st + 2)).data.toList.length = 2 := by rw [Array.length_toList]; exact (ext_sz s st (st + 2) (by omega) (by omega)).trans (by omega)
    unfold goB at hg
    rw [if_neg (by decide), if_neg (by decide), if_pos rfl] at hg
    simp only [Bool.and_eq_true, decide_eq_true_eq] at hg
    have := (sgn_len hg.2).2.1
    rw [List.length_append, hl] at this
    simp at this
  | high st k hs h hb =>
    have hbn : 128 ≤ (s.data.getD st 0).toNat := by unfold byteAt at hb; omega
    unfold goB at hg
    rw [if_neg (by decide), if_neg (by decide), if_pos rfl] at hg
    simp only [Bool.and_eq_true, decide_eq_true_eq] at hg
    obtain ⟨m, hm⟩ : ∃ m, k - st = m + 1 := ⟨k - st - 1, by omega⟩
    rw [ext_lst, byte_get s st hs, hm, List.take_succ_cons, List.cons_append, (sign_high _ hbn).2] at hg
    exact absurd hg.2 (by decide)
theorem word_bad {s : ByteArray} {k : Nat} {c : Int} (h : wordAt s k = .bad c) : c = 2 ∨ c = 3 ∨ c = 4 := by
  unfold wordAt at h
  split at h
  · split at h
    · injection h with h; omega
    · cases h
  split at h
  · split at h
    · injection h with h; omega
    · cases h
  split at h
  · injection h with h; omega
  · cases h
theorem run_bounds (s : ByteArray) (ls : Bool) : ∀ n j, s.size - j = n → j ≤ s.size → j ≤ runEnd s ls j ∧ runEnd s ls j ≤ s.size := by
  intro n
  induction n with
  | zero => intro j h1 h2; rw [runEnd, dif_neg (by omega)]; omega
  | succ n ih =>
    intro j h1 h2
    rw [runEnd, dif_pos (by omega)]
    split
    · have := ih (j + 1) (by omega) (by omega); omega
    · omega
theorem pre_len (l : List UInt8) : (signPreL l).length ≤ l.length ∧ (signPreL l).length ≤ 2 := by
  unfold signPreL
  cases hq : (signLs.find? fun g => g.isPrefixOf l) with
  | none => simp
  | some g =>
    have h1 := List.find?_some hq
    have h2 := List.mem_of_find?_eq_some hq
    have h3 : isSgnL g = true := by unfold isSgnL; rw [List.any_eq_true]; exact ⟨g, h2, by simp⟩
    exact ⟨(List.isPrefixOf_iff_prefix.1 h1).length_le, (sgn_len h3).2.1⟩
theorem word_good {s : ByteArray} {k n : Nat} {x : WordV} (hk : k < s.size) (h : wordAt s k = .word x n) : k < n ∧ n ≤ s.size ∧ (1 ≤ x.a0 ∧ x.a0 ≤ 4) ∧ x.a2 = (k : Int) ∧ x.a1.size ≤ s.size := by
  have hrun : ∀ ls, (digB (byteAt s k) || (ls && letB (byteAt s k))) = true → k < runEnd s ls k ∧ runEnd s ls k ≤ s.size := fun ls hd => by
    rw [runEnd, dif_pos hk, if_pos hd]
    have := run_bounds s ls _ (k + 1) rfl (by omega)
    omega
  unfold wordAt at h
  split at h
  · rename_i hd
    split at h
    · cases h
    · injection h with h1 h2
      subst h1 h2
      have := hrun false (by rw [hd]; rfl)
      exact ⟨this.1, this.2, by simp, rfl, by simp only [ByteArray.size_extract]; omega⟩
  split at h
  · rename_i hl
    split at h
    · cases h
    · injection h with h1 h2
      subst h1 h2
      have := hrun true (by rw [hl]; simp)
      refine ⟨this.1, this.2, ?_, rfl, by simp only [ByteArray.size_extract]; omega⟩
      simp only
      split <;> omega
  split at h
  · cases h
  · rename_i hne
    injection h with h1 h2
    subst h1 h2
    have hp := pre_len (tailL s k)
    have hl : (tailL s k).length = s.size - k := by rw [tail_lst, List.length_drop, Array.length_toList]; rfl
    rw [hl] at hp
    have hp1 : 1 ≤ (signPreL (tailL s k)).length := by
      cases hq : signPreL (tailL s k) with
      | nil => exact absurd hq hne
      | cons _ _ => simp
    refine ⟨by show k < k + (signPreL (tailL s k)).length; omega, by show k + (signPreL (tailL s k)).length ≤ s.size; omega, by simp, rfl, ?_⟩
    show (signPreL (tailL s k)).length ≤ s.size
    omega
def GoodW (s : ByteArray) (x : WordV) : Prop := (1 ≤ x.a0 ∧ x.a0 ≤ 4) ∧ (0 ≤ x.a2 ∧ x.a2 ≤ s.size) ∧ x.a1.size ≤ s.size
theorem lex_small (s : ByteArray) : ∀ n k ws, s.size - k = n → lexR s k = .ok ws → ws.length ≤ s.size - k ∧ ∀ x ∈ ws, GoodW s x := by
  intro n
  induction n using Nat.strongRecOn with
  | ind n ih =>
    intro k ws hn h
    by_cases hk : k < s.size
    · rw [lexR, dif_pos hk] at h
      split at h
      · have := ih (s.size - (k + 1)) (by omega) (k + 1) ws rfl h
        exact ⟨by omega, this.2⟩
      · split at h
        · cases h
        · rename_i x e hw
          obtain ⟨g1, g2, g3, g4, g5⟩ := word_good hk hw
          cases hq : lexR s (max e (k + 1)) with
          | bad c a => rw [hq] at h; cases h
          | ok us =>
            rw [hq] at h
            injection h with h
            subst h
            have := ih (s.size - max e (k + 1)) (by omega) (max e (k + 1)) us rfl hq
            refine ⟨by simp only [List.length_cons]; omega, fun y hy => ?_⟩
            rcases List.mem_cons.1 hy with rfl | hy
            · exact ⟨g3, by omega, g5⟩
            · exact this.2 y hy
    · rw [lexR, dif_neg hk] at h
      injection h with h
      subst h
      exact ⟨by simp, by simp⟩
theorem lex_bad (s : ByteArray) : ∀ n k c a, s.size - k = n → lexR s k = .bad c a → (c = 2 ∨ c = 3 ∨ c = 4) ∧ 0 ≤ a ∧ a ≤ s.size := by
  intro n
  induction n using Nat.strongRecOn with
  | ind n ih =>
    intro k c a hn h
    by_cases hk : k < s.size
    · rw [lexR, dif_pos hk] at h
      split at h
      · exact ih (s.size - (k + 1)) (by omega) (k + 1) c a rfl h
      · split at h
        · rename_i c' hw
          injection h with h1 h2
          subst h1 h2
          exact ⟨word_bad hw, by omega, by omega⟩
        · rename_i x e hw
          cases hq : lexR s (max e (k + 1)) with
          | bad c' a' =>
            rw [hq] at h
            injection h with h1 h2
            subst h1 h2
            exact ih (s.size - max e (k + 1)) (by omega) (max e (k + 1)) c' a' rfl hq
          | ok us => rw [hq] at h; cases h
    · rw [lexR, dif_neg hk] at h
      cases h
def bwWords (t : ByteArray) : List WordV := if 1500 < t.size then [] else match lexR t 0 with | .bad _ _ => [] | .ok ws => ws
def bwCode (t : ByteArray) : Int := if 1500 < t.size then 1 else match lexR t 0 with | .bad c _ => c | .ok _ => 0
def bwAt (t : ByteArray) : Int := if 1500 < t.size then 0 else match lexR t 0 with | .bad _ a => a | .ok _ => 0
end Go.Proofs.YtjfebnplffpmoaaGreatDoor
