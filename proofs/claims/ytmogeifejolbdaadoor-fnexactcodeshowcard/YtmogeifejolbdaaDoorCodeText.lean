/-
  The line of an instruction, as plain mathematics; and the specification's way to it.
-/
import Derived.Test.YtmogeifejolbdaaDoorCodeOk
import Derived.Test.YtmogeifejolbdaaDoorDec
import Derived.Deep.RegionHeld3
set_option linter.unusedVariables false
namespace Go.Proofs.YtmogeifejolbdaaDoor
open Go.RowKit Go.Maps Go.Deep

def InsIn' (w : World) : Prop := WordsIn w 0 insL
theorem ins_len : insL.length = 12 := rfl
/-- the line of an instruction that may be -/
def lineT (op a : Int) (s : ByteArray) : ByteArray :=
  if op = 1 ∨ op = 10 ∨ op = 11 then insL.getD op.toNat ⟨#[]⟩
  else if op = 6 ∨ op = 7 then signL.getD a.toNat ⟨#[]⟩
  else if op = 3 then insL.getD op.toNat ⟨#[]⟩ ++ ⟨#[32]⟩ ++ s
  else insL.getD op.toNat ⟨#[]⟩ ++ ⟨#[32]⟩ ++ itoaB a
def IntFit (a : Int) : Prop := -9223372036854775808 ≤ a ∧ a ≤ 9223372036854775807

set_option maxHeartbeats 1600000 in
theorem l4Kind_any (w : World) (a : Int) (h : oneB a = true ∨ twoB a = true) : Calls Tryd.prog 33 #[.int .i64 a] w fun e w' => e = .returned (.string (signL.getD a.toNat ⟨#[]⟩)) ∧ Below w.heap.size w w' := by
  have hk : a = 3 ∨ a = 4 ∨ a = 20 ∨ a = 5 ∨ a = 6 ∨ a = 7 ∨ a = 8 ∨ a = 9 ∨ a = 10 ∨ a = 11 ∨ a = 12 ∨ a = 13 ∨ a = 14 ∨ a = 15 ∨ a = 18 ∨ a = 19 := by
    rcases h with h | h <;> simp [oneB, twoB] at h <;> omega
  clear h
  rcases hk with rfl | rfl | rfl | rfl | rfl | rfl | rfl | rfl | rfl | rfl | rfl | rfl | rfl | rfl | rfl | rfl
  all_goals
    go_enter Tryd.func33, Tryd.ntmps33
    go_wp2
    go_ret
    exact ⟨rfl, (Below.refl _ _).alloc (Nat.le_refl _) _⟩

/-- what an instruction that may be is -/
theorem ins_cases {op a : Int} {s : ByteArray} {n : Int} (h : insB op a s n = true) :
    (op = 1 ∨ op = 10 ∨ op = 11) ∨ ((op = 6 ∧ oneB a = true) ∨ (op = 7 ∧ twoB a = true)) ∨ (op = 3 ∧ s.size ≤ 8) ∨ (op = 2 ∨ op = 4 ∨ op = 5 ∨ op = 8 ∨ op = 9) := by
  by_cases h3 : op = 3
  · subst h3
    rw [ins_load] at h
    refine .inr (.inr (.inl ⟨rfl, ?_⟩))
    by_cases h8 : s.size ≤ 8
    · exact h8
    · rw [name_long s (by omega)] at h; simp at h
  · rw [ins_other op a s n h3] at h
    have hf : fitsB op a n = true := by
      cases e : fitsB op a n
      · rw [e] at h; simp at h
      · rfl
    by_cases c1 : op = 1 ∨ op = 10 ∨ op = 11
    · exact .inl c1
    · by_cases c6 : op = 6
      · subst c6; exact .inr (.inl (.inl ⟨rfl, hf⟩))
      · by_cases c7 : op = 7
        · subst c7; exact .inr (.inl (.inr ⟨rfl, hf⟩))
        · refine .inr (.inr (.inr ?_))
          by_cases h2 : op = 2
          · exact .inl h2
          · by_cases h4 : op = 4 ∨ op = 5 ∨ op = 8 ∨ op = 9
            · omega
            · rw [fits_none op a n (by omega) (by omega) (by omega) (by omega) (by omega) (by omega) (by omega) (by omega) (by omega) (by omega)] at hf
              cases hf
theorem line_size {op a : Int} {s : ByteArray} {n : Int} (h : insB op a s n = true) (ha : IntFit a) : (lineT op a s).size ≤ 26 := by
  have h1 : ∀ t ∈ insL, t.size ≤ 5 := by decide
  have h2 : ∀ i, (insL.getD i ⟨#[]⟩).size ≤ 5 := by
    intro i
    by_cases h : i < insL.length
    · simp only [List.getD_eq_getElem?_getD, List.getElem?_eq_getElem h, Option.getD_some]
      exact h1 _ (List.getElem_mem h)
    · simp only [List.getD_eq_getElem?_getD, List.getElem?_eq_none (Nat.le_of_not_lt h), Option.getD_none]; decide
  have h3 : ∀ t ∈ signL, t.size ≤ 5 := by decide
  have h4 : ∀ i, (signL.getD i ⟨#[]⟩).size ≤ 5 := by
    intro i
    by_cases h : i < signL.length
    · simp only [List.getD_eq_getElem?_getD, List.getElem?_eq_getElem h, Option.getD_some]
      exact h3 _ (List.getElem_mem h)
    · simp only [List.getD_eq_getElem?_getD, List.getElem?_eq_none (Nat.le_of_not_lt h), Option.getD_none]; decide
  have h5 := itoaB_size a ha.1 ha.2
  have h6 := h2 op.toNat
  have h7 := h4 a.toNat
  have e32 : (⟨#[32]⟩ : ByteArray).size = 1 := rfl
  unfold lineT
  rcases ins_cases h with c | (⟨c, _⟩ | ⟨c, _⟩) | ⟨c, hs⟩ | c
  · rw [if_pos c]; omega
  · rw [if_neg (by omega), if_pos (.inl c)]; omega
  · rw [if_neg (by omega), if_pos (.inr c)]; omega
  · rw [if_neg (by omega), if_neg (by omega), if_pos c]; rw [size_app, size_app, e32]; omega
  · rw [if_neg (by omega), if_neg (by omega), if_neg (by omega)]; rw [size_app, size_app, e32]; omega

set_option maxRecDepth 20000 in
set_option maxHeartbeats 1600000 in
theorem l4Line_any (w : World) (op a : Int) (s : ByteArray) (n : Int) (h : insB op a s n = true) (ha : IntFit a) :
    Calls Tryd.prog 20 #[.agg #[.int .i64 op, .int .i64 a, .string s]] w fun e w' => e = .returned (.string (lineT op a s)) ∧ Below w.heap.size w w' := by
  have HB := hide ((Below.refl w.heap.size w).alloc (Nat.le_refl _) (.cells #[.int .i64 op, .int .i64 a, .string s] 37))
  have HC := hide (ins_cases h)
  have HSZ := hide (itoaB_size a ha.1 ha.2)
  have HA := hide ha
  clear h ha
  rcases unhide HC with c | (⟨rfl, c⟩ | ⟨rfl, c⟩) | ⟨rfl, hs⟩ | c
  · clear HC
    rcases c with rfl | rfl | rfl
    all_goals
      go_enter Tryd.func20, Tryd.ntmps20
      go_wp2
      go_ret
      exact ⟨rfl, unhide HB⟩
  · clear HC
    go_enter Tryd.func20, Tryd.ntmps20
    go_wp2_with (first
      | (go_at_call 33; refine (l4Kind_any _ _ (.inl c)).mono ?_; rintro e w1 ⟨rfl, hb1⟩)
      | go_in)
    go_ret
    exact ⟨rfl, (unhide HB).trans (hb1.mono (unhide HB).size)⟩
  · clear HC
    go_enter Tryd.func20, Tryd.ntmps20
    go_wp2_with (first
      | (go_at_call 33; refine (l4Kind_any _ _ (.inr c)).mono ?_; rintro e w1 ⟨rfl, hb1⟩)
      | go_in)
    go_ret
    exact ⟨rfl, (unhide HB).trans (hb1.mono (unhide HB).size)⟩
  · clear HC HSZ HA
    have hs' : (s.size : Int) ≤ 8 := by omega
    go_enter Tryd.func20, Tryd.ntmps20
    go_wp2
    go_ret
    exact ⟨rfl, unhide HB⟩
  · clear HC
    have hz : ((itoaB a).size : Int) ≤ 20 := by have := unhide HSZ; omega
    have hz2 := unhide HSZ
    generalize hI : itoaB a = I at hz hz2
    have HI := hide hI
    clear hI
    rcases c with rfl | rfl | rfl | rfl | rfl
    all_goals
      go_enter Tryd.func20, Tryd.ntmps20
      go_wp2_with (first
        | (go_at_call 32; refine (l2Dec_all _ (unhide HA).1 (unhide HA).2 _).mono ?_; rw [unhide HI]; rintro e w1 ⟨rfl, hb1⟩)
        | go_in)
      go_ret
      exact ⟨by rw [← unhide HI]; rfl, (unhide HB).trans (hb1.mono (unhide HB).size)⟩

end Go.Proofs.YtmogeifejolbdaaDoor
