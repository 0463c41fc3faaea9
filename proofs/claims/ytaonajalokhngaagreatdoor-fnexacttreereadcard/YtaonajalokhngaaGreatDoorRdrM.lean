/-
  The kind that a text makes at a level, and the program's table of shapes against it: mathematics alone. (Made by wip/mkrdrm.py.)
-/
import Derived.Test.YtaonajalokhngaaGreatDoorMerged8
set_option linter.unusedVariables false
namespace Go.Proofs.YtaonajalokhngaaGreatDoor
open Go.RowKit Go.Maps Go.Deep

def kindG (lv : Nat) (s : ByteArray) : Nat :=
  if lv = 0 ∧ s = kIf then 21
  else if lv = 0 ∧ s = kLet then 22
  else if lv = 0 ∧ s = kRep then 23
  else if lv = 6 ∧ s = sSub then 3
  else if lv = 6 ∧ s = kNot then 4
  else if lv = 7 ∧ s = kMin then 18
  else if lv = 7 ∧ s = kMax then 19
  else if lv = 7 ∧ s = kAbs then 20
  else if lv = 1 ∧ s = kOr then 17
  else if lv = 2 ∧ s = kAnd then 16
  else if lv = 3 ∧ s = sEq then 10
  else if lv = 3 ∧ s = sNe then 11
  else if lv = 3 ∧ s = sLt then 12
  else if lv = 3 ∧ s = sLe then 13
  else if lv = 3 ∧ s = sGt then 14
  else if lv = 3 ∧ s = sGe then 15
  else if lv = 4 ∧ s = sAdd then 8
  else if lv = 4 ∧ s = sSub then 9
  else if lv = 5 ∧ s = sMul then 5
  else if lv = 5 ∧ s = sDiv then 6
  else if lv = 5 ∧ s = sMod then 7
  else 0
theorem hit_is {i lv : Nat} {s : ByteArray} (h : i < shapesL.length) (hl : shapesL[i].2.1 = (lv : Int)) (hs : shapesL[i].2.2 = s) (hn : s ≠ ⟨#[]⟩) : kindG lv s = i := by
  subst hs
  have key : ∀ i (h : i < shapesL.length), shapesL[i].2.2 ≠ ⟨#[]⟩ → kindG shapesL[i].2.1.toNat shapesL[i].2.2 = i := by decide
  have e : lv = shapesL[i].2.1.toNat := by omega
  rw [e]
  exact key i h hn
theorem kindG_in {lv : Nat} {s : ByteArray} (hz : kindG lv s ≠ 0) : (isKeyB s = true ∨ isSgnL s.data.toList = true) ∧ ∃ j, ∃ h : j < shapesL.length, shapesL[j].2.1 = (lv : Int) ∧ shapesL[j].2.2 = s := by
  unfold kindG at hz
  by_cases h : lv = 0 ∧ s = kIf
  · obtain ⟨rfl, rfl⟩ := h
    exact ⟨by decide, 21, by decide, by decide, by decide⟩
  rw [if_neg h] at hz
  clear h
  by_cases h : lv = 0 ∧ s = kLet
  · obtain ⟨rfl, rfl⟩ := h
    exact ⟨by decide, 22, by decide, by decide, by decide⟩
  rw [if_neg h] at hz
  clear h
  by_cases h : lv = 0 ∧ s = kRep
  · obtain ⟨rfl, rfl⟩ := h
    exact ⟨by decide, 23, by decide, by decide, by decide⟩
  rw [if_neg h] at hz
  clear h
  by_cases h : lv = 6 ∧ s = sSub
  · obtain ⟨rfl, rfl⟩ := h
    exact ⟨by decide, 3, by decide, by decide, by decide⟩
  rw [if_neg h] at hz
  clear h
  by_cases h : lv = 6 ∧ s = kNot
  · obtain ⟨rfl, rfl⟩ := h
    exact ⟨by decide, 4, by decide, by decide, by decide⟩
  rw [if_neg h] at hz
  clear h
  by_cases h : lv = 7 ∧ s = kMin
  · obtain ⟨rfl, rfl⟩ := h
    exact ⟨by decide, 18, by decide, by decide, by decide⟩
  rw [if_neg h] at hz
  clear h
  by_cases h : lv = 7 ∧ s = kMax
  · obtain ⟨rfl, rfl⟩ := h
    exact ⟨by decide, 19, by decide, by decide, by decide⟩
  rw [if_neg h] at hz
  clear h
  by_cases h : lv = 7 ∧ s = kAbs
  · obtain ⟨rfl, rfl⟩ := h
    exact ⟨by decide, 20, by decide, by decide, by decide⟩
  rw [if_neg h] at hz
  clear h
  by_cases h : lv = 1 ∧ s = kOr
  · obtain ⟨rfl, rfl⟩ := h
    exact ⟨by decide, 17, by decide, by decide, by decide⟩
  rw [if_neg h] at hz
  clear h
  by_cases h : lv = 2 ∧ s = kAnd
  · obtain ⟨rfl, rfl⟩ := h
    exact ⟨by decide, 16, by decide, by decide, by decide⟩
  rw [if_neg h] at hz
  clear h
  by_cases h : lv = 3 ∧ s = sEq
  · obtain ⟨rfl, rfl⟩ := h
    exact ⟨by decide, 10, by decide, by decide, by decide⟩
  rw [if_neg h] at hz
  clear h
  by_cases h : lv = 3 ∧ s = sNe
  · obtain ⟨rfl, rfl⟩ := h
    exact ⟨by decide, 11, by decide, by decide, by decide⟩
  rw [if_neg h] at hz
  clear h
  by_cases h : lv = 3 ∧ s = sLt
  · obtain ⟨rfl, rfl⟩ := h
    exact ⟨by decide, 12, by decide, by decide, by decide⟩
  rw [if_neg h] at hz
  clear h
  by_cases h : lv = 3 ∧ s = sLe
  · obtain ⟨rfl, rfl⟩ := h
    exact ⟨by decide, 13, by decide, by decide, by decide⟩
  rw [if_neg h] at hz
  clear h
  by_cases h : lv = 3 ∧ s = sGt
  · obtain ⟨rfl, rfl⟩ := h
    exact ⟨by decide, 14, by decide, by decide, by decide⟩
  rw [if_neg h] at hz
  clear h
  by_cases h : lv = 3 ∧ s = sGe
  · obtain ⟨rfl, rfl⟩ := h
    exact ⟨by decide, 15, by decide, by decide, by decide⟩
  rw [if_neg h] at hz
  clear h
  by_cases h : lv = 4 ∧ s = sAdd
  · obtain ⟨rfl, rfl⟩ := h
    exact ⟨by decide, 8, by decide, by decide, by decide⟩
  rw [if_neg h] at hz
  clear h
  by_cases h : lv = 4 ∧ s = sSub
  · obtain ⟨rfl, rfl⟩ := h
    exact ⟨by decide, 9, by decide, by decide, by decide⟩
  rw [if_neg h] at hz
  clear h
  by_cases h : lv = 5 ∧ s = sMul
  · obtain ⟨rfl, rfl⟩ := h
    exact ⟨by decide, 5, by decide, by decide, by decide⟩
  rw [if_neg h] at hz
  clear h
  by_cases h : lv = 5 ∧ s = sDiv
  · obtain ⟨rfl, rfl⟩ := h
    exact ⟨by decide, 6, by decide, by decide, by decide⟩
  rw [if_neg h] at hz
  clear h
  by_cases h : lv = 5 ∧ s = sMod
  · obtain ⟨rfl, rfl⟩ := h
    exact ⟨by decide, 7, by decide, by decide, by decide⟩
  rw [if_neg h] at hz
  clear h
  exact absurd rfl hz
theorem kindG_empty (lv : Nat) : kindG lv ⟨#[]⟩ = 0 := by
  rcases Nat.eq_zero_or_pos (kindG lv ⟨#[]⟩) with h | h
  · exact h
  · exact absurd (kindG_in (Nat.ne_of_gt h)).1 (by decide)
theorem kindG_lt {ws : List WordV} {n lv : Nat} (h : kindG lv (txt ws n) ≠ 0) : n < ws.length := by
  refine txt_lt (s := txt ws n) rfl (fun e => ?_)
  rw [e, kindG_empty] at h
  exact h rfl
theorem castIf (c : Prop) [Decidable c] (a b : Nat) : ((if c then a else b : Nat) : Int) = if c then (a : Int) else (b : Int) := by split <;> rfl
/-- at the levels of signs between two -/
theorem kindG_L {lv : Nat} (h : 1 ≤ lv ∧ lv ≤ 5) (s : ByteArray) : ((kindG lv s : Nat) : Int) = kindL lv s := by
  unfold kindG kindL
  obtain rfl | rfl | rfl | rfl | rfl : lv = 1 ∨ lv = 2 ∨ lv = 3 ∨ lv = 4 ∨ lv = 5 := by omega
  all_goals
    simp [castIf]
/-- a text that the table has -/
theorem word_hit {ws : List WordV} (hw : ∀ x ∈ ws, WordIs x) {n : Nat} (hn : n < ws.length) {lv i : Nat} (h : i < shapesL.length) (hl : shapesL[i].2.1 = (lv : Int)) (hs : shapesL[i].2.2 = ws[n].a1) : kindG lv (txt ws n) = i ∧ i ≠ 0 := by
  have hne : ws[n].a1 ≠ ⟨#[]⟩ := by
    intro e
    have := hw ws[n] (List.getElem_mem hn)
    cases this with
    | num h h1 hd => rw [e] at h1; exact absurd h1.1 (by decide)
    | name h h1 hl hk => rw [e] at hl; exact absurd hl (by decide)
    | key h hk => rw [e] at hk; exact absurd hk (by decide)
    | sign h hs => rw [e] at hs; exact absurd hs (by decide)
  have hk := hit_is h hl hs hne
  by_cases hz : i = 0
  · subst hz
    exact absurd hs.symm hne
  · have h2 := (kindG_in (lv := lv) (s := ws[n].a1) (by rw [hk]; exact hz)).1
    rw [(txt_iff hw hn h2).1 rfl, hk]
    exact ⟨rfl, hz⟩
theorem word_none {ws : List WordV} (hw : ∀ x ∈ ws, WordIs x) {n : Nat} (hn : n < ws.length) {lv : Nat} (h : ∀ i (h : i < shapesL.length), ¬ (shapesL[i].2.1 = (lv : Int) ∧ shapesL[i].2.2 = ws[n].a1)) : kindG lv (txt ws n) = 0 := by
  rcases Nat.eq_zero_or_pos (kindG lv (txt ws n)) with hz | hz
  · exact hz
  · obtain ⟨h1, j, hj, h2, h3⟩ := kindG_in (lv := lv) (s := txt ws n) (Nat.ne_of_gt hz)
    exact absurd ⟨h2, h3.trans ((txt_iff hw hn h1).2 rfl).symm⟩ (h j hj)
/-- where it stands: the reading of each level, by the kind -/
theorem kindG_0 (s : ByteArray) : (kindG 0 s = 21 ∧ s = kIf) ∨ (kindG 0 s = 22 ∧ s = kLet) ∨ (kindG 0 s = 23 ∧ s = kRep) ∨ (kindG 0 s = 0 ∧ s ≠ kIf ∧ s ≠ kLet ∧ s ≠ kRep) := by
  by_cases h1 : s = kIf
  · subst h1; exact .inl (by decide)
  by_cases h2 : s = kLet
  · subst h2; exact .inr (.inl (by decide))
  by_cases h3 : s = kRep
  · subst h3; exact .inr (.inr (.inl (by decide)))
  · exact .inr (.inr (.inr ⟨by unfold kindG; simp [h1, h2, h3], h1, h2, h3⟩))
theorem kindG_6 (s : ByteArray) : (kindG 6 s = 3 ∧ s = sSub) ∨ (kindG 6 s = 4 ∧ s = kNot) ∨ (kindG 6 s = 0 ∧ s ≠ sSub ∧ s ≠ kNot) := by
  by_cases h1 : s = sSub
  · subst h1; exact .inl (by decide)
  by_cases h2 : s = kNot
  · subst h2; exact .inr (.inl (by decide))
  · exact .inr (.inr ⟨by unfold kindG; simp [h1, h2], h1, h2⟩)
theorem kindG_7 (s : ByteArray) : (kindG 7 s = 18 ∧ s = kMin) ∨ (kindG 7 s = 19 ∧ s = kMax) ∨ (kindG 7 s = 20 ∧ s = kAbs) ∨ (kindG 7 s = 0 ∧ s ≠ kMin ∧ s ≠ kMax ∧ s ≠ kAbs) := by
  by_cases h1 : s = kMin
  · subst h1; exact .inl (by decide)
  by_cases h2 : s = kMax
  · subst h2; exact .inr (.inl (by decide))
  by_cases h3 : s = kAbs
  · subst h3; exact .inr (.inr (.inl (by decide)))
  · exact .inr (.inr (.inr ⟨by unfold kindG; simp [h1, h2, h3], h1, h2, h3⟩))
end Go.Proofs.YtaonajalokhngaaGreatDoor
