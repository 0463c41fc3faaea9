/-
  The specification's own functions over trees: which nodes may be, how deep a tree is, what a tree is.
-/
import Derived.Test.YtjfebnplffpmoaaGreatDoorMerged4
import Derived.Test.YtjfebnplffpmoaaGreatDoorMerged5
import Derived.Deep.QuietTactic
import Derived.BigQuiet
namespace Go.Proofs.YtjfebnplffpmoaaGreatDoor
open Go.RowKit Go.Maps Go.Deep

def arity (k : Int) : Int :=
  if k = 1 ∨ k = 2 then 0 else if k = 3 ∨ k = 4 ∨ k = 20 then 1 else if 5 ≤ k ∧ k ≤ 19 then 2 else if k = 22 then 2 else if k = 21 ∨ k = 23 then 3 else -1
def namedB (k : Int) : Bool := decide (k = 2) || decide (k = 22) || decide (k = 23)
def ownB (x : NodeV) : Bool :=
  decide (0 ≤ arity x.kind) && decide (x.kids = arity x.kind) &&
    (if namedB x.kind then decide (x.num = 0) && nameB x.name else decide (x.name.size = 0) && (if x.kind = 1 then decide (0 ≤ x.num) && decide (x.num ≤ 999999999999999999) else decide (x.num = 0)))

set_option maxHeartbeats 800000 in
theorem l2Arity_any (k : Int) (w : World) : Calls Tryz.prog 61 #[.int .i64 k] w fun e w' => e = .returned (.int .i64 (arity k)) ∧ w' = w := by
  by_cases h1 : k = 1 ∨ k = 2
  · have hT := hide (show arity k = 0 by simp [arity, h1])
    rcases h1 with rfl | rfl
    all_goals
      go_enter Tryz.func61, Tryz.ntmps61
      go_wp2
      go_ret
      exact ⟨ret_i64 (unhide hT).symm, rfl⟩
  · by_cases h2 : k = 3 ∨ k = 4 ∨ k = 20
    · have hT := hide (show arity k = 1 by simp only [arity, if_neg h1, if_pos h2])
      clear h1
      rcases h2 with rfl | rfl | rfl
      all_goals
        go_enter Tryz.func61, Tryz.ntmps61
        go_wp2
        go_ret
        exact ⟨ret_i64 (unhide hT).symm, rfl⟩
    · by_cases h3 : 5 ≤ k ∧ k ≤ 19
      · have hT := hide (show arity k = 2 by simp only [arity, if_neg h1, if_neg h2, if_pos h3])
        have e1 : (k == 1) = false := by simp; omega
        have e2 : (k == 2) = false := by simp; omega
        have e3 : (k == 3) = false := by simp; omega
        have e4 : (k == 4) = false := by simp; omega
        have e20 : (k == 20) = false := by simp; omega
        obtain ⟨h5, h19⟩ := h3
        clear h1 h2
        go_enter Tryz.func61, Tryz.ntmps61
        go_wp2
        go_ret
        exact ⟨ret_i64 (unhide hT).symm, rfl⟩
      · by_cases h22 : k = 22
        · have hT := hide (show arity k = 2 by simp only [arity, if_neg h1, if_neg h2, if_neg h3, if_pos h22])
          subst h22
          clear h1 h2 h3
          go_enter Tryz.func61, Tryz.ntmps61
          go_wp2
          go_ret
          exact ⟨ret_i64 (unhide hT).symm, rfl⟩
        · by_cases h4 : k = 21 ∨ k = 23
          · have hT := hide (show arity k = 3 by simp only [arity, if_neg h1, if_neg h2, if_neg h3, if_neg h22, if_pos h4])
            clear h1 h2 h3 h22
            rcases h4 with rfl | rfl
            all_goals
              go_enter Tryz.func61, Tryz.ntmps61
              go_wp2
              go_ret
              exact ⟨ret_i64 (unhide hT).symm, rfl⟩
          · have hT := hide (show arity k = -1 by simp only [arity, if_neg h1, if_neg h2, if_neg h3, if_neg h22, if_neg h4])
            have e1 : (k == 1) = false := by simp; omega
            have e2 : (k == 2) = false := by simp; omega
            have e3 : (k == 3) = false := by simp; omega
            have e4 : (k == 4) = false := by simp; omega
            have e20 : (k == 20) = false := by simp; omega
            have e21 : (k == 21) = false := by simp; omega
            have e22 : (k == 22) = false := by simp; omega
            have e23 : (k == 23) = false := by simp; omega
            have e5 : k < 5 ∨ 19 < k := by omega
            clear h1 h2 h3 h22 h4
            rcases e5 with e5 | e5
            all_goals
              go_enter Tryz.func61, Tryz.ntmps61
              go_wp2
              go_ret
              exact ⟨ret_i64 (unhide hT).symm, rfl⟩

theorem own_plain (k n : Int) (s : ByteArray) (c : Int) (hnb : namedB k = false) (ha : 0 ≤ arity k) (hc : c = arity k) (hs : s.size = 0) :
    ownB ⟨k, n, s, c⟩ = (if k = 1 then decide (0 ≤ n) && decide (n ≤ 999999999999999999) else decide (n = 0)) := by
  simp [ownB, hnb, ha, hc, hs]
theorem own_named (k n : Int) (s : ByteArray) (c : Int) (hnb : namedB k = true) (ha : 0 ≤ arity k) (hc : c = arity k) : ownB ⟨k, n, s, c⟩ = (decide (n = 0) && nameB s) := by
  simp [ownB, hnb, ha, hc]

set_option maxHeartbeats 1600000 in
/-- a node whose kind has no name -/
theorem l2Own_plain (k n : Int) (s : ByteArray) (c : Int) (w : World) (e2 : (k == 2) = false) (e22 : (k == 22) = false) (e23 : (k == 23) = false) :
    Calls Tryz.prog 54 #[.agg #[.int .i64 k, .int .i64 n, .string s, .int .i64 c]] w fun e w' => e = .returned (.bool (ownB ⟨k, n, s, c⟩)) ∧ Below w.heap.size w w' := by
  have hnb : namedB k = false := by simp [namedB] at *; omega
  by_cases ha : arity k < 0
  · have hf := hide (show ownB ⟨k, n, s, c⟩ = false by
      have : ¬ 0 ≤ arity k := by omega
      simp [ownB, this])
    have hd : decide (arity k < 0) = true := by simpa using ha
    clear hnb
    go_enter Tryz.func54, Tryz.ntmps54
    go_wp2
    go_quiet ((go_at_call 61; exact Calls.quiet_of_same (l2Arity_any _ _)))
    go_wp2
    go_ret
    exact ⟨ret_bool (unhide hf).symm, (below_dn ((Below.refl _ _).alloc (Nat.le_refl _) _) _)⟩
  · have hd : decide (arity k < 0) = false := by simpa using ha
    have ha' : 0 ≤ arity k := by omega
    by_cases hc : c = arity k
    · have hc' : (c != arity k) = false := by simp [hc]
      by_cases hs : s.size = 0
      · have hse := str_empty s hs
        have hown := own_plain k n s c hnb ha' hc hs
        by_cases h1 : k = 1
        · have h1' : (k == 1) = true := by simp [h1]
          rw [if_pos h1] at hown
          by_cases hn0 : 0 ≤ n
          · have hf := hide (show ownB ⟨k, n, s, c⟩ = decide (n ≤ 999999999999999999) by rw [hown]; simp [hn0])
            clear hnb h1 hc ha' hown
            go_enter Tryz.func54, Tryz.ntmps54
            go_wp2
            go_quiet ((go_at_call 61; exact Calls.quiet_of_same (l2Arity_any _ _)))
            go_wp2
            go_ret
            exact ⟨ret_bool (unhide hf).symm, (below_dn ((Below.refl _ _).alloc (Nat.le_refl _) _) _)⟩
          · have hf := hide (show ownB ⟨k, n, s, c⟩ = false by rw [hown]; simp [hn0])
            clear hnb h1 hc ha' hown
            go_enter Tryz.func54, Tryz.ntmps54
            go_wp2
            go_quiet ((go_at_call 61; exact Calls.quiet_of_same (l2Arity_any _ _)))
            go_wp2
            go_ret
            exact ⟨ret_bool (unhide hf).symm, (below_dn ((Below.refl _ _).alloc (Nat.le_refl _) _) _)⟩
        · have h1' : (k == 1) = false := by simp [h1]
          rw [if_neg h1] at hown
          have hf := hide (hown.trans (dec_beq n 0))
          clear hnb h1 hc ha' hown
          go_enter Tryz.func54, Tryz.ntmps54
          go_wp2
          go_quiet ((go_at_call 61; exact Calls.quiet_of_same (l2Arity_any _ _)))
          go_wp2
          go_ret
          exact ⟨ret_bool (unhide hf).symm, (below_dn ((Below.refl _ _).alloc (Nat.le_refl _) _) _)⟩
      · have hse := str_full s hs
        have hf := hide (show ownB ⟨k, n, s, c⟩ = false by simp [ownB, hnb, hs])
        clear hnb hc ha'
        go_enter Tryz.func54, Tryz.ntmps54
        go_wp2
        go_quiet ((go_at_call 61; exact Calls.quiet_of_same (l2Arity_any _ _)))
        go_wp2
        go_ret
        exact ⟨ret_bool (unhide hf).symm, (below_dn ((Below.refl _ _).alloc (Nat.le_refl _) _) _)⟩
    · have hc' : (c != arity k) = true := by simp [hc]
      have hf := hide (show ownB ⟨k, n, s, c⟩ = false by simp [ownB, hc])
      clear hnb hc ha'
      go_enter Tryz.func54, Tryz.ntmps54
      go_wp2
      go_quiet ((go_at_call 61; exact Calls.quiet_of_same (l2Arity_any _ _)))
      go_wp2
      go_ret
      exact ⟨ret_bool (unhide hf).symm, (below_dn ((Below.refl _ _).alloc (Nat.le_refl _) _) _)⟩

set_option maxHeartbeats 3200000 in
/-- a node whose kind has a name -/
theorem l2Own_named (k n : Int) (s : ByteArray) (c : Int) (w : World) (hs : s.size ≤ maxLen) (hk : k = 2 ∨ k = 22 ∨ k = 23) :
    Calls Tryz.prog 54 #[.agg #[.int .i64 k, .int .i64 n, .string s, .int .i64 c]] w fun e w' => e = .returned (.bool (ownB ⟨k, n, s, c⟩)) ∧ Below w.heap.size w w' := by
  have HS := hide hs
  clear hs
  have hnb : namedB k = true := by simp [namedB]; omega
  have ha' : 0 ≤ arity k := by rcases hk with rfl | rfl | rfl <;> decide
  have hd : decide (arity k < 0) = false := by simpa using ha'
  have hK := hide hk
  by_cases hc : c = arity k
  · have hc' : (c != arity k) = false := by simp [hc]
    have hown := own_named k n s c hnb ha' hc
    by_cases hs : s.size = 0
    · have hse := str_empty s hs
      have hnm := name_short s (by omega)
      have hf := hide (show ownB ⟨k, n, s, c⟩ = false by rw [hown, hnm]; simp)
      clear hnb hc ha' hown hk hnm
      rcases unhide hK with rfl | rfl | rfl
      all_goals
        go_enter Tryz.func54, Tryz.ntmps54
        go_wp2
        go_quiet ((go_at_call 61; exact Calls.quiet_of_same (l2Arity_any _ _)))
        go_wp2
        go_ret
        exact ⟨ret_bool (unhide hf).symm, (below_dn ((Below.refl _ _).alloc (Nat.le_refl _) _) _)⟩
    · have hse := str_full s hs
      cases hnm : nameB s
      · have hf := hide (show ownB ⟨k, n, s, c⟩ = false by rw [hown, hnm]; simp)
        clear hnb hc ha' hown hk
        rcases unhide hK with rfl | rfl | rfl
        all_goals
          go_enter Tryz.func54, Tryz.ntmps54
          go_wp2
          go_quiet ((go_at_call 61; exact Calls.quiet_of_same (l2Arity_any _ _)))
          go_wp2_with (first | (go_at_call 71; refine (specName_any _ _ (unhide HS)).mono ?_; rintro e w2 ⟨rfl, hb2⟩; obtain ⟨bc2, bf2⟩ := bcell hb2) | go_in)
          go_ret
          exact ⟨ret_bool (unhide hf).symm, (below_dn ((Below.refl _ _).alloc (Nat.le_refl _) _) _).trans (hb2.mono (by simp))⟩
      · have hf := hide (show ownB ⟨k, n, s, c⟩ = (n == 0) by rw [hown, hnm, ← dec_beq]; simp)
        clear hnb hc ha' hown hk
        rcases unhide hK with rfl | rfl | rfl
        all_goals
          go_enter Tryz.func54, Tryz.ntmps54
          go_wp2
          go_quiet ((go_at_call 61; exact Calls.quiet_of_same (l2Arity_any _ _)))
          go_wp2_with (first | (go_at_call 71; refine (specName_any _ _ (unhide HS)).mono ?_; rintro e w2 ⟨rfl, hb2⟩; obtain ⟨bc2, bf2⟩ := bcell hb2) | go_in)
          go_ret
          exact ⟨ret_bool (unhide hf).symm, (below_dn ((Below.refl _ _).alloc (Nat.le_refl _) _) _).trans (hb2.mono (by simp))⟩
  · have hc' : (c != arity k) = true := by simp [hc]
    have hf := hide (show ownB ⟨k, n, s, c⟩ = false by simp [ownB, hc])
    clear hnb hc ha' hk
    rcases unhide hK with rfl | rfl | rfl
    all_goals
      go_enter Tryz.func54, Tryz.ntmps54
      go_wp2
      go_quiet ((go_at_call 61; exact Calls.quiet_of_same (l2Arity_any _ _)))
      go_wp2
      go_ret
      exact ⟨ret_bool (unhide hf).symm, (below_dn ((Below.refl _ _).alloc (Nat.le_refl _) _) _)⟩

theorem l2Own_any (x : NodeV) (w : World) (hs : x.name.size ≤ maxLen) :
    Calls Tryz.prog 54 #[.agg #[.int .i64 x.kind, .int .i64 x.num, .string x.name, .int .i64 x.kids]] w fun e w' => e = .returned (.bool (ownB x)) ∧ Below w.heap.size w w' := by
  by_cases hk : x.kind = 2 ∨ x.kind = 22 ∨ x.kind = 23
  · exact l2Own_named x.kind x.num x.name x.kids w hs hk
  · exact l2Own_plain x.kind x.num x.name x.kids w (by simp; omega) (by simp; omega) (by simp; omega)

end Go.Proofs.YtjfebnplffpmoaaGreatDoor
