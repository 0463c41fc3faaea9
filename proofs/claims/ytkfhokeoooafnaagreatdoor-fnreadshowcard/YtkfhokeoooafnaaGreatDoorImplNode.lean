/-
  The program's look at a node alone, and at all nodes of a list.
-/
import Derived.Test.YtkfhokeoooafnaaGreatDoorMerged11
import Derived.Test.YtkfhokeoooafnaaGreatDoorMerged12
namespace Go.Proofs.YtkfhokeoooafnaaGreatDoor
open Go.RowKit Go.Maps Go.Deep

theorem shapes_arity (k : Nat) (h1 : 1 ≤ k) (h : k < shapesL.length) : shapesL[k].1 = arity (k : Int) := by
  rw [shapes_len] at h
  match k, h1, h with
  | 1, _, _ | 2, _, _ | 3, _, _ | 4, _, _ | 5, _, _ | 6, _, _ | 7, _, _ | 8, _, _ | 9, _, _ | 10, _, _ | 11, _, _ | 12, _, _ | 13, _, _ | 14, _, _ | 15, _, _ | 16, _, _ | 17, _, _ | 18, _, _ | 19, _, _ | 20, _, _ | 21, _, _ | 22, _, _ | 23, _, _ => rfl
  | n + 24, _, h => exact absurd h (by omega)
theorem ShapesIn.kids {w : World} (h : ShapesIn w) (k : Nat) (h1 : 1 ≤ k) (h23 : k ≤ 23) : w.cell? ⟨0, k * 3, none⟩ = some (.int .i64 (arity (k : Int))) := by
  rw [← shapes_arity k h1 (by rw [shapes_len]; omega)]
  exact (h.2 k (by rw [shapes_len]; omega)).1
theorem arity_out (k : Int) (h : k < 1 ∨ 23 < k) : arity k = -1 := by
  unfold arity
  repeat rw [if_neg (by omega)]
theorem arity_in (k : Int) (h1 : 1 ≤ k) (h2 : k ≤ 23) : 0 ≤ arity k ∧ arity k ≤ 3 := by
  unfold arity
  repeat' split
  all_goals omega
theorem own_out (k n : Int) (s : ByteArray) (c : Int) (h : k < 1 ∨ 23 < k) : ownB ⟨k, n, s, c⟩ = false := by simp [ownB, arity_out k h]
theorem own_kids (k n : Int) (s : ByteArray) (c : Int) (h : ¬ c = arity k) : ownB ⟨k, n, s, c⟩ = false := by simp [ownB, h]
theorem own_text (k n : Int) (s : ByteArray) (c : Int) (hnb : namedB k = false) (h : ¬ s.size = 0) : ownB ⟨k, n, s, c⟩ = false := by simp [ownB, hnb, h]

set_option maxHeartbeats 3200000 in
set_option maxRecDepth 100000 in
theorem nodeOk_any (x : NodeV) (w : World) (b n : Nat) (hs : x.name.size ≤ maxLen) (hsh : ShapesIn w) (hown : w.ownsMap Tryz.prog 9 (unitElem (H := Unit)) b n (setOf (.agg []) keyLits)) :
    Calls Tryz.prog 59 #[.agg #[.int .i64 x.kind, .int .i64 x.num, .string x.name, .int .i64 x.kids], .map (some b)] w fun e w' => e = .returned (.bool (ownB x)) ∧ Below w.heap.size w w' := by
  obtain ⟨k, m, s, c⟩ := x
  simp only at hs ⊢
  have HS := hide hs
  have hg := hsh.1
  clear hs
  by_cases h1 : k < 1
  · have hf := hide (own_out k m s c (.inl h1))
    have hd : decide (k < 1) = true := by simpa using h1
    go_enter Tryz.func59, Tryz.ntmps59
    go_wp2
    go_quiet (fail)
    go_wp2
    go_ret
    exact ⟨ret_bool (unhide hf).symm, (below_dn ((Below.refl _ _).alloc (Nat.le_refl _) _) _)⟩
  · have hd1 : decide (k < 1) = false := by simpa using h1
    by_cases h23 : 23 < k
    · have hf := hide (own_out k m s c (.inr h23))
      have hd : decide (23 < k) = true := by simpa using h23
      go_enter Tryz.func59, Tryz.ntmps59
      go_wp2
      go_quiet (fail)
      go_wp2
      go_ret
      exact ⟨ret_bool (unhide hf).symm, (below_dn ((Below.refl _ _).alloc (Nat.le_refl _) _) _)⟩
    · have hd23 : decide (23 < k) = false := by simpa using h23
      obtain ⟨kn, rfl⟩ := Int.eq_ofNat_of_zero_le (show 0 ≤ k by omega)
      have hcell := hsh.kids kn (by omega) (by omega)
      by_cases hc : c = arity kn
      · have hc' : (c != arity kn) = false := by simp [hc]
        have hi1 : (0 : Int) ≤ kn := by omega
        have hi2 : (kn : Int) < 24 := by omega
        have har := (arity_in kn (by omega) (by omega)).1
        cases hnb : namedB kn
        · have hk2 : ¬ (kn : Int) = 2 ∧ ¬ (kn : Int) = 22 ∧ ¬ (kn : Int) = 23 := by simp [namedB] at hnb; omega
          have e2 : ((kn : Int) == 2) = false := by simp; omega
          have e22 : ((kn : Int) == 22) = false := by simp; omega
          have e23 : ((kn : Int) == 23) = false := by simp; omega
          by_cases hs0 : s.size = 0
          · have hse := str_empty s hs0
            have hown' := own_plain kn m s c hnb har hc hs0
            by_cases hk1 : (kn : Int) = 1
            · have e1 : ((kn : Int) == 1) = true := by simp [hk1]
              rw [if_pos hk1] at hown'
              by_cases hn0 : 0 ≤ m
              · by_cases hn1 : m ≤ 999999999999999999
                · have hf := hide (show ownB ⟨kn, m, s, c⟩ = true by rw [hown']; simp [hn0, hn1])
                  clear hnb hk1 hc hown' har hk2
                  go_enter Tryz.func59, Tryz.ntmps59
                  go_wp2
                  go_quiet (fail)
                  go_wp2
                  go_ret
                  exact ⟨ret_bool (unhide hf).symm, (below_dn ((Below.refl _ _).alloc (Nat.le_refl _) _) _)⟩
                · have hf := hide (show ownB ⟨kn, m, s, c⟩ = false by rw [hown']; simp [hn1])
                  clear hnb hk1 hc hown' har hk2
                  go_enter Tryz.func59, Tryz.ntmps59
                  go_wp2
                  go_quiet (fail)
                  go_wp2
                  go_ret
                  exact ⟨ret_bool (unhide hf).symm, (below_dn ((Below.refl _ _).alloc (Nat.le_refl _) _) _)⟩
              · have hf := hide (show ownB ⟨kn, m, s, c⟩ = false by rw [hown']; simp [hn0])
                clear hnb hk1 hc hown' har hk2
                go_enter Tryz.func59, Tryz.ntmps59
                go_wp2
                go_quiet (fail)
                go_wp2
                go_ret
                exact ⟨ret_bool (unhide hf).symm, (below_dn ((Below.refl _ _).alloc (Nat.le_refl _) _) _)⟩
            · have e1 : ((kn : Int) == 1) = false := by simp [hk1]
              rw [if_neg hk1] at hown'
              by_cases hm : m = 0
              · have hm' : (m == 0) = true := by simp [hm]
                have hf := hide (show ownB ⟨kn, m, s, c⟩ = true by rw [hown']; simp [hm])
                clear hnb hk1 hc hown' har hk2 hm
                go_enter Tryz.func59, Tryz.ntmps59
                go_wp2
                go_quiet (fail)
                go_wp2
                go_ret
                exact ⟨ret_bool (unhide hf).symm, (below_dn ((Below.refl _ _).alloc (Nat.le_refl _) _) _)⟩
              · have hm' : (m == 0) = false := by simp [hm]
                have hf := hide (show ownB ⟨kn, m, s, c⟩ = false by rw [hown']; simp [hm])
                clear hnb hk1 hc hown' har hk2 hm
                go_enter Tryz.func59, Tryz.ntmps59
                go_wp2
                go_quiet (fail)
                go_wp2
                go_ret
                exact ⟨ret_bool (unhide hf).symm, (below_dn ((Below.refl _ _).alloc (Nat.le_refl _) _) _)⟩
          · have hse := str_full s hs0
            have hf := hide (own_text kn m s c hnb hs0)
            by_cases hk1 : (kn : Int) = 1
            · have e1 : ((kn : Int) == 1) = true := by simp [hk1]
              clear hnb hk1 hc har hk2
              by_cases hn0 : 0 ≤ m
              · by_cases hn1 : m ≤ 999999999999999999
                all_goals
                  go_enter Tryz.func59, Tryz.ntmps59
                  go_wp2
                  go_quiet (fail)
                  go_wp2
                  go_ret
                  exact ⟨ret_bool (unhide hf).symm, (below_dn ((Below.refl _ _).alloc (Nat.le_refl _) _) _)⟩
              · skip
                go_enter Tryz.func59, Tryz.ntmps59
                go_wp2
                go_quiet (fail)
                go_wp2
                go_ret
                exact ⟨ret_bool (unhide hf).symm, (below_dn ((Below.refl _ _).alloc (Nat.le_refl _) _) _)⟩
            · have e1 : ((kn : Int) == 1) = false := by simp [hk1]
              clear hnb hk1 hc har hk2
              by_cases hm : m = 0
              · have hm' : (m == 0) = true := by simp [hm]
                clear hm
                go_enter Tryz.func59, Tryz.ntmps59
                go_wp2
                go_quiet (fail)
                go_wp2
                go_ret
                exact ⟨ret_bool (unhide hf).symm, (below_dn ((Below.refl _ _).alloc (Nat.le_refl _) _) _)⟩
              · have hm' : (m == 0) = false := by simp [hm]
                clear hm
                go_enter Tryz.func59, Tryz.ntmps59
                go_wp2
                go_quiet (fail)
                go_wp2
                go_ret
                exact ⟨ret_bool (unhide hf).symm, (below_dn ((Below.refl _ _).alloc (Nat.le_refl _) _) _)⟩
        · have hown' := own_named kn m s c hnb har hc
          have hk2 : (kn : Int) = 2 ∨ (kn : Int) = 22 ∨ (kn : Int) = 23 := by simp [namedB] at hnb; omega
          have e1 : ((kn : Int) == 1) = false := by simp; omega
          by_cases hm : m = 0
          · have hm' : (m == 0) = true := by simp [hm]
            have hf := hide (show ownB ⟨kn, m, s, c⟩ = nameB s by rw [hown']; simp [hm])
            clear hnb hc hown' har hm
            rcases hk2 with hk2 | hk2 | hk2
            · have e2 : ((kn : Int) == 2) = true := by simp [hk2]
              clear hk2
              go_enter Tryz.func59, Tryz.ntmps59
              go_wp2
              go_quiet (fail)
              go_wp2_with (first | (go_at_call 84; refine (isName_any _ b n s (unhide HS) (ownsMap_below hown (below_dn ((Below.refl w.heap.size w).alloc (Nat.le_refl _) _) _) hown.lt)).mono ?_; rintro e w2 ⟨rfl, hb2⟩) | go_in)
              go_ret
              exact ⟨ret_bool (unhide hf).symm, ((below_dn ((Below.refl _ _).alloc (Nat.le_refl _) _) _).trans (hb2.mono (by simp)))⟩
            · have e2 : ((kn : Int) == 2) = false := by simp; omega
              have e22 : ((kn : Int) == 22) = true := by simp [hk2]
              clear hk2
              go_enter Tryz.func59, Tryz.ntmps59
              go_wp2
              go_quiet (fail)
              go_wp2_with (first | (go_at_call 84; refine (isName_any _ b n s (unhide HS) (ownsMap_below hown (below_dn ((Below.refl w.heap.size w).alloc (Nat.le_refl _) _) _) hown.lt)).mono ?_; rintro e w2 ⟨rfl, hb2⟩) | go_in)
              go_ret
              exact ⟨ret_bool (unhide hf).symm, ((below_dn ((Below.refl _ _).alloc (Nat.le_refl _) _) _).trans (hb2.mono (by simp)))⟩
            · have e2 : ((kn : Int) == 2) = false := by simp; omega
              have e22 : ((kn : Int) == 22) = false := by simp; omega
              have e23 : ((kn : Int) == 23) = true := by simp [hk2]
              clear hk2
              go_enter Tryz.func59, Tryz.ntmps59
              go_wp2
              go_quiet (fail)
              go_wp2_with (first | (go_at_call 84; refine (isName_any _ b n s (unhide HS) (ownsMap_below hown (below_dn ((Below.refl w.heap.size w).alloc (Nat.le_refl _) _) _) hown.lt)).mono ?_; rintro e w2 ⟨rfl, hb2⟩) | go_in)
              go_ret
              exact ⟨ret_bool (unhide hf).symm, ((below_dn ((Below.refl _ _).alloc (Nat.le_refl _) _) _).trans (hb2.mono (by simp)))⟩
          · have hm' : (m == 0) = false := by simp [hm]
            have hf := hide (show ownB ⟨kn, m, s, c⟩ = false by rw [hown']; simp [hm])
            clear hnb hc hown' har hm
            rcases hk2 with hk2 | hk2 | hk2
            · have e2 : ((kn : Int) == 2) = true := by simp [hk2]
              clear hk2
              go_enter Tryz.func59, Tryz.ntmps59
              go_wp2
              go_quiet (fail)
              go_wp2
              go_ret
              exact ⟨ret_bool (unhide hf).symm, (below_dn ((Below.refl _ _).alloc (Nat.le_refl _) _) _)⟩
            · have e2 : ((kn : Int) == 2) = false := by simp; omega
              have e22 : ((kn : Int) == 22) = true := by simp [hk2]
              clear hk2
              go_enter Tryz.func59, Tryz.ntmps59
              go_wp2
              go_quiet (fail)
              go_wp2
              go_ret
              exact ⟨ret_bool (unhide hf).symm, (below_dn ((Below.refl _ _).alloc (Nat.le_refl _) _) _)⟩
            · have e2 : ((kn : Int) == 2) = false := by simp; omega
              have e22 : ((kn : Int) == 22) = false := by simp; omega
              have e23 : ((kn : Int) == 23) = true := by simp [hk2]
              clear hk2
              go_enter Tryz.func59, Tryz.ntmps59
              go_wp2
              go_quiet (fail)
              go_wp2
              go_ret
              exact ⟨ret_bool (unhide hf).symm, (below_dn ((Below.refl _ _).alloc (Nat.le_refl _) _) _)⟩
      · have hc' : (c != arity kn) = true := by simp [hc]
        have hf := hide (own_kids kn m s c hc)
        clear hc
        have hi1 : (0 : Int) ≤ kn := by omega
        have hi2 : (kn : Int) < 24 := by omega
        go_enter Tryz.func59, Tryz.ntmps59
        go_wp2
        go_quiet (fail)
        go_wp2
        go_ret
        exact ⟨ret_bool (unhide hf).symm, (below_dn ((Below.refl _ _).alloc (Nat.le_refl _) _) _)⟩

def OwnAll (ns : List NodeV) : Prop := ns.length ≤ 400 ∧ ∀ n ∈ ns, ownB n = true

set_option maxHeartbeats 1600000 in
theorem nodesOk_any (w : World) (b off cap : Nat) (ns : List NodeV) (hl : ns.length ≤ 1048576) (hc : NodesAt w b off ns) (hb : b < w.heap.size) (hs : NamesOk ns) (hsh : ShapesIn w) :
    Calls Tryz.prog 32 #[.slice (some ⟨b, off, none⟩) ns.length cap] w fun e w' => RetIff (OwnAll ns) e ∧ Below w.heap.size w w' := by
  by_cases h400 : (ns.length : Int) ≤ 400
  · have HC := hide hc
    have HSH := hide hsh
    clear hsh hc
    go_enter Tryz.func32, Tryz.ntmps32
    go_wp2_with fail
    refine (newKeySet_any _).mono ?_
    rintro e w1 ⟨rfl, hmap, hb1⟩
    go_wp2_with fail
    go_loopw [12] (fun i wr => ∃ k : Nat, k ≤ ns.length ∧ i = .int .i64 k ∧ (∀ j (h : j < ns.length), j < k → ownB ns[j] = true) ∧ Below w1.heap.size w1 wr) (fun i _ => ns.length - (intOf i).toNat)
    case atStart => exact ⟨0, Nat.zero_le _, rfl, fun j _ hj => absurd hj (Nat.not_lt_zero _), Below.refl _ _⟩
    case round =>
      obtain ⟨k, hk, rfl, hown, hbel⟩ := hrel
      have HO := hide hown
      clear hown
      have hb2 : Below w.heap.size w wr := hb1.trans (hbel.mono hb1.size)
      by_cases hlt : k < ns.length
      · obtain ⟨c0, c1, c2, c3⟩ := unhide HC k hlt
        rw [← hb2.cell (by exact hb)] at c0 c1 c2 c3
        have hnm := hide (hs _ (List.getElem_mem hlt))
        have hm2 := hide (ownsMap_below hmap (hbel.alloc hbel.size (.cells #[.int .i64 ns[k].kind, .int .i64 ns[k].num, .string ns[k].name, .int .i64 ns[k].kids] 51)) hmap.lt)
        have hs2 := hide ((unhide HSH).below (hb2.alloc hb2.size (.cells #[.int .i64 ns[k].kind, .int .i64 ns[k].num, .string ns[k].name, .int .i64 ns[k].kids] 51)) (Nat.le_refl _))
        cases ho : ownB ns[k]
        · have hf := hide (show ¬ OwnAll ns from fun h => by
            have := h.2 _ (List.getElem_mem hlt)
            rw [ho] at this
            cases this)
          go_wp2_with (first
            | (go_at_call 59; refine (nodeOk_any ns[k] _ _ _ (unhide hnm) (unhide hs2) (unhide hm2)).mono ?_; rw [ho]; rintro e w2 ⟨rfl, hb3⟩))
          go_ret
          exact ⟨ret_bool_iff (no_iff (unhide hf)), (hb2.alloc hb2.size _).trans (hb3.mono (by have := hb2.size; simp; omega))⟩
        · have hO := hide ho
          go_wp2_with (first
            | (go_at_call 59; refine (nodeOk_any ns[k] _ _ _ (unhide hnm) (unhide hs2) (unhide hm2)).mono ?_; rw [ho]; rintro e w2 ⟨rfl, hb3⟩))
          go_roundw
          case rel =>
            refine ⟨k + 1, by omega, by go_num, fun j h hj => ?_, (hbel.alloc hbel.size _).trans (hb3.mono (by have := hbel.size; simp; omega))⟩
            by_cases e : j = k
            · subst e; exact unhide hO
            · exact unhide HO j h (by omega)
          case measure => simp [intOf]; omega
      · have hf := hide (show OwnAll ns from ⟨by omega, by
            intro n hn
            obtain ⟨j, hj, rfl⟩ := List.getElem_of_mem hn
            exact unhide HO j hj (by omega)⟩)
        go_wp2_with fail
        go_ret
        exact ⟨ret_bool_iff ⟨fun _ => unhide hf, fun _ => rfl⟩, hb2⟩
  · have hf := hide (show ¬ OwnAll ns from fun h => by have := h.1; omega)
    go_enter Tryz.func32, Tryz.ntmps32
    go_wp2_with fail
    go_ret
    exact ⟨ret_bool_iff (no_iff (unhide hf)), Below.refl _ _⟩

end Go.Proofs.YtkfhokeoooafnaaGreatDoor
