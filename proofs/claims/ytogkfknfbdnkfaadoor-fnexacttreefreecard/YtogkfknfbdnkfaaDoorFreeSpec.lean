/-
  The specification's side of TreeFree.
-/
import Derived.Test.YtogkfknfbdnkfaaDoorFreeMath
import Derived.Test.YtogkfknfbdnkfaaDoorStrs
import Derived.Test.YtogkfknfbdnkfaaDoorGrow
import Derived.Deep.RegionHeld3
namespace Go.Proofs.YtogkfknfbdnkfaaDoor
open Go.RowKit Go.Maps Go.Deep
set_option linter.unusedVariables false

set_option maxHeartbeats 800000 in
theorem l1In_at (w : World) (v : Value) (ts : List ByteArray) (s : ByteArray) (h : StrAt w v ts) (hl : ts.length ≤ 1048576) : Calls Tryd.prog 24 #[v, .string s] w fun e w' => e = .returned (.bool (hasB ts s)) ∧ w' = w := by
  obtain ⟨a, cap, rfl, h⟩ := h
  have H := hide h
  clear h
  go_enter Tryd.func24, Tryd.ntmps24
  go_wp2_with fail
  go_loop [5] (fun i => ∃ k : Nat, k ≤ ts.length ∧ i = .int .i64 k ∧ Hid (∀ j (h : j < ts.length), j < k → ts[j] ≠ s)) (fun i => ts.length - (intOf i).toNat)
  case atStart => exact ⟨0, Nat.zero_le _, rfl, hide (fun j _ hj => absurd hj (Nat.not_lt_zero _))⟩
  case round =>
    obtain ⟨k, hk, rfl, hne⟩ := hrel
    by_cases hlt : k < ts.length
    · obtain ⟨g, rfl, hg, hc⟩ : ∃ g, a = some ⟨g, 0, none⟩ ∧ g < w.heap.size ∧ ∀ j (h : j < ts.length), w.cell? ⟨g, j, none⟩ = some (.string ts[j]) := by
        rcases unhide H with h | h
        · subst h; simp at hlt
        · exact h
      have hck := hc k hlt
      by_cases he : ts[k] = s
      · have hT := hide (show hasB ts s = true from (hasB_iff ts s).2 (by rw [← he]; exact List.getElem_mem hlt))
        rw [he] at hck
        clear hc he
        go_wp2_with fail
        go_ret
        exact ⟨by rw [unhide hT]; rfl, rfl⟩
      · have hb := str_ne he
        have hne' := hide (show ∀ j (h : j < ts.length), j < k + 1 → ts[j] ≠ s by
          intro j h hj
          by_cases e : j = k
          · subst e; exact he
          · exact unhide hne j h (by omega))
        clear hc he
        go_wp2_with fail
        go_round
        case rel => exact ⟨k + 1, by omega, by go_num, hne'⟩
        case measure => simp [intOf]; omega
    · have hT := hide (show hasB ts s = false by
        rw [Bool.eq_false_iff]
        intro h
        obtain ⟨j, hj, e⟩ := List.getElem_of_mem ((hasB_iff ts s).1 h)
        exact unhide hne j hj (by omega) e)
      go_wp2_with fail
      go_ret
      exact ⟨by rw [unhide hT]; rfl, rfl⟩

set_option maxHeartbeats 3200000 in
theorem l2Add_at (w : World) (v : Value) (ts : List ByteArray) (s : ByteArray) (h : StrAt w v ts) (hl : ts.length ≤ 1048576) : Calls Tryd.prog 25 #[v, .string s] w fun e w' => RetStrs (addS ts s) e w' ∧ Below w.heap.size w w' := by
  have HV := hide h
  obtain ⟨a, cap, rfl, h⟩ := h
  have H := hide h
  clear h
  obtain ⟨i0, hi, hz0, hz1, hz2⟩ := info_parts infoStr
  go_enter Tryd.func25, Tryd.ntmps25
  go_wp2_with fail
  go_loopw [5, 6, 7] (fun ov pv i wr => ∃ (k : Nat) (us : List ByteArray) (pb : Bool), k ≤ ts.length ∧ i = .int .i64 k ∧ pv = .bool pb ∧ Hid (pb = (ts.take k).any (ltB s)) ∧ Hid (us = insK (ts.take k) s) ∧ Hid (∀ j (h : j < ts.length), j < k → ts[j] ≠ s) ∧ Hid (StrRow w.heap.size wr ov us) ∧ Below w.heap.size w wr) (fun _ _ i _ => ts.length - (intOf i).toNat)
  case atStart => exact ⟨0, [], false, Nat.zero_le _, rfl, rfl, hide (by simp), hide (by simp [insK]), hide (fun j _ hj => absurd hj (Nat.not_lt_zero _)), hide (StrRow.nil _ _), Below.refl _ _⟩
  case round =>
    obtain ⟨k, us, pb, hk, rfl, rfl, hpb, hus, hne, hrow, hbel⟩ := hrel
    have hsz := hbel.size
    have hul : us.length ≤ 1048577 := by
      rw [unhide hus]
      have := ins_len (ts.take k) s
      simp only [List.length_take] at this
      omega
    by_cases hlt : k < ts.length
    · obtain ⟨g, rfl, hg, hc⟩ : ∃ g, a = some ⟨g, 0, none⟩ ∧ g < w.heap.size ∧ ∀ j (h : j < ts.length), w.cell? ⟨g, j, none⟩ = some (.string ts[j]) := by
        rcases unhide H with h | h
        · subst h; simp at hlt
        · exact h
      have hck := (hbel.cell (p := ⟨g, k, none⟩) hg).trans (hc k hlt)
      clear hc
      by_cases he : ts[k] = s
      · have hT := hide (show addS ts s = ts by
          unfold addS
          rw [if_pos ((hasB_iff ts s).2 (by rw [← he]; exact List.getElem_mem hlt))])
        rw [he] at hck
        have HB := hide hbel
        clear he hbel
        go_wp2_with fail
        go_ret
        exact ⟨⟨_, rfl, by rw [unhide hT]; exact (unhide HV).below (unhide HB)⟩, unhide HB⟩
      · have hb := str_ne he
        have htk := List.take_succ_eq_append_getElem hlt
        have hne' := hide (show ∀ j (h : j < ts.length), j < k + 1 → ts[j] ≠ s by
          intro j h hj
          by_cases e : j = k
          · subst e; exact he
          · exact unhide hne j h (by omega))
        have HB := hide hbel
        clear he hbel
        cases pb with
        | true =>
          obtain ⟨q1, q2⟩ := ins_more (t := ts[k]) (unhide hpb).symm
          rw [← htk] at q1 q2
          have hpb' := hide q1.symm
          have hus' := hide (show us ++ [ts[k]] = insK (ts.take (k + 1)) s by rw [q2, unhide hus])
          clear q1 q2 htk
          generalize ts[k] = t at *
          go_wp2_with (first
            | (at_builtin; refine wpList_append_own _ rfl _ _ 24 rfl w.heap.size 9 i0 _ 1 16 Tryd.underlying24 hi hz0 hz1 hz2 rfl (by decide) u5 us.length (us.map .string) rfl (ownsRow_up (unhide hrow) ((Below.refl _ _).alloc (Nat.le_refl _) _)) ⟨wr.heap.size, 0, none⟩ 1 1 [.string t] rfl rfl (news_one wr 9 (.string t)) (one_str t) (by unfold maxLen; omega) (by omega) (by simp; omega) ?_; intro v3 w3 hown3 hgrow3 _))
          have hR := row_push rfl (unhide HB) (unhide hrow) hown3 hgrow3
          clear hown3 hgrow3
          go_roundw
          case rel => exact ⟨k + 1, _, _, by omega, by go_num, rfl, hpb', hus', hne', hide hR.1, hR.2⟩
          case measure => simp [intOf]; omega
        | false =>
          cases hltb : ltB s ts[k]
          · obtain ⟨q1, q2⟩ := ins_none (unhide hpb).symm hltb
            rw [← htk] at q1 q2
            have hpb' := hide q1.symm
            have hus' := hide (show us ++ [ts[k]] = insK (ts.take (k + 1)) s by rw [q2, unhide hus])
            unfold ltB at hltb
            clear q1 q2 htk
            generalize ts[k] = t at *
            go_wp2_with (first
              | (at_builtin; refine wpList_append_own _ rfl _ _ 24 rfl w.heap.size 9 i0 _ 1 16 Tryd.underlying24 hi hz0 hz1 hz2 rfl (by decide) u5 us.length (us.map .string) rfl (ownsRow_up (unhide hrow) ((Below.refl _ _).alloc (Nat.le_refl _) _)) ⟨wr.heap.size, 0, none⟩ 1 1 [.string t] rfl rfl (news_one wr 9 (.string t)) (one_str t) (by unfold maxLen; omega) (by omega) (by simp; omega) ?_; intro v3 w3 hown3 hgrow3 _))
            have hR := row_push rfl (unhide HB) (unhide hrow) hown3 hgrow3
            clear hown3 hgrow3
            go_roundw
            case rel => exact ⟨k + 1, _, _, by omega, by go_num, rfl, hpb', hus', hne', hide hR.1, hR.2⟩
            case measure => simp [intOf]; omega
          · obtain ⟨q1, q2⟩ := ins_new (unhide hpb).symm hltb
            rw [← htk] at q1 q2
            have hpb' := hide q1.symm
            have hus' := hide (show us ++ [s] ++ [ts[k]] = insK (ts.take (k + 1)) s by rw [q2, unhide hus])
            unfold ltB at hltb
            have hl3 : (us ++ [s]).length ≤ 1048578 := by simp; omega
            have hgw := hg
            have hgr : g < wr.heap.size := by omega
            clear q1 q2 htk
            generalize ts[k] = t at *
            go_wp2_with (first
              | (at_builtin; have := m1; refine wpList_append_own _ rfl _ _ 24 rfl w.heap.size 9 i0 _ 1 16 Tryd.underlying24 hi hz0 hz1 hz2 rfl (by decide) v3 (us ++ [s]).length ((us ++ [s]).map .string) rfl (ownsRow_up (unhide hrow3) ((Below.refl _ _).alloc (Nat.le_refl _) _)) ⟨w3.heap.size, 0, none⟩ 1 1 [.string t] rfl rfl (news_one w3 9 (.string t)) (one_str t) (by unfold maxLen; omega) (by omega) (by simp; omega) ?_; intro v4 w4 hown4 hgrow4 _)
              | (at_builtin; refine wpList_append_own _ rfl _ _ 24 rfl w.heap.size 9 i0 _ 1 16 Tryd.underlying24 hi hz0 hz1 hz2 rfl (by decide) u5 us.length (us.map .string) rfl (ownsRow_up (unhide hrow) ((Below.refl _ _).alloc (Nat.le_refl _) _)) ⟨wr.heap.size, 0, none⟩ 1 1 [.string s] rfl rfl (news_one wr 9 (.string s)) (one_str s) (by unfold maxLen; omega) (by omega) (by simp; omega) ?_; intro v3 w3 hown3 hgrow3 _; have hR := row_push rfl (unhide HB) (unhide hrow) hown3 hgrow3; have hrow3 := hide hR.1; have HB3 := hide hR.2; have hsz3 := hR.2.size; have hck3 := (hR.2.cell (p := ⟨g, k, none⟩) hg).trans (((unhide HB).cell (p := ⟨g, k, none⟩) hg).symm.trans hck); have m1 := True.intro; clear hown3 hgrow3 hR))
            have hR4 := row_push rfl (unhide HB3) (unhide hrow3) hown4 hgrow4
            clear hown4 hgrow4
            go_roundw
            case rel => exact ⟨k + 1, _, _, by omega, by go_num, rfl, hpb', hus', hne', hide hR4.1, hR4.2⟩
            case measure => simp [intOf]; omega
    · have hno : hasB ts s = false := by
        rw [Bool.eq_false_iff]
        intro h
        obtain ⟨j, hj, e⟩ := List.getElem_of_mem ((hasB_iff ts s).1 h)
        exact unhide hne j hj (by omega) e
      have htk : ts.take k = ts := List.take_of_length_le (by omega)
      have hend := ins_end ts s hno
      rw [htk] at hpb hus
      rw [← unhide hpb, ← unhide hus] at hend
      have HE := hide hend
      have HB := hide hbel
      clear hno htk hend hbel
      cases pb with
      | true =>
        go_wp2_with fail
        go_ret
        exact ⟨⟨_, rfl, by rw [unhide HE]; exact (unhide hrow).at⟩, unhide HB⟩
      | false =>
        go_wp2_with (first
          | (at_builtin; refine wpList_append_own _ rfl _ _ 24 rfl w.heap.size 9 i0 _ 1 16 Tryd.underlying24 hi hz0 hz1 hz2 rfl (by decide) u5 us.length (us.map .string) rfl (ownsRow_up (unhide hrow) ((Below.refl _ _).alloc (Nat.le_refl _) _)) ⟨wr.heap.size, 0, none⟩ 1 1 [.string s] rfl rfl (news_one wr 9 (.string s)) (one_str s) (by unfold maxLen; omega) (by omega) (by simp; omega) ?_; intro v3 w3 hown3 hgrow3 _))
        have hR := row_push rfl (unhide HB) (unhide hrow) hown3 hgrow3
        clear hown3 hgrow3
        have HR := hide hR
        clear hR
        go_wp2_with fail
        go_ret
        exact ⟨⟨_, rfl, by rw [unhide HE]; exact (unhide HR).1.at⟩, (unhide HR).2⟩

end Go.Proofs.YtogkfknfbdnkfaaDoor
