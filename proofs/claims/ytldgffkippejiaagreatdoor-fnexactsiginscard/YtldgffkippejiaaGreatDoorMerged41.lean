/-
  Slices of texts in memory: those that are read, those that are owned.
-/
/-
  The specification's side of TreeFree.
-/
import Derived.Test.YtldgffkippejiaaGreatDoorMerged13
import Derived.Test.YtldgffkippejiaaGreatDoorMerged5
import Derived.Deep.AppendLies
import Derived.Laws.OwnMore
import Derived.Test.YtldgffkippejiaaGreatDoorFreeMath
import Derived.Test.YtldgffkippejiaaGreatDoorMerged25
import Derived.Deep.RegionHeld3
namespace Go.Proofs.YtldgffkippejiaaGreatDoor
open Go.RowKit Go.Maps
set_option linter.unusedVariables false

/-- these texts lie in a slice -/
def StrAt (w : World) (v : Value) (ts : List ByteArray) : Prop := ∃ a cap, v = .slice a ts.length cap ∧ (ts = [] ∨ ∃ g, a = some ⟨g, 0, none⟩ ∧ g < w.heap.size ∧ ∀ j (h : j < ts.length), w.cell? ⟨g, j, none⟩ = some (.string ts[j]))
theorem StrAt.below {w w' : World} {v : Value} {ts : List ByteArray} (h : StrAt w v ts) (hb : Below w.heap.size w w') : StrAt w' v ts := by
  obtain ⟨a, cap, rfl, h⟩ := h
  refine ⟨a, cap, rfl, ?_⟩
  rcases h with h | ⟨g, rfl, hg, hc⟩
  · exact .inl h
  · exact .inr ⟨g, rfl, Nat.lt_of_lt_of_le hg hb.size, fun j hj => (hb.cell (by exact hg)).trans (hc j hj)⟩
theorem StrAt.nil (w : World) : StrAt w (.slice none 0 0) [] := ⟨none, 0, rfl, .inl rfl⟩
theorem infoStr : (Tryz.prog.info? 9).map (fun i => (i.zero, i.size, i.bytes)) = some (some (.string ByteArray.empty), 1, 16) := by kernel_rfl
/-- a slice of texts that is owned -/
def StrRow (base : Nat) (w : World) (v : Value) (ts : List ByteArray) : Prop := w.ownsRow base 9 1 v ts.length (ts.map .string)
theorem StrRow.nil (base : Nat) (w : World) : StrRow base w (.slice none 0 0) [] := ⟨rfl, .inl ⟨rfl, rfl⟩⟩
theorem StrRow.open {base : Nat} {w : World} {v : Value} {ts : List ByteArray} (h : StrRow base w v ts) (h0 : 1 ≤ ts.length) :
    ∃ g cap, v = .slice (some ⟨g, 0, none⟩) ts.length cap ∧ base ≤ g ∧ g < w.heap.size ∧ ts.length ≤ cap ∧ ∀ j (hj : j < ts.length), w.cell? ⟨g, j, none⟩ = some (.string ts[j]) := by
  rcases h.2 with ⟨_, h'⟩ | ⟨g, cap, cur, rfl, hB, hg, hc, _, hsz, htk⟩
  · omega
  · refine ⟨g, cap, rfl, hB, (Array.getElem?_eq_some_iff.1 hg).1, hc, fun j hj => ?_⟩
    have h1 : (cur.toList.take (ts.length * 1))[j]? = some (.string ts[j]) := by rw [htk, List.getElem?_map, List.getElem?_eq_getElem hj]; rfl
    rw [List.getElem?_take, if_pos (by omega)] at h1
    simp only [World.cell?, hg]
    simpa using h1
theorem StrRow.at {base : Nat} {w : World} {v : Value} {ts : List ByteArray} (h : StrRow base w v ts) : StrAt w v ts := by
  by_cases h0 : 1 ≤ ts.length
  · obtain ⟨g, cap, rfl, _, hg, _, hc⟩ := h.open h0
    exact ⟨_, cap, rfl, .inr ⟨g, rfl, hg, hc⟩⟩
  · have : ts = [] := List.eq_nil_of_length_eq_zero (by omega)
    subst this
    rcases h.2 with ⟨rfl, _⟩ | ⟨g, cap, cur, rfl, _⟩
    · exact StrAt.nil w
    · exact ⟨_, cap, rfl, .inl rfl⟩
theorem news_one (w : World) (t : TypeId) (a : Value) : ∀ j u, [a][j]? = some u → (w.alloc (.cells #[a] t)).cell? ((⟨w.heap.size, 0, none⟩ : Addr).add j) = some u := by
  intro j u h
  match j, h with
  | 0, h =>
    simp only [List.getElem?_cons_zero, Option.some.injEq] at h
    subst h
    exact World.cell?_alloc_at _ _ _ _ rfl
  | j + 1, h => simp at h
theorem one_str (T : ByteArray) : ∀ u ∈ [Value.string T], u.oneCell' = true := by
  intro u hu
  simp only [List.mem_singleton] at hu
  subst hu
  rfl
theorem str_ne {a b : ByteArray} (h : a ≠ b) : (a.toList == b.toList) = false := by
  rw [beq_eq_false_iff_ne]
  intro e
  apply h
  rw [ByteArray.toList_eq, ByteArray.toList_eq] at e
  cases a; cases b
  simp only at e
  congr
  exact Array.toList_inj.1 e

/-- what an append of one text leaves -/
theorem row_push {w0 wr w3 : World} {B : Nat} {ob : Obj} {u v3 : Value} {us : List ByteArray} {s : ByteArray} (hB : B = w0.heap.size) (hb : Below w0.heap.size w0 wr) (hstr : StrRow B wr u us)
    (hown : w3.ownsRow B 9 1 v3 (us.length + 1) (us.map .string ++ [.string s])) (hgrow : (wr.alloc ob).grownBy w3 u.ownBlock) : StrRow B w3 v3 (us ++ [s]) ∧ Below w0.heap.size w0 w3 := by
  subst hB
  refine ⟨by unfold StrRow; simpa using hown, ?_⟩
  exact (hb.alloc hb.size ob).grown hgrow (by have := hb.size; simp; omega) (ownBlock_ge hstr)
/-- these texts come back in a slice -/
def RetStrs (ts : List ByteArray) (e : Ending) (w' : World) : Prop := ∃ v, e = .returned v ∧ StrAt w' v ts

/-- nil, or a slice of these texts -/
def BoundAt (w : World) (v : Value) (ts : List ByteArray) : Prop := (ts = [] ∧ v = .slice none 0 0) ∨ (1 ≤ ts.length ∧ ∃ g cap, v = .slice (some ⟨g, 0, none⟩) ts.length cap ∧ g < w.heap.size ∧ ∀ j (h : j < ts.length), w.cell? ⟨g, j, none⟩ = some (.string ts[j]))
theorem BoundAt.below {w w' : World} {v : Value} {ts : List ByteArray} (h : BoundAt w v ts) (hb : Below w.heap.size w w') : BoundAt w' v ts := by
  rcases h with h | ⟨h1, g, cap, rfl, hg, hc⟩
  · exact .inl h
  · exact .inr ⟨h1, g, cap, rfl, Nat.lt_of_lt_of_le hg hb.size, fun j hj => (hb.cell (by exact hg)).trans (hc j hj)⟩
theorem BoundAt.at {w : World} {v : Value} {ts : List ByteArray} (h : BoundAt w v ts) : StrAt w v ts := by
  rcases h with ⟨rfl, rfl⟩ | ⟨h1, g, cap, rfl, hg, hc⟩
  · exact StrAt.nil w
  · exact ⟨_, cap, rfl, .inr ⟨g, rfl, hg, hc⟩⟩
theorem StrRow.bound {base : Nat} {w : World} {v : Value} {ts : List ByteArray} (h : StrRow base w v ts) (h0 : 1 ≤ ts.length) : BoundAt w v ts := by
  obtain ⟨g, cap, rfl, _, hg, _, hc⟩ := h.open h0
  exact .inr ⟨h0, g, cap, rfl, hg, hc⟩
theorem grown_refl (w : World) (r : Option Nat) : w.grownBy w r := ⟨rfl, rfl, rfl, Nat.le_refl _, fun _ _ _ => rfl⟩
/-- the first append of 'append(append(E, bound..), name)', E an empty literal, at a step of a region that draws its order -/
theorem step_append_bound {w : World} {ops : Array Oper} {o : Oper} {a : Act} {K : Act → World → Prop} {Q : Exit → Act → World → Prop} {E : Prop} (hgd : o.guard = none) (s x : Operand)
    (ho : o.op = .call { callee := .builtin .append, args := #[s, x], argTypes := #[22, 22] }) (base g0 : Nat) (hs : a.eval s = .slice (some ⟨g0, 0, none⟩) 0 0) (hown : w.ownsRow base 9 1 (.slice (some ⟨g0, 0, none⟩) 0 0) 0 [])
    (bv : Value) (bs : List ByteArray) (hx : a.eval x = bv) (hB : BoundAt w bv bs) (hl : bs.length ≤ 1000) (hbase : base ≤ w.heap.size)
    (h : ∀ g cap w', w'.ownsRow base 9 1 (.slice (some ⟨g, 0, none⟩) bs.length cap) bs.length (bs.map .string) → w.grownBy w' (some g0) → g < w'.heap.size → K (a.put o.dst (.slice (some ⟨g, 0, none⟩) bs.length cap)) w') :
    if Region.wanted o (yielded ops a.tmps) = true then Oper.wp Tryz.prog o a w K Q else E := by
  obtain ⟨i0, hi, hz0, hz1, hz2⟩ := info_parts infoStr
  rcases hB with ⟨rfl, rfl⟩ | ⟨h1, g, cap, rfl, hg, hc⟩
  · have hw : Region.wanted o (yielded ops a.tmps) = true := by simp [Region.wanted, hgd]
    rw [if_pos hw]
    have hrun := run_append_owned_none (P := Tryz.prog) (w := w) base 22 o.type 9 i0 1 Tryz.underlying22 hi _ 0 [] hown
    have hlt : g0 < w.heap.size := by
      rcases hown.2 with ⟨h', _⟩ | ⟨g', cap', cur, h', _, hg', _⟩
      · cases h'
      · simp only [Value.slice.injEq, Option.some.injEq, Addr.mk.injEq, and_true, true_and] at h'
        obtain ⟨rfl, _⟩ := h'
        exact (Array.getElem?_eq_some_iff.1 hg').1
    have hK := h g0 0 w hown (grown_refl w _) hlt
    unfold Oper.wp
    simp [execOp, ho, resolve, invoke, builtin, hs, hx, hrun, Result.andThen]
    exact hK
  · refine step_append_lies w hgd s x 22 ho base 9 i0 _ 1 16 Tryz.underlying22 hi hz0 hz1 hz2 rfl (by decide) _ 0 [] hs hown ⟨g, 0, none⟩ bs.length cap (bs.map .string) hx (by simp) (fun j u hu => ?_) (fun u hu => ?_) (by omega) (by unfold maxLen; omega) (by omega) hbase _ rfl ?_
    · rw [List.getElem?_map] at hu
      obtain ⟨t, ht, rfl⟩ := Option.map_eq_some_iff.1 hu
      obtain ⟨hj, rfl⟩ := List.getElem?_eq_some_iff.1 ht
      have hadd : (⟨g, 0, none⟩ : Addr).add j = ⟨g, j, none⟩ := by unfold Addr.add; split <;> simp_all
      rw [hadd]
      exact hc j hj
    · obtain ⟨t, _, rfl⟩ := List.mem_map.1 hu
      rfl
    · intro g' cap' w' hown' hgrow' _ hlt'
      rw [Nat.zero_add, List.nil_append] at hown'
      rw [Nat.zero_add]
      exact h g' cap' w' hown' hgrow' hlt'

end Go.Proofs.YtldgffkippejiaaGreatDoor

namespace Go.Proofs.YtldgffkippejiaaGreatDoor
open Go.RowKit Go.Maps Go.Deep
set_option linter.unusedVariables false

set_option maxHeartbeats 800000 in
theorem l1In_at (w : World) (v : Value) (ts : List ByteArray) (s : ByteArray) (h : StrAt w v ts) (hl : ts.length ≤ 1048576) : Calls Tryz.prog 41 #[v, .string s] w fun e w' => e = .returned (.bool (hasB ts s)) ∧ w' = w := by
  obtain ⟨a, cap, rfl, h⟩ := h
  have H := hide h
  clear h
  go_enter Tryz.func41, Tryz.ntmps41
  go_wp2_with fail
  go_loop [5] (fun i => ∃ k : Nat, k ≤ ts.length ∧ i = .int .i64 k ∧ Hid (∀ j (h : j < ts.length), j < k → ts[j] ≠ s)) (fun i => ts.length - (intOf i).toNat)
  case atStart => exact ⟨0, Nat.zero_le _, rfl, hide (fun j _ hj => absurd hj (Nat.not_lt_zero _))⟩
  case round =>
    obtain ⟨k, hk, rfl, hne⟩ := hrel
    by_cases hlt : k < ts.length
    · obtain ⟨g, rfl, hg, hc⟩ : ∃ g, a = some ⟨g, 0, none⟩ ∧ g < w.heap.size ∧ ∀ j (h : j < ts.length), w.cell? ⟨g, j, none⟩ = some (.string ts[j]) := by
        rcases unhide H with h | h
        · subst h; simp at hlt
        · exact h
      have hck := hc k hlt
      by_cases he : ts[k] = s
      · have hT := hide (show hasB ts s = true from (hasB_iff ts s).2 (by rw [← he]; exact List.getElem_mem hlt))
        rw [he] at hck
        clear hc he
        go_wp2_with fail
        go_ret
        exact ⟨by rw [unhide hT]; rfl, rfl⟩
      · have hb := str_ne he
        have hne' := hide (show ∀ j (h : j < ts.length), j < k + 1 → ts[j] ≠ s by
          intro j h hj
          by_cases e : j = k
          · subst e; exact he
          · exact unhide hne j h (by omega))
        clear hc he
        go_wp2_with fail
        go_round
        case rel => exact ⟨k + 1, by omega, by go_num, hne'⟩
        case measure => simp [intOf]; omega
    · have hT := hide (show hasB ts s = false by
        rw [Bool.eq_false_iff]
        intro h
        obtain ⟨j, hj, e⟩ := List.getElem_of_mem ((hasB_iff ts s).1 h)
        exact unhide hne j hj (by omega) e)
      go_wp2_with fail
      go_ret
      exact ⟨by rw [unhide hT]; rfl, rfl⟩

set_option maxHeartbeats 3200000 in
theorem l2Add_at (w : World) (v : Value) (ts : List ByteArray) (s : ByteArray) (h : StrAt w v ts) (hl : ts.length ≤ 1048576) : Calls Tryz.prog 42 #[v, .string s] w fun e w' => RetStrs (addS ts s) e w' ∧ Below w.heap.size w w' := by
  have HV := hide h
  obtain ⟨a, cap, rfl, h⟩ := h
  have H := hide h
  clear h
  obtain ⟨i0, hi, hz0, hz1, hz2⟩ := info_parts infoStr
  go_enter Tryz.func42, Tryz.ntmps42
  go_wp2_with fail
  go_loopw [5, 6, 7] (fun ov pv i wr => ∃ (k : Nat) (us : List ByteArray) (pb : Bool), k ≤ ts.length ∧ i = .int .i64 k ∧ pv = .bool pb ∧ Hid (pb = (ts.take k).any (ltB s)) ∧ Hid (us = insK (ts.take k) s) ∧ Hid (∀ j (h : j < ts.length), j < k → ts[j] ≠ s) ∧ Hid (StrRow w.heap.size wr ov us) ∧ Below w.heap.size w wr) (fun _ _ i _ => ts.length - (intOf i).toNat)
  case atStart => exact ⟨0, [], false, Nat.zero_le _, rfl, rfl, hide (by simp), hide (by simp [insK]), hide (fun j _ hj => absurd hj (Nat.not_lt_zero _)), hide (StrRow.nil _ _), Below.refl _ _⟩
  case round =>
    obtain ⟨k, us, pb, hk, rfl, rfl, hpb, hus, hne, hrow, hbel⟩ := hrel
    have hsz := hbel.size
    have hul : us.length ≤ 1048577 := by
      rw [unhide hus]
      have := ins_len (ts.take k) s
      simp only [List.length_take] at this
      omega
    by_cases hlt : k < ts.length
    · obtain ⟨g, rfl, hg, hc⟩ : ∃ g, a = some ⟨g, 0, none⟩ ∧ g < w.heap.size ∧ ∀ j (h : j < ts.length), w.cell? ⟨g, j, none⟩ = some (.string ts[j]) := by
        rcases unhide H with h | h
        · subst h; simp at hlt
        · exact h
      have hck := (hbel.cell (p := ⟨g, k, none⟩) hg).trans (hc k hlt)
      clear hc
      by_cases he : ts[k] = s
      · have hT := hide (show addS ts s = ts by
          unfold addS
          rw [if_pos ((hasB_iff ts s).2 (by rw [← he]; exact List.getElem_mem hlt))])
        rw [he] at hck
        have HB := hide hbel
        clear he hbel
        go_wp2_with fail
        go_ret
        exact ⟨⟨_, rfl, by rw [unhide hT]; exact (unhide HV).below (unhide HB)⟩, unhide HB⟩
      · have hb := str_ne he
        have htk := List.take_succ_eq_append_getElem hlt
        have hne' := hide (show ∀ j (h : j < ts.length), j < k + 1 → ts[j] ≠ s by
          intro j h hj
          by_cases e : j = k
          · subst e; exact he
          · exact unhide hne j h (by omega))
        have HB := hide hbel
        clear he hbel
        cases pb with
        | true =>
          obtain ⟨q1, q2⟩ := ins_more (t := ts[k]) (unhide hpb).symm
          rw [← htk] at q1 q2
          have hpb' := hide q1.symm
          have hus' := hide (show us ++ [ts[k]] = insK (ts.take (k + 1)) s by rw [q2, unhide hus])
          clear q1 q2 htk
          generalize ts[k] = t at *
          go_wp2_with (first
            | (at_builtin; refine wpList_append_own _ rfl _ _ 22 rfl w.heap.size 9 i0 _ 1 16 Tryz.underlying22 hi hz0 hz1 hz2 rfl (by decide) u5 us.length (us.map .string) rfl (ownsRow_up (unhide hrow) ((Below.refl _ _).alloc (Nat.le_refl _) _)) ⟨wr.heap.size, 0, none⟩ 1 1 [.string t] rfl rfl (news_one wr 9 (.string t)) (one_str t) (by unfold maxLen; omega) (by omega) (by simp; omega) ?_; intro v3 w3 hown3 hgrow3 _))
          have hR := row_push rfl (unhide HB) (unhide hrow) hown3 hgrow3
          clear hown3 hgrow3
          go_roundw
          case rel => exact ⟨k + 1, _, _, by omega, by go_num, rfl, hpb', hus', hne', hide hR.1, hR.2⟩
          case measure => simp [intOf]; omega
        | false =>
          cases hltb : ltB s ts[k]
          · obtain ⟨q1, q2⟩ := ins_none (unhide hpb).symm hltb
            rw [← htk] at q1 q2
            have hpb' := hide q1.symm
            have hus' := hide (show us ++ [ts[k]] = insK (ts.take (k + 1)) s by rw [q2, unhide hus])
            unfold ltB at hltb
            clear q1 q2 htk
            generalize ts[k] = t at *
            go_wp2_with (first
              | (at_builtin; refine wpList_append_own _ rfl _ _ 22 rfl w.heap.size 9 i0 _ 1 16 Tryz.underlying22 hi hz0 hz1 hz2 rfl (by decide) u5 us.length (us.map .string) rfl (ownsRow_up (unhide hrow) ((Below.refl _ _).alloc (Nat.le_refl _) _)) ⟨wr.heap.size, 0, none⟩ 1 1 [.string t] rfl rfl (news_one wr 9 (.string t)) (one_str t) (by unfold maxLen; omega) (by omega) (by simp; omega) ?_; intro v3 w3 hown3 hgrow3 _))
            have hR := row_push rfl (unhide HB) (unhide hrow) hown3 hgrow3
            clear hown3 hgrow3
            go_roundw
            case rel => exact ⟨k + 1, _, _, by omega, by go_num, rfl, hpb', hus', hne', hide hR.1, hR.2⟩
            case measure => simp [intOf]; omega
          · obtain ⟨q1, q2⟩ := ins_new (unhide hpb).symm hltb
            rw [← htk] at q1 q2
            have hpb' := hide q1.symm
            have hus' := hide (show us ++ [s] ++ [ts[k]] = insK (ts.take (k + 1)) s by rw [q2, unhide hus])
            unfold ltB at hltb
            have hl3 : (us ++ [s]).length ≤ 1048578 := by simp; omega
            have hgw := hg
            have hgr : g < wr.heap.size := by omega
            clear q1 q2 htk
            generalize ts[k] = t at *
            go_wp2_with (first
              | (at_builtin; have := m1; refine wpList_append_own _ rfl _ _ 22 rfl w.heap.size 9 i0 _ 1 16 Tryz.underlying22 hi hz0 hz1 hz2 rfl (by decide) v3 (us ++ [s]).length ((us ++ [s]).map .string) rfl (ownsRow_up (unhide hrow3) ((Below.refl _ _).alloc (Nat.le_refl _) _)) ⟨w3.heap.size, 0, none⟩ 1 1 [.string t] rfl rfl (news_one w3 9 (.string t)) (one_str t) (by unfold maxLen; omega) (by omega) (by simp; omega) ?_; intro v4 w4 hown4 hgrow4 _)
              | (at_builtin; refine wpList_append_own _ rfl _ _ 22 rfl w.heap.size 9 i0 _ 1 16 Tryz.underlying22 hi hz0 hz1 hz2 rfl (by decide) u5 us.length (us.map .string) rfl (ownsRow_up (unhide hrow) ((Below.refl _ _).alloc (Nat.le_refl _) _)) ⟨wr.heap.size, 0, none⟩ 1 1 [.string s] rfl rfl (news_one wr 9 (.string s)) (one_str s) (by unfold maxLen; omega) (by omega) (by simp; omega) ?_; intro v3 w3 hown3 hgrow3 _; have hR := row_push rfl (unhide HB) (unhide hrow) hown3 hgrow3; have hrow3 := hide hR.1; have HB3 := hide hR.2; have hsz3 := hR.2.size; have hck3 := (hR.2.cell (p := ⟨g, k, none⟩) hg).trans (((unhide HB).cell (p := ⟨g, k, none⟩) hg).symm.trans hck); have m1 := True.intro; clear hown3 hgrow3 hR))
            have hR4 := row_push rfl (unhide HB3) (unhide hrow3) hown4 hgrow4
            clear hown4 hgrow4
            go_roundw
            case rel => exact ⟨k + 1, _, _, by omega, by go_num, rfl, hpb', hus', hne', hide hR4.1, hR4.2⟩
            case measure => simp [intOf]; omega
    · have hno : hasB ts s = false := by
        rw [Bool.eq_false_iff]
        intro h
        obtain ⟨j, hj, e⟩ := List.getElem_of_mem ((hasB_iff ts s).1 h)
        exact unhide hne j hj (by omega) e
      have htk : ts.take k = ts := List.take_of_length_le (by omega)
      have hend := ins_end ts s hno
      rw [htk] at hpb hus
      rw [← unhide hpb, ← unhide hus] at hend
      have HE := hide hend
      have HB := hide hbel
      clear hno htk hend hbel
      cases pb with
      | true =>
        go_wp2_with fail
        go_ret
        exact ⟨⟨_, rfl, by rw [unhide HE]; exact (unhide hrow).at⟩, unhide HB⟩
      | false =>
        go_wp2_with (first
          | (at_builtin; refine wpList_append_own _ rfl _ _ 22 rfl w.heap.size 9 i0 _ 1 16 Tryz.underlying22 hi hz0 hz1 hz2 rfl (by decide) u5 us.length (us.map .string) rfl (ownsRow_up (unhide hrow) ((Below.refl _ _).alloc (Nat.le_refl _) _)) ⟨wr.heap.size, 0, none⟩ 1 1 [.string s] rfl rfl (news_one wr 9 (.string s)) (one_str s) (by unfold maxLen; omega) (by omega) (by simp; omega) ?_; intro v3 w3 hown3 hgrow3 _))
        have hR := row_push rfl (unhide HB) (unhide hrow) hown3 hgrow3
        clear hown3 hgrow3
        have HR := hide hR
        clear hR
        go_wp2_with fail
        go_ret
        exact ⟨⟨_, rfl, by rw [unhide HE]; exact (unhide HR).1.at⟩, (unhide HR).2⟩

end Go.Proofs.YtldgffkippejiaaGreatDoor
