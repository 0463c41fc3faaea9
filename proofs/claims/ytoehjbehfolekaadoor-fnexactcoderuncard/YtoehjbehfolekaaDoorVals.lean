/-
  What a name's value is; the program's map of values, and its new machine; the specification's way to find a value.
-/
import Derived.Test.YtoehjbehfolekaaDoorBinds
import Derived.Test.YtoehjbehfolekaaDoorMachOne
set_option linter.unusedVariables false
namespace Go.Proofs.YtoehjbehfolekaaDoor
open Go.RowKit Go.Maps Go.Deep

/-- a name's value: the last bind of it tells -/
def bvL (bs : List BindV) (s : ByteArray) : Int := bs.foldl (fun acc x => if x.a0 = s then x.a1 else acc) 0
theorem bvL_snoc (bs : List BindV) (x : BindV) (s : ByteArray) : bvL (bs ++ [x]) s = if x.a0 = s then x.a1 else bvL bs s := by simp [bvL]
theorem bvL_take (bs : List BindV) (s : ByteArray) (k : Nat) (hk : k < bs.length) : bvL (bs.take (k + 1)) s = if bs[k].a0 = s then bs[k].a1 else bvL (bs.take k) s := by
  rw [List.take_succ_eq_append_getElem hk, bvL_snoc]
theorem bvL_ranged (bs : List BindV) (h : BindOk bs) (s : ByteArray) : ranged (bvL bs s) := by
  have key : ∀ k, k ≤ bs.length → ranged (bvL (bs.take k) s) := by
    intro k
    induction k with
    | zero => intro _; simp [bvL, ranged]
    | succ k ih =>
      intro hk
      rw [bvL_take bs s k (by omega)]
      split
      · exact (h _ (List.getElem_mem (show k < bs.length by omega))).2
      · exact ih (by omega)
  have := key bs.length (Nat.le_refl _)
  rwa [List.take_length] at this

def valsMap (bs : List BindV) : DataW Unit := bs.foldl (fun D x => D.put (.string x.a0.data.toList) (.lit (.int .i64 x.a1))) (.map [])
theorem vals_snoc (bs : List BindV) (x : BindV) : valsMap (bs ++ [x]) = (valsMap bs).put (.string x.a0.data.toList) (.lit (.int .i64 x.a1)) := by simp [valsMap]
theorem vals_step (bs : List BindV) (k : Nat) (hk : k < bs.length) : valsMap (bs.take (k + 1)) = (valsMap (bs.take k)).put (.string bs[k].a0.data.toList) (.lit (.int .i64 bs[k].a1)) := by
  rw [List.take_succ_eq_append_getElem hk, vals_snoc]
theorem vals_isMap (bs : List BindV) : IsMap (valsMap bs) := by
  have key : ∀ k, k ≤ bs.length → IsMap (valsMap (bs.take k)) := by
    intro k
    induction k with
    | zero => intro _; exact ⟨[], rfl⟩
    | succ k ih =>
      intro hk
      rw [vals_step bs k (by omega)]
      exact IsMap.put (ih (by omega)) _ _
  have := key bs.length (Nat.le_refl _)
  rwa [List.take_length] at this
theorem vals_tell (bs : List BindV) : Tells (valsMap bs) (bvL bs) := by
  intro s
  have key : ∀ k, k ≤ bs.length → (valsMap (bs.take k)).atKey (.string s.data.toList) (.lit (.int .i64 0)) = .lit (.int .i64 (bvL (bs.take k) s)) := by
    intro k
    induction k with
    | zero => intro _; rfl
    | succ k ih =>
      intro hk
      rw [vals_step bs k (by omega), bvL_take bs s k (by omega)]
      by_cases e : bs[k].a0 = s
      · rw [if_pos e, e, atKey_put_same (vals_isMap _) (by simp [WideAt.IsKeyLit])]
      · rw [if_neg e, atKey_put_other (by
          intro h
          injection h with h
          apply e
          generalize bs[k].a0 = t at h
          cases s; cases t; simp_all), ih (by omega)]
  have := key bs.length (Nat.le_refl _)
  rwa [List.take_length] at this

def vm0 : VM := ⟨[], List.replicate 80 0, 0, 0⟩
theorem vm0_ok (n : Nat) : vm0.Ok n := by
  refine ⟨by simp [vm0], by simp [vm0], fun v hv => by simp [vm0] at hv, fun v hv => ?_, Nat.zero_le _, Nat.zero_le _⟩
  have := List.eq_of_mem_replicate hv
  subst this
  simp [ranged]

/-- what newMachine hands back -/
def NewSaid (w : World) (bs : List BindV) (e : Ending) (w' : World) : Prop := ∃ b sg vb, e = .returned (.pointer (some ⟨b, 0, none⟩)) ∧ Mach w.heap.size b sg vb bs.length (valsMap bs) vm0 w'

set_option maxRecDepth 100000 in
set_option maxHeartbeats 3200000 in
theorem newMachine_row (w : World) (bb off cap : Nat) (bs : List BindV) (hl : (bs.length : Int) ≤ 40) (hc : BindAt w bb off bs) (hb : bb < w.heap.size) (hs : BindOk bs) :
    Calls Tryd.prog 24 #[.slice (some ⟨bb, off, none⟩) bs.length cap] w fun e w' => NewSaid w bs e w' ∧ Below w.heap.size w w' := by
  have hmm := @run_makeMap Tryd.prog
  have HS := hide hs
  have HC := hide hc
  have HM0 := hide (World.ownsMap_made w Tryd.prog 9 (plainElem (H := Unit) Tryd.prog 3))
  have HB0 := hide ((Below.refl w.heap.size w).alloc (Nat.le_refl _) (.map #[] 0))
  clear hs hc
  go_enter Tryd.func24, Tryd.ntmps24
  go_wp2_with fail
  go_loopw [9] (fun i wr => ∃ k : Nat, k ≤ bs.length ∧ i = .int .i64 k ∧ w.heap.size < wr.heap.size ∧ Hid (wr.ownsMap Tryd.prog 9 (plainElem (H := Unit) Tryd.prog 3) w.heap.size k (valsMap (bs.take k))) ∧ Hid (Below w.heap.size w wr)) (fun i _ => bs.length - (intOf i).toNat)
  case atStart => exact ⟨0, Nat.zero_le _, rfl, by simp, unhide HM0, unhide HB0⟩
  case round =>
    obtain ⟨k, hk, rfl, hzr, HMr, HBr⟩ := hrel
    by_cases hlt : k < bs.length
    · obtain ⟨c0, c1⟩ := unhide HC k hlt
      rw [← (unhide HBr).cell (by exact hb)] at c0 c1
      have hn := hide (show bs[k].a0.size ≤ maxLen from (unhide HS _ (List.getElem_mem hlt)).1)
      have hr := hide (show ranged bs[k].a1 from (unhide HS _ (List.getElem_mem hlt)).2)
      have HN := hide (vals_step bs k hlt)
      generalize bs[k].a0 = nm at c0 hn HN
      generalize bs[k].a1 = vl at c1 hr HN
      have hkey := WideMaps.keyOf_string_mk (k := 9) Tryd.underlying9 (unhide hn)
      have hel := hide (plainElem_int (H := Unit) Tryd.underlying3 (wf_of_ranged (unhide hr)))
      have bA := Below.alloc (Below.refl wr.heap.size wr) (Nat.le_refl _) (.cells #[.string nm, .int .i64 vl] 51)
      have HMA := hide (ownsMap_below (unhide HMr) bA hzr)
      have HBA := hide ((unhide HBr).trans (bA.mono (unhide HBr).size))
      clear bA
      go_wp2_with (first
        | (at_mapUpdate; refine wpList_mapUpdate_own _ rfl _ _ _ 76 rfl 9 3 lawStr Tryd.underlying76 (plainElem (H := Unit) Tryd.prog 3) w.heap.size k (valsMap (bs.take k)) rfl (unhide HMA) (by unfold maxLen; omega) _ _ _ rfl rfl hkey _ [] (unhide hel) ?_; intro w3 hown3 hgr3)
        | go_in)
      have HM3 := hide (show w3.ownsMap Tryd.prog 9 (plainElem (H := Unit) Tryd.prog 3) w.heap.size (k + 1) (valsMap (bs.take (k + 1))) by rw [unhide HN]; exact hown3)
      have hb3 := hide (Below.grown (unhide HBA) hgr3 (unhide HBA).size (fun x hx => by cases hx; omega))
      have hsz3 := hgr3.size
      simp at hsz3
      clear hown3 hgr3
      go_roundw
      case rel => exact ⟨k + 1, by omega, by go_num, by omega, HM3, hb3⟩
      case measure => simp [intOf]; omega
    · have e : k = bs.length := by omega
      have HMr' := hide (show wr.ownsMap Tryd.prog 9 (plainElem (H := Unit) Tryd.prog 3) w.heap.size bs.length (valsMap bs) by have := unhide HMr; rw [e, List.take_length] at this; exact this)
      clear e
      go_wp2_with (first
        | (go_at_call 40; refine (newSigns_any _).mono ?_; rintro e w2 ⟨rfl, hown2, hb2⟩; have HS2 := hide hown2; have HV2 := hide (ownsMap_below (unhide HMr') hb2 hzr); have HB2 := hide ((unhide HBr).trans (hb2.mono (unhide HBr).size)); clear hown2 hb2)
        | go_in)
      go_ret
      refine ⟨⟨w2.heap.size, wr.heap.size, w.heap.size, rfl, .slice none 0 0, ?_⟩, (unhide HB2).alloc (unhide HB2).size _⟩
      have bZ := (Below.refl w2.heap.size w2)
      exact ⟨(unhide HB2).size, heap_alloc_new w2 _, World.ownsRow_nil _ _ _ _, by simp [Value.ownBlock], ownsMap_below (unhide HS2) (bZ.alloc (Nat.le_refl _) _) (unhide HS2).lt, ownsMap_below (unhide HV2) (bZ.alloc (Nat.le_refl _) _) (unhide HV2).lt, by simp [vm0]⟩

set_option maxRecDepth 100000 in
set_option maxHeartbeats 1600000 in
theorem newMachine_none (w : World) (a : Option Addr) (cap : Nat) :
    Calls Tryd.prog 24 #[.slice a 0 cap] w fun e w' => NewSaid w [] e w' ∧ Below w.heap.size w w' := by
  have hmm := @run_makeMap Tryd.prog
  have HM0 := hide (World.ownsMap_made w Tryd.prog 9 (plainElem (H := Unit) Tryd.prog 3))
  have HB0 := hide ((Below.refl w.heap.size w).alloc (Nat.le_refl _) (.map #[] 0))
  go_enter Tryd.func24, Tryd.ntmps24
  go_wp2_with fail
  refine wp_loop_rounds 1 ?_
  rw [rounds_succ]
  go_wp2_with (first
    | (go_at_call 40; refine (newSigns_any _).mono ?_; rintro e w2 ⟨rfl, hown2, hb2⟩; have HS2 := hide hown2; have HV2 := hide (ownsMap_below (unhide HM0) hb2 (by simp)); have HB2 := hide ((unhide HB0).trans (hb2.mono (unhide HB0).size)); clear hown2 hb2)
    | go_in)
  go_ret
  refine ⟨⟨w2.heap.size, w.heap.size + 1, w.heap.size, rfl, .slice none 0 0, ?_⟩, (unhide HB2).alloc (unhide HB2).size _⟩
  have bZ := (Below.refl w2.heap.size w2)
  exact ⟨(unhide HB2).size, heap_alloc_new w2 _, World.ownsRow_nil _ _ _ _, by simp [Value.ownBlock], ownsMap_below (by simpa using unhide HS2) (bZ.alloc (Nat.le_refl _) _) (by simpa using (unhide HS2).lt), ownsMap_below (unhide HV2) (bZ.alloc (Nat.le_refl _) _) (unhide HV2).lt, by simp [vm0]⟩
theorem newMachine_any (w : World) (ab : Option Addr) (cap : Nat) (bs : List BindV) (hl : (bs.length : Int) ≤ 40) (hb : BindIn w ab bs) (hs : BindOk bs) :
    Calls Tryd.prog 24 #[.slice ab bs.length cap] w fun e w' => NewSaid w bs e w' ∧ Below w.heap.size w w' := by
  rcases hb with rfl | ⟨b, off, rfl, hb, hc⟩
  · exact newMachine_none w ab cap
  · exact newMachine_row w b off cap bs hl hc hb hs

end Go.Proofs.YtoehjbehfolekaaDoor
