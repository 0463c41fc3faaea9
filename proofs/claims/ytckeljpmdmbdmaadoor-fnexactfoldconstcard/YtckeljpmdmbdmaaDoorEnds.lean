/-
  The two sides of TreeEnd: both go by Kids alone, and answer 'treeEnd' at every list of nodes and every place.
-/
import Derived.Test.YtckeljpmdmbdmaaDoorNodes
namespace Go.Proofs.YtckeljpmdmbdmaaDoor
open Go.RowKit Go.Maps

/-- nodes are counted off until none is owed: what is left, how many are owed, the place -/
def endL (L : Int) : List Int → Int → Int → Int
  | [], owed, at' => if 0 < owed then -1 else at'
  | k :: r, owed, at' => if 0 < owed then (if k < 0 ∨ L < k then -1 else endL L r (owed - 1 + k) (at' + 1)) else at'
def kidsOf (ns : List NodeV) : List Int := ns.map NodeV.kids
def treeEnd (ns : List NodeV) (i : Int) : Int := if 0 ≤ i ∧ i < ns.length then endL ns.length ((kidsOf ns).drop i.toNat) 1 i else -1

theorem endL_zero (L : Int) (l : List Int) (a : Int) : endL L l 0 a = a := by
  cases l <;> simp [endL]
theorem endL_many (L : Int) : ∀ (l : List Int) (owed a : Int), (l.length : Int) < owed → endL L l owed a = -1
  | [], owed, a, h => by
    have : 0 < owed := by simpa using h
    simp [endL, this]
  | k :: r, owed, a, h => by
    have h' : (r.length : Int) + 1 < owed := by simpa using h
    have h0 : 0 < owed := by omega
    by_cases hk : k < 0 ∨ L < k
    · simp [endL, h0, hk]
    · simp only [endL, h0, hk, if_true, if_false]
      exact endL_many L r _ _ (by omega)
theorem kids_drop (ns : List NodeV) (k : Nat) (h : k < ns.length) : (kidsOf ns).drop k = ns[k].kids :: (kidsOf ns).drop (k + 1) := by
  have h' : k < (kidsOf ns).length := by simpa [kidsOf] using h
  rw [List.drop_eq_getElem_cons h']
  simp [kidsOf]
theorem kids_end (ns : List NodeV) (k : Nat) (h : ¬ k < ns.length) : (kidsOf ns).drop k = [] := by
  apply List.drop_eq_nil_of_le
  simp [kidsOf]; omega
theorem endL_bad (L : Int) (ns : List NodeV) (k : Nat) (owed : Int) (h0 : 0 < owed) (h : k < ns.length) (hb : ns[k].kids < 0 ∨ L < ns[k].kids) : endL L ((kidsOf ns).drop k) owed k = -1 := by
  rw [kids_drop ns k h]; simp [endL, h0, hb]
theorem endL_step (L : Int) (ns : List NodeV) (k : Nat) (owed : Int) (h0 : 0 < owed) (h : k < ns.length) (h1 : ¬ ns[k].kids < 0) (h2 : ¬ L < ns[k].kids) :
    endL L ((kidsOf ns).drop k) owed k = endL L ((kidsOf ns).drop (k + 1)) (owed - 1 + ns[k].kids) ((k + 1 : Nat) : Int) := by
  rw [kids_drop ns k h]; simp [endL, h0, h1, h2]
theorem endL_out (L : Int) (ns : List NodeV) (k : Nat) (owed : Int) (h0 : 0 < owed) (h : ¬ k < ns.length) : endL L ((kidsOf ns).drop k) owed k = -1 := by
  rw [kids_end ns k h]; simp [endL, h0]
theorem endL_done (L : Int) (l : List Int) (owed a : Int) (h0 : ¬ 0 < owed) : endL L l owed a = a := by
  cases l <;> simp [endL, h0]
theorem ret_i64 {a b : Int} (h : a = b) : Ending.returned (.int .i64 a) = .returned (.int .i64 b) := by rw [h]

set_option maxHeartbeats 1600000 in
theorem specEnd_any (w : World) (b off cap : Nat) (ns : List NodeV) (i : Int) (hi0 : -9223372036854775808 ≤ i) (hi1 : i ≤ 9223372036854775807) (hl : ns.length ≤ 1048576) (hc : NodesAt w b off ns) :
    Calls Tryd.prog 35 #[.slice (some ⟨b, off, none⟩) ns.length cap, .int .i64 i] w fun e w' => e = .returned (.int .i64 (treeEnd ns i)) ∧ w' = w := by
  by_cases hin : 0 ≤ i ∧ i < ns.length
  · obtain ⟨h0, h1⟩ := hin
    obtain ⟨k0, rfl⟩ := Int.eq_ofNat_of_zero_le h0
    have hT := hide (show treeEnd ns (k0 : Int) = endL ns.length ((kidsOf ns).drop k0) 1 k0 by unfold treeEnd; rw [if_pos ⟨h0, h1⟩, Int.toNat_natCast])
    have h2 : ¬ ((k0 : Int) < 0) := by omega
    have h3 : ¬ ((ns.length : Int) ≤ (k0 : Int)) := by omega
    go_enter Tryd.func35, Tryd.ntmps35
    go_wp2
    clear h2 h3
    go_loop [1, 5] (fun a o => ∃ (k : Nat) (owed : Int), k ≤ ns.length ∧ a = .int .i64 k ∧ o = .int .i64 owed ∧ 0 ≤ owed ∧ owed ≤ 1 + (k : Int) * 1048576 ∧ endL ns.length ((kidsOf ns).drop k) owed k = treeEnd ns (k0 : Int)) (fun a _ => ns.length + 1 - (intOf a).toNat)
    case atStart => exact ⟨k0, 1, by omega, rfl, rfl, by omega, by omega, (unhide hT).symm⟩
    case round =>
      obtain ⟨k, owed, hk, rfl, rfl, ho0, ho1, hend⟩ := hrel
      have HE := hide hend
      clear hend
      by_cases hpos : 0 < owed
      · by_cases hlt : k < ns.length
        · obtain ⟨_, _, _, c3⟩ := hc k hlt
          by_cases hn : ns[k].kids < 0
          · have hf := hide ((endL_bad _ ns k owed hpos hlt (.inl hn)).symm.trans (unhide HE))
            go_wp2
            go_ret
            exact ⟨ret_i64 (unhide hf), rfl⟩
          · by_cases hm : (ns.length : Int) < ns[k].kids
            · have hf := hide ((endL_bad _ ns k owed hpos hlt (.inr hm)).symm.trans (unhide HE))
              go_wp2
              go_ret
              exact ⟨ret_i64 (unhide hf), rfl⟩
            · have hf := hide ((endL_step _ ns k owed hpos hlt hn hm).symm.trans (unhide HE))
              go_wp2
              go_round
              case rel => exact ⟨k + 1, _, by omega, by go_num, rfl, by omega, by omega, unhide hf⟩
              case measure => simp [intOf]; omega
        · have hf := hide ((endL_out _ ns k owed hpos hlt).symm.trans (unhide HE))
          go_wp2
          go_ret
          exact ⟨ret_i64 (unhide hf), rfl⟩
      · have hf := hide ((endL_done ns.length ((kidsOf ns).drop k) owed k hpos).symm.trans (unhide HE))
        go_wp2
        go_ret
        exact ⟨ret_i64 (unhide hf), rfl⟩
  · have hT := hide (show treeEnd ns i = -1 by unfold treeEnd; rw [if_neg hin])
    by_cases h2 : i < 0
    · clear hin
      go_enter Tryd.func35, Tryd.ntmps35
      go_wp2
      go_ret
      exact ⟨ret_i64 (unhide hT).symm, rfl⟩
    · have h3 : (ns.length : Int) ≤ i := by omega
      clear hin
      go_enter Tryd.func35, Tryd.ntmps35
      go_wp2
      go_ret
      exact ⟨ret_i64 (unhide hT).symm, rfl⟩

theorem endL_many_at (L : Int) (ns : List NodeV) (k : Nat) (owed : Int) (h : (ns.length : Int) < owed) : endL L ((kidsOf ns).drop k) owed k = -1 := by
  apply endL_many
  have : ((kidsOf ns).drop k).length ≤ ns.length := by simp [kidsOf]
  omega

set_option maxHeartbeats 1600000 in
theorem implEnd_any (w : World) (b off cap : Nat) (ns : List NodeV) (i : Int) (hi0 : -9223372036854775808 ≤ i) (hi1 : i ≤ 9223372036854775807) (hl : ns.length ≤ 1048576) (hc : NodesAt w b off ns) :
    Calls Tryd.prog 38 #[.slice (some ⟨b, off, none⟩) ns.length cap, .int .i64 i] w fun e w' => e = .returned (.int .i64 (treeEnd ns i)) ∧ w' = w := by
  by_cases h0 : i < 0
  · have hT := hide (show treeEnd ns i = -1 by unfold treeEnd; rw [if_neg (by omega)])
    go_enter Tryd.func38, Tryd.ntmps38
    go_wp2
    go_ret
    exact ⟨ret_i64 (unhide hT).symm, rfl⟩
  · by_cases h1 : i < (ns.length : Int)
    · obtain ⟨k0, rfl⟩ := Int.eq_ofNat_of_zero_le (show 0 ≤ i by omega)
      have hT := hide (show treeEnd ns (k0 : Int) = endL ns.length ((kidsOf ns).drop k0) 1 k0 by unfold treeEnd; rw [if_pos ⟨by omega, h1⟩, Int.toNat_natCast])
      go_enter Tryd.func38, Tryd.ntmps38
      go_wp2
      go_loop [5, 6] (fun o a => ∃ (k : Nat) (owed : Int), k ≤ ns.length ∧ a = .int .i64 k ∧ o = .int .i64 owed ∧ 0 < owed ∧ owed ≤ 1 + ns.length ∧ endL ns.length ((kidsOf ns).drop k) owed k = treeEnd ns (k0 : Int)) (fun _ a => ns.length - (intOf a).toNat)
      case atStart => exact ⟨k0, 1, by omega, rfl, rfl, by omega, by omega, (unhide hT).symm⟩
      case round =>
        obtain ⟨k, owed, hk, rfl, rfl, hpos, ho1, hend⟩ := hrel
        have HE := hide hend
        clear hend
        by_cases hlt : k < ns.length
        · obtain ⟨_, _, _, c3⟩ := hc k hlt
          by_cases hn : ns[k].kids < 0
          · have hf := hide ((endL_bad _ ns k owed hpos hlt (.inl hn)).symm.trans (unhide HE))
            go_wp2
            go_ret
            exact ⟨ret_i64 (unhide hf), rfl⟩
          · by_cases hm : (ns.length : Int) < ns[k].kids
            · have hf := hide ((endL_bad _ ns k owed hpos hlt (.inr hm)).symm.trans (unhide HE))
              go_wp2
              go_ret
              exact ⟨ret_i64 (unhide hf), rfl⟩
            · have hf := hide ((endL_step _ ns k owed hpos hlt hn hm).symm.trans (unhide HE))
              by_cases hz : owed + (ns[k].kids - 1) = 0
              · have hz' : ((owed + (ns[k].kids - 1)) == 0) = true := by simpa using hz
                have hg := hide (show ((k + 1 : Nat) : Int) = treeEnd ns (k0 : Int) by
                  rw [← unhide hf, show owed - 1 + ns[k].kids = 0 by omega, endL_zero])
                clear hz
                go_wp2
                go_ret
                exact ⟨ret_i64 (by have := unhide hg; omega), rfl⟩
              · have hz' : ((owed + (ns[k].kids - 1)) == 0) = false := by simpa using hz
                by_cases hbig : (ns.length : Int) < owed + (ns[k].kids - 1)
                · have hg := hide (show (-1 : Int) = treeEnd ns (k0 : Int) by
                    rw [← unhide hf]; exact (endL_many_at _ ns (k + 1) _ (by omega)).symm)
                  clear hz
                  go_wp2
                  go_ret
                  exact ⟨ret_i64 (unhide hg), rfl⟩
                · have hg := hide (show endL ns.length ((kidsOf ns).drop (k + 1)) (owed + (ns[k].kids - 1)) ((k + 1 : Nat) : Int) = treeEnd ns (k0 : Int) by
                    rw [← unhide hf, show owed - 1 + ns[k].kids = owed + (ns[k].kids - 1) by omega])
                  have hp2 : 0 < owed + (ns[k].kids - 1) := by omega
                  clear hz
                  go_wp2
                  go_round
                  case rel => exact ⟨k + 1, _, by omega, by go_num, rfl, hp2, by omega, unhide hg⟩
                  case measure => simp [intOf]; omega
        · have hf := hide ((endL_out _ ns k owed hpos hlt).symm.trans (unhide HE))
          go_wp2
          go_ret
          exact ⟨ret_i64 (unhide hf), rfl⟩
    · have hT := hide (show treeEnd ns i = -1 by unfold treeEnd; rw [if_neg (by omega)])
      go_enter Tryd.func38, Tryd.ntmps38
      go_wp2
      refine wp_loop_rounds 1 ?_
      rw [rounds_succ]
      go_wp2
      go_ret
      exact ⟨ret_i64 (unhide hT).symm, rfl⟩

end Go.Proofs.YtckeljpmdmbdmaaDoor
