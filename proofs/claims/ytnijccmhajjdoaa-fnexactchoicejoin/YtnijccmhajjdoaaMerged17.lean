/-
  The join of the stamps of a choice.
-/
/-
  The specification's side of choices: which windows may be chosen from, and whether the items at some places agree.
-/
import Derived.Test.YtnijccmhajjdoaaChoiceMath
import Derived.Test.YtnijccmhajjdoaaJoinFace
import Derived.Test.YtnijccmhajjdoaaMerged5
import Derived.Handy
set_option linter.unusedVariables false
namespace Go.Proofs.Ytnijccmhajjdoaa
open Go.RowKit Go.Maps Go.Deep

/-- the join of the first k stamps; none where it is none -/
def jnTo (ws : List (List ItemV)) (ps : List Int) : Nat → Option (List MarkV)
  | 0 => some []
  | k + 1 => (jnTo ws ps k).bind (fun x => if joinOkB x (stampAt ws ps k) then some (joinV x (stampAt ws ps k)) else none)
def chB (ws : List (List ItemV)) (ps : List Int) : Bool := choiceB ws ps && (jnTo ws ps ps.length).isSome
def chV (ws : List (List ItemV)) (ps : List Int) : List MarkV := if choiceB ws ps then (jnTo ws ps ps.length).getD [] else []
theorem jn_step {ws : List (List ItemV)} {ps : List Int} {k : Nat} {x : List MarkV} (h : jnTo ws ps k = some x) (hj : joinOkB x (stampAt ws ps k) = true) : jnTo ws ps (k + 1) = some (joinV x (stampAt ws ps k)) := by
  simp [jnTo, h, hj]
theorem jn_none {ws : List (List ItemV)} {ps : List Int} {k : Nat} (h : jnTo ws ps k = none) : ∀ n, k ≤ n → jnTo ws ps n = none := by
  intro n hn
  obtain ⟨d, rfl⟩ := Nat.exists_eq_add_of_le hn
  induction d with
  | zero => exact h
  | succ d ih =>
    show (jnTo ws ps (k + d)).bind _ = none
    rw [ih (by omega)]
    rfl
theorem jn_stop {ws : List (List ItemV)} {ps : List Int} {k : Nat} {x : List MarkV} (hk : k < ps.length) (h : jnTo ws ps k = some x) (hj : joinOkB x (stampAt ws ps k) = false) : chB ws ps = false ∧ chV ws ps = [] := by
  have e : jnTo ws ps (k + 1) = none := by simp [jnTo, h, hj]
  have e2 := jn_none e ps.length (by omega)
  constructor
  · simp [chB, e2]
  · simp [chV, e2]
theorem ch_no {ws : List (List ItemV)} {ps : List Int} (h : choiceB ws ps = false) : chB ws ps = false ∧ chV ws ps = [] := by simp [chB, chV, h]
theorem ch_yes {ws : List (List ItemV)} {ps : List Int} {x : List MarkV} (h : choiceB ws ps = true) (hj : jnTo ws ps ps.length = some x) : chB ws ps = true ∧ chV ws ps = x := by simp [chB, chV, h, hj]
theorem small_nilMk : SmallMarkS [] := ⟨⟨by simp, fun _ h => by cases h⟩, fun _ h => by cases h⟩
theorem choice_parts {ws : List (List ItemV)} {ps : List Int} (h : choiceB ws ps = true) : winsB ws = true ∧ ps.length = ws.length ∧ inB ws ps = true := by
  unfold choiceB at h
  simp only [Bool.and_eq_true, decide_eq_true_eq] at h
  exact ⟨h.1, h.2.1, h.2.2.1⟩
theorem stamp_small {ws : List (List ItemV)} {ps : List Int} (hs : SmallItemSS ws) (i : Nat) : SmallMarkS (stampAt ws ps i) := by
  unfold stampAt
  cases h : (ws.getD i [])[(ps.getD i 0).toNat]? with
  | none => exact small_nilMk
  | some x =>
    have hm := List.mem_of_getElem? h
    by_cases hi : i < ws.length
    · rw [List.getD_eq_getElem?_getD, List.getElem?_eq_getElem hi] at hm
      exact ((hs.2 _ (List.getElem_mem hi)).2 x hm).2
    · rw [List.getD_eq_getElem?_getD, List.getElem?_eq_none (by omega)] at hm
      simp at hm
theorem jn_small {ws : List (List ItemV)} {ps : List Int} (hs : SmallItemSS ws) (k : Nat) : ∀ x, jnTo ws ps k = some x → SmallMarkS x := by
  induction k with
  | zero => intro x h; simp [jnTo] at h; subst h; exact small_nilMk
  | succ k ih =>
    intro x h
    cases hj : jnTo ws ps k with
    | none => simp [jnTo, hj] at h
    | some y =>
      simp only [jnTo, hj, Option.bind_some] at h
      split at h
      · cases h
        exact small_join (ih y hj) (stamp_small hs k)
      · cases h
theorem small_ch {ws : List (List ItemV)} {ps : List Int} (hs : SmallItemSS ws) : SmallMarkS (chV ws ps) := by
  unfold chV
  split
  · cases h : jnTo ws ps ps.length with
    | none => exact small_nilMk
    | some x => exact jn_small hs _ x h
  · exact small_nilMk
end Go.Proofs.Ytnijccmhajjdoaa

set_option linter.unusedVariables false
namespace Go.Proofs.Ytnijccmhajjdoaa
open Go.RowKit Go.Maps Go.Deep

set_option maxHeartbeats 3200000 in
theorem l15Ok_any (ws : List (List ItemV)) (v : Value) (w : World) (hs : SmallItemSS ws) (h : ItemSSRd w v ws) :
    Calls Try.prog 20 #[v] w fun e w' => e = .returned (.bool (winsB ws)) ∧ Below w.heap.size w w' := by
  obtain ⟨a, c, rfl, h⟩ := h
  have hn := hs.1
  by_cases h1 : ws.length < 1
  · have HE := hide (winsB_no_len (.inl h1))
    rw [unhide HE]
    generalize ws.length = n at *
    clear h hs HE
    have h1' : (n : Int) < 1 := by omega
    go_enter Try.func20, Try.ntmps20
    go_wp2_with fail
    go_ret
    exact ⟨rfl, Below.refl _ _⟩
  by_cases h6 : 6 < ws.length
  · have HE := hide (winsB_no_len (.inr h6))
    rw [unhide HE]
    generalize ws.length = n at *
    clear h hs HE
    have h1' : ¬ (n : Int) < 1 := by omega
    have h6' : 6 < (n : Int) := by omega
    go_enter Try.func20, Try.ntmps20
    go_wp2_with fail
    go_ret
    exact ⟨rfl, Below.refl _ _⟩
  rcases h with rfl | ⟨b, off, rfl, hb, hc⟩
  · simp at h1
  have HC := hide hc
  have HS := hide hs.2
  have h1' : ¬ (ws.length : Int) < 1 := by omega
  have h6' : ¬ 6 < (ws.length : Int) := by omega
  clear hc hs
  go_enter Try.func20, Try.ntmps20
  go_wp2_with fail
  go_loopw [3] (fun i wr => ∃ (k : Nat), k ≤ ws.length ∧ i = .int .i64 k ∧ Hid (∀ j (hj : j < ws.length), j < k → windowB orderOut ws[j] = true) ∧ Hid (Below w.heap.size w wr)) (fun i _ => ws.length - (intOf i).toNat)
  case atStart => exact ⟨0, Nat.zero_le _, rfl, hide (fun j _ hj => absurd hj (Nat.not_lt_zero _)), Below.refl _ _⟩
  case round =>
    obtain ⟨k, hk, rfl, HN, HB⟩ := hrel
    by_cases hlt : k < ws.length
    · obtain ⟨v, c0, hv⟩ := (unhide HC).up hb (unhide HB) k hlt
      have HV := hide (specWindow_ok ws[k] v wr (unhide HS _ (List.getElem_mem hlt)) hv)
      have HNO := hide (fun h => winsB_no hlt h)
      have HYES := hide (show windowB orderOut ws[k] = true → ∀ j (hj : j < ws.length), j < k + 1 → windowB orderOut ws[j] = true from fun h j hj hjk => by
        by_cases e : j = k
        · subst e; exact h
        · exact unhide HN j hj (by omega))
      obtain ⟨va, vn, vc, rfl⟩ := hv.form
      clear hv
      cases hw : windowB orderOut ws[k]
      · rw [hw] at HV
        have HE := hide (unhide HNO hw)
        clear HYES HNO hw
        go_wp2_with fail
        refine (unhide HV).mono ?_
        rintro e w1 ⟨rfl, b1⟩
        have B1 := hide ((unhide HB).trans (b1.mono (unhide HB).size))
        clear b1 c0
        go_wp2_with fail
        go_ret
        exact ⟨ret_bool (unhide HE).symm, unhide B1⟩
      · rw [hw] at HV
        have HY := hide (unhide HYES hw)
        clear HYES HNO hw
        go_wp2_with fail
        refine (unhide HV).mono ?_
        rintro e w1 ⟨rfl, b1⟩
        have B1 := hide ((unhide HB).trans (b1.mono (unhide HB).size))
        clear b1 c0
        go_wp2_with fail
        go_roundw
        case rel => exact ⟨k + 1, by omega, by go_num, HY, B1⟩
        case measure => simp [intOf]; omega
    · have HE := hide (winsB_yes (by omega) (by omega) (fun j hj => unhide HN j hj (by omega)))
      go_wp2_with fail
      go_ret
      exact ⟨ret_bool (unhide HE).symm, unhide HB⟩
set_option maxHeartbeats 6400000 in
theorem l15Agrees_row (w : World) (b off cap b2 off2 cap2 : Nat) (ws : List (List ItemV)) (ps : List Int) (hs : SmallItemSS ws) (hl : ps.length ≤ ws.length) (h6 : ws.length ≤ 6) (hin : inB ws ps = true) (hc : WinsAt w b off ws) (hp : IntsAt w b2 off2 ps) (hb : b < w.heap.size) (hb2 : b2 < w.heap.size) :
    Calls Try.prog 35 #[.slice (some ⟨b, off, none⟩) ws.length cap, .slice (some ⟨b2, off2, none⟩) ps.length cap2] w fun e w' => e = .returned (.bool (agB ws ps)) ∧ Below w.heap.size w w' := by
  have HC := hide hc
  have HP := hide hp
  have HS := hide hs
  have HIN := hide hin
  clear hs hc hp hin
  go_enter Try.func35, Try.ntmps35
  go_wp2_with fail
  go_loopw [5] (fun i wr => ∃ (k : Nat), k ≤ ps.length ∧ i = .int .i64 k ∧ Hid (PairsTo ws ps k 0) ∧ Hid (Below w.heap.size w wr)) (fun i _ => ps.length - (intOf i).toNat)
  case atStart => exact ⟨0, Nat.zero_le _, rfl, hide (pairs_zero ws ps), Below.refl _ _⟩
  case round =>
    obtain ⟨i, hi, rfl, HN, HB⟩ := hrel
    by_cases hlt : i < ps.length
    · go_wp2_with fail
      go_loopw [6] (fun kk w2 => ∃ (k : Nat), k ≤ i ∧ kk = .int .i64 k ∧ Hid (PairsTo ws ps i k) ∧ Hid (Below w.heap.size w w2)) (fun kk _ => i - (intOf kk).toNat)
      case atStart => exact ⟨0, Nat.zero_le _, rfl, HN, HB⟩
      case round =>
        obtain ⟨k, hk, rfl, HN2, HB2⟩ := hrel
        by_cases hki : k < i
        · obtain ⟨q1, bi, oi, ni, ci, ma, mn, mc, e1, hq1, hni, c1, d1, hm1, hsm1, -⟩ := choice_reach (unhide HS) ((unhide HC).up hb (unhide HB2)) hlt hl (unhide HIN)
          obtain ⟨q2, bk, ok, nk, ck, ma2, mn2, mc2, e2, hq2, hnk, c2, d2, hm2, hsm2, -⟩ := choice_reach (unhide HS) ((unhide HC).up hb (unhide HB2)) (show k < ps.length by omega) hl (unhide HIN)
          have p1 := (unhide HP).up hb2 (unhide HB2) i hlt
          have p2 := (unhide HP).up hb2 (unhide HB2) k (by omega)
          rw [e1] at p1
          rw [e2] at p2
          have HA := hide (fun (x : LaterW wr) => specAgree_any (stampAt ws ps i) (.slice ma mn mc) (stampAt ws ps k) (.slice ma2 mn2 mc2) x.to hsm1 hsm2 (hm1.up x.bel) (hm2.up x.bel))
          have r0 : ∀ x : LaterW wr, x.to.cell? ⟨b2, off2 + i, none⟩ = some (.int .i64 (q1 : Int)) := fun x => x.cell p1
          have r1 : ∀ x : LaterW wr, x.to.cell? ⟨b2, off2 + k, none⟩ = some (.int .i64 (q2 : Int)) := fun x => x.cell p2
          have r2 : ∀ x : LaterW wr, x.to.cell? ⟨b, off + i, none⟩ = some (.slice (some ⟨bi, oi, none⟩) ni ci) := fun x => x.cell c1
          have r3 : ∀ x : LaterW wr, x.to.cell? ⟨b, off + k, none⟩ = some (.slice (some ⟨bk, ok, none⟩) nk ck) := fun x => x.cell c2
          have r4 : ∀ x : LaterW wr, x.to.cell? ⟨bi, oi + q1 * 2 + 1, none⟩ = some (.slice ma mn mc) := fun x => x.cell d1
          have r5 : ∀ x : LaterW wr, x.to.cell? ⟨bk, ok + q2 * 2 + 1, none⟩ = some (.slice ma2 mn2 mc2) := fun x => x.cell d2
          have HNO := hide (fun h => pair_no (ws := ws) hlt hki h)
          have HYES := hide (fun h => pairs_step (unhide HN2) h)
          unfold pairB at HNO HYES
          generalize agreeOut (stampAt ws ps i) (stampAt ws ps k) = r at *
          clear hm1 hm2 hsm1 hsm2 c1 c2 d1 d2 p1 p2 e1 e2
          have g1 : i < ws.length := by omega
          have g2 : k < ws.length := by omega
          have g3 : k < ps.length := by omega
          cases r
          · have HE := hide (unhide HNO rfl)
            clear HYES HNO
            go_wp2_with fail
            refine wp_region_later (by kernel_rfl) (by kernel_rfl) ?_
            repeat (go_big_quiet_step ((go_at_call 49; exact quiet_ret (unhide HA _))))
            refine wpQuiet_nil ?_
            rintro _ ⟨x, rfl⟩
            have B3 := hide ((unhide HB2).trans (x.bel.mono (unhide HB2).size))
            go_wp2_with fail
            go_ret
            exact ⟨ret_bool (unhide HE).symm, unhide B3⟩
          · have HY := hide (unhide HYES rfl)
            clear HYES HNO
            go_wp2_with fail
            refine wp_region_later (by kernel_rfl) (by kernel_rfl) ?_
            repeat (go_big_quiet_step ((go_at_call 49; exact quiet_ret (unhide HA _))))
            refine wpQuiet_nil ?_
            rintro _ ⟨x, rfl⟩
            have B3 := hide ((unhide HB2).trans (x.bel.mono (unhide HB2).size))
            go_wp2_with fail
            go_roundw
            case rel => exact ⟨k + 1, by omega, by go_num, HY, B3⟩
            case measure => simp [intOf]; omega
        · obtain rfl : k = i := by omega
          have HY := hide (pairs_next (unhide HN2))
          go_wp2_with fail
          go_roundw
          case rel => exact ⟨k + 1, by omega, by go_num, HY, HB2⟩
          case measure => simp [intOf]; omega
    · have HE := hide (pairs_all (by omega) (unhide HN))
      go_wp2_with fail
      go_ret
      exact ⟨ret_bool (unhide HE).symm, unhide HB⟩
end Go.Proofs.Ytnijccmhajjdoaa
