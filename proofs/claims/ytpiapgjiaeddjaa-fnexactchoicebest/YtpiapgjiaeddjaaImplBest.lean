/-
  The program's ChoiceBest.
-/
import Derived.Test.YtpiapgjiaeddjaaGreatI
import Derived.Test.YtpiapgjiaeddjaaMerged25
set_option linter.unusedVariables false
namespace Go.Proofs.Ytpiapgjiaeddjaa
open Go.RowKit Go.Maps Go.Deep

def emptyAt (ws : List (List ItemV)) (k : Nat) : Bool := (ws.getD k []).isEmpty
def anyEmpty (ws : List (List ItemV)) : Bool := ws.any (fun x => x.isEmpty)
theorem empty_any (a : Option Addr) (n c : Nat) (w : World) : Calls Try.prog 17 #[.slice a n c] w fun e w' => e = .returned (.bool (decide (n = 0))) ∧ Below w.heap.size w w' := by
  by_cases h : n = 0
  · subst h
    go_enter Try.func17, Try.ntmps17
    go_wp2_with fail
    go_ret
    exact ⟨rfl, Below.refl _ _⟩
  · have h2 : ((n : Int) == 0) = false := by simp; omega
    rw [decide_eq_false h]
    go_enter Try.func17, Try.ntmps17
    go_wp2_with fail
    go_ret
    exact ⟨by first | rfl | simp [h2], Below.refl _ _⟩
set_option maxHeartbeats 1600000 in
theorem index_any (w : World) (b off cap : Nat) (ws : List (List ItemV)) (h6 : ws.length ≤ 6) (hc : WinsAt w b off ws) (hb : b < w.heap.size) :
    Calls Try.prog 29 #[.slice (some ⟨b, off, none⟩) ws.length cap, .func (.func 17) #[] #[]] w fun e w' => (∃ i : Int, e = .returned (.int .i64 i) ∧ (decide (0 ≤ i) = anyEmpty ws)) ∧ Below w.heap.size w w' := by
  have HC := hide hc
  clear hc
  go_enter Try.func29, Try.ntmps29
  go_wp2_with fail
  go_loopw [8] (fun iv wr => ∃ k : Nat, k ≤ ws.length ∧ iv = .int .i64 k ∧ Hid (∀ j (h : j < ws.length), j < k → ws[j] ≠ []) ∧ Hid (Below w.heap.size w wr)) (fun iv _ => ws.length - (intOf iv).toNat)
  case atStart => exact ⟨0, Nat.zero_le _, rfl, hide (fun j h hj => absurd hj (Nat.not_lt_zero _)), Below.refl _ _⟩
  case round =>
    obtain ⟨k, hk, rfl, HN, HB⟩ := hrel
    by_cases hlt : k < ws.length
    · obtain ⟨v, c0, hv⟩ := (unhide HC).up hb (unhide HB) k hlt
      obtain ⟨a, c, rfl, -⟩ := hv
      by_cases he : ws[k].length = 0
      · have HE := hide (show anyEmpty ws = true from List.any_eq_true.2 ⟨_, List.getElem_mem hlt, by rw [List.eq_nil_of_length_eq_zero he]; rfl⟩)
        have HQ := hide (empty_any a ws[k].length c)
        rw [decide_eq_true he] at HQ
        generalize ws[k].length = n at *
        clear he
        go_wp2_with (go_at_call 17; refine (unhide HQ _).mono ?_; rintro e w1 ⟨rfl, k1⟩; have B1 := hide ((unhide HB).trans (k1.mono (unhide HB).size)); clear k1)
        go_ret
        exact ⟨⟨k, rfl, by rw [unhide HE]; simp⟩, unhide B1⟩
      · have HNX := hide (show ∀ j (h : j < ws.length), j < k + 1 → ws[j] ≠ [] from fun j h hj => by
          by_cases e : j = k
          · subst e; intro e2; rw [e2] at he; exact he rfl
          · exact unhide HN j h (by omega))
        have HQ := hide (empty_any a ws[k].length c)
        rw [decide_eq_false he] at HQ
        generalize ws[k].length = n at *
        clear he
        go_wp2_with (go_at_call 17; refine (unhide HQ _).mono ?_; rintro e w1 ⟨rfl, k1⟩; have B1 := hide ((unhide HB).trans (k1.mono (unhide HB).size)); clear k1)
        clear c0
        go_roundw
        case rel => exact ⟨k + 1, by omega, by go_num, HNX, B1⟩
        case measure => simp [intOf]; omega
    · obtain rfl : k = ws.length := by omega
      have HE := hide (show anyEmpty ws = false from List.any_eq_false.2 fun x hx => by
        obtain ⟨j, hj, rfl⟩ := List.getElem_of_mem hx
        have := unhide HN j hj hj
        simpa using this)
      go_wp2_with fail
      go_ret
      exact ⟨⟨-1, rfl, by rw [unhide HE]; rfl⟩, unhide HB⟩
theorem contains_any (w : World) (b off cap : Nat) (ws : List (List ItemV)) (h6 : ws.length ≤ 6) (hc : WinsAt w b off ws) (hb : b < w.heap.size) :
    Calls Try.prog 19 #[.slice (some ⟨b, off, none⟩) ws.length cap, .func (.func 17) #[] #[]] w fun e w' => e = .returned (.bool (anyEmpty ws)) ∧ Below w.heap.size w w' := by
  have HI := hide (index_any w b off cap ws h6 hc hb)
  clear hc
  go_enter Try.func19, Try.ntmps19
  go_wp2_with (go_at_call 29; refine (unhide HI).mono ?_; rintro e w1 ⟨⟨i, rfl, hi⟩, k1⟩; have HE := hide hi; have B1 := hide k1; clear hi k1)
  go_ret
  exact ⟨by rw [← unhide HE]; rfl, unhide B1⟩
theorem any_empty {ws : List (List ItemV)} (h : anyEmpty ws = true) : ∃ w ∈ ws, w = [] := by
  obtain ⟨x, hx, e⟩ := List.any_eq_true.1 h
  exact ⟨x, hx, by simpa using e⟩
theorem none_empty {ws : List (List ItemV)} (h : anyEmpty ws = false) : ∀ x ∈ ws, x ≠ [] := fun x hx e => by
  have := List.any_eq_false.1 h x hx
  rw [e] at this
  exact this rfl
set_option maxRecDepth 20000 in
set_option maxHeartbeats 1600000 in
theorem implBest_any (ws : List (List ItemV)) (v : Value) (w : World) (hs : SmallItemSS ws) (h : ItemSSRd w v ws) :
    Calls Try.prog 7 #[v] w fun e w' => ∃ v S, e = .returned (.tuple #[v, .bool (bestB ws)]) ∧ Hid (IntSOwn S w' v (bestV ws)) ∧ Hid (∀ k ∈ S, w.heap.size ≤ k) ∧ Below w.heap.size w w' := by
  have HK := hide (fun (W : World) (bW : Below w.heap.size w W) => windowsOk_any ws v W hs (h.up bW))
  obtain ⟨a, c, rfl, h⟩ := h
  cases hw : winsB ws
  · have HB := hide (best_no (ws := ws) (.inl hw))
    rw [hw] at HK
    clear hw h hs
    go_enter Try.func7, Try.ntmps7
    go_wp2_with (go_at_call 18; refine (unhide HK _ (Below.refl _ _)).mono ?_; rintro e w1 ⟨rfl, k1⟩; have B1 := hide k1; clear k1)
    refine bodyPost_ret (v := .tuple #[.slice none 0 0, .bool false]) ?_ rfl ?_
    · simp [results, Try.results7, go_sem]
    exact ⟨_, [], by rw [(unhide HB).2], by rw [(unhide HB).1]; exact hide (.inl ⟨rfl, rfl, _, _, rfl⟩), hide (by simp), unhide B1⟩
  · obtain ⟨h1, h6⟩ := winsB_len hw
    rcases h with rfl | ⟨b, off, rfl, hb, hc⟩
    · simp at h1
    have HC := hide (fun (W : World) (bW : Below w.heap.size w W) => contains_any W b off c ws h6 (hc.up hb bW) (Nat.lt_of_lt_of_le hb bW.size))
    cases he : anyEmpty ws
    · have HN := hide (fun (W : World) (bW : Below w.heap.size w W) => newChooser_any W b off c ws hs hw (none_empty he) (hc.up hb bW) (Nat.lt_of_lt_of_le hb bW.size))
      have hl := lasts_in (none_empty he)
      have HG := hide (fun (W X : World) (nn : Nat) (D : DataW Unit) (G : ByteArray → Hd) (gp pc : Nat) (bW : Below w.heap.size w W) (hnn : nn ≤ 10000000) (hI : ChIs W X (shC ws) (.slice (some ⟨b, off, none⟩) ws.length c) nn D G (.slice (some ⟨gp, 0, none⟩) ws.length pc) (lasts ws)) => great_any hs hw (hc.up hb bW) (Nat.lt_of_lt_of_le hb bW.size) hnn hI hl.1 hl.2)
      rw [hw] at HK
      rw [he] at HC
      clear hw hs hc he hl
      go_enter Try.func7, Try.ntmps7
      go_wp2_with (first
        | (go_at_call 18; refine (unhide HK _ (Below.refl _ _)).mono ?_; rintro e w1 ⟨rfl, k1⟩; have B1 := hide k1; clear k1)
        | (go_at_call 19; refine (unhide HC _ (unhide B1)).mono ?_; rintro e w2 ⟨rfl, k2⟩; have B2 := hide ((unhide B1).trans (k2.mono (unhide B1).size)); clear k2)
        | (go_at_call 20; refine (unhide HN _ (unhide B2)).mono ?_; rintro e w3 ⟨rfl, nn, D, G, gp, pc, HNN, HCI⟩)
        | (go_at_call 21; refine (unhide HG _ _ nn D G gp pc (unhide B2) (unhide HNN) (unhide HCI)).mono ?_; rintro e w4 ⟨v4, S4, rfl, HO, HS4, k4⟩; have B4 := hide ((unhide B2).trans (k4.mono (unhide B2).size)); have HS5 := hide (show ∀ k ∈ S4, w.heap.size ≤ k from fun k hk => Nat.le_trans (unhide B2).size (unhide HS4 k hk)); clear k4)
        | fail)
      refine bodyPost_ret (v := .tuple #[v4, .bool (bestB ws)]) ?_ rfl ?_
      · simp [results, Try.results7, go_sem]
      exact ⟨_, S4, rfl, HO, HS5, unhide B4⟩
    · have HB := hide (best_no (ws := ws) (.inr (empty_none (any_empty he))))
      rw [hw] at HK
      rw [he] at HC
      clear hw hs hc he
      go_enter Try.func7, Try.ntmps7
      go_wp2_with (first
        | (go_at_call 18; refine (unhide HK _ (Below.refl _ _)).mono ?_; rintro e w1 ⟨rfl, k1⟩; have B1 := hide k1; clear k1)
        | (go_at_call 19; refine (unhide HC _ (unhide B1)).mono ?_; rintro e w2 ⟨rfl, k2⟩; have B2 := hide ((unhide B1).trans (k2.mono (unhide B1).size)); clear k2)
        | fail)
      refine bodyPost_ret (v := .tuple #[.slice none 0 0, .bool false]) ?_ rfl ?_
      · simp [results, Try.results7, go_sem]
      exact ⟨_, [], by rw [(unhide HB).2], by rw [(unhide HB).1]; exact hide (.inl ⟨rfl, rfl, _, _, rfl⟩), hide (by simp), unhide B2⟩
theorem small_best (ws : List (List ItemV)) (hs : SmallItemSS ws) : SmallIntS (bestV ws) := by
  have nil : SmallIntS [] := ⟨by simp, fun t h => by simp at h⟩
  unfold bestV
  cases hb : bestO ws with
  | none => exact nil
  | some b =>
    have hx : BestIs ws (some b) := by
      unfold bestO at hb
      split at hb
      · rename_i h
        have := Classical.choose_spec h
        rwa [hb] at this
      · cases hb
    obtain ⟨hw, hl, -, hp⟩ := hx
    have h6 := (winsB_len hw).2
    refine ⟨by simp; omega, fun t ht => ?_⟩
    obtain ⟨k, hk, rfl⟩ := List.getElem_of_mem ht
    simp only [Option.getD_some] at hk ⊢
    obtain ⟨p, h1, h2⟩ := hp k (by omega)
    obtain ⟨q, e1, e2, -⟩ := inR_at h1.1 (show k < ws.length by omega)
    have h4 := wins_four4 hw _ (List.getElem_mem (show k < ws.length by omega))
    have hg : b.getD k 0 = b[k] := by rw [List.getD_eq_getElem?_getD, List.getElem?_eq_getElem hk]; rfl
    show IntFit b[k]
    rw [← hg, ← h2, e1]
    constructor <;> omega
end Go.Proofs.Ytpiapgjiaeddjaa
