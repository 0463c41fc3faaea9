/-
  WindowOk of the program.
-/
/-
  Choices: which windows may be chosen from, which places are there, which items agree.
-/
/-
  The program's windowsOk: which windows may be chosen from.
-/
/-
  The program's chosenStamps: the stamps of a choice.
-/
/-
  The program's ChoiceAgrees.
-/
import Derived.Test.YtpiapgjiaeddjaaWinOf
import Derived.Test.YtpiapgjiaeddjaaMerged14
import Derived.Test.YtpiapgjiaeddjaaMerged15
import Derived.Test.YtpiapgjiaeddjaaAgreeS
import Derived.Test.YtpiapgjiaeddjaaMerged6
import Derived.Handy
import Derived.Test.YtpiapgjiaeddjaaMerged13
set_option linter.unusedVariables false
namespace Go.Proofs.Ytpiapgjiaeddjaa
open Go.RowKit Go.Maps Go.Deep

theorem retWin_form {w : World} {ns : List ItemV} {e : Ending} {w' : World} (h : RetWin w ns e w') : ∃ p, e = .returned (.tuple #[p, .bool (windowB orderOut ns)]) := by
  rcases h with ⟨h1, h2⟩ | ⟨h1, g, xs, h2, _⟩
  · exact ⟨_, by rw [h1]; exact h2⟩
  · exact ⟨_, by rw [h1]; exact h2⟩
set_option maxHeartbeats 1600000 in
theorem implWindow_any (ns : List ItemV) (v : Value) (w : World) (hs : SmallItemS ns) (h : ItemSRd w v ns) : Calls Try.prog 28 #[v] w fun e w' => e = .returned (.bool (windowB orderOut ns)) ∧ Below w.heap.size w w' := by
  have HW := hide (fun W (b : Below w.heap.size w W) => windowOf_any ns v W hs (h.up b))
  obtain ⟨a, n, c, rfl⟩ := h.form
  clear h hs
  go_enter Try.func28, Try.ntmps28
  go_wp2_with fail
  refine (unhide HW _ (Below.refl _ _)).mono ?_
  rintro e w1 ⟨HR, b1⟩
  obtain ⟨p, rfl⟩ := retWin_form (unhide HR)
  have B1 := hide b1
  clear b1 HR
  obtain ⟨r, HRR⟩ : ∃ r, Hid (windowB orderOut ns = r) := ⟨_, rfl⟩
  rw [unhide HRR]
  go_wp2_with fail
  go_ret
  exact ⟨ret_bool (unhide HRR).symm, unhide B1⟩
theorem specWindow_ok (ns : List ItemV) (v : Value) (w : World) (hs : SmallItemS ns) (h : ItemSRd w v ns) : Calls Try.prog 25 #[v] w fun e w' => e = .returned (.bool (windowB orderOut ns)) ∧ Below w.heap.size w w' := specWindow_any orderOut ordSaid ns v w hs h
end Go.Proofs.Ytpiapgjiaeddjaa

set_option linter.unusedVariables false
namespace Go.Proofs.Ytpiapgjiaeddjaa
open Go.RowKit Go.Maps Go.Deep

theorem IntsAt.up {w w' : World} {b off : Nat} {ps : List Int} (h : IntsAt w b off ps) (hb : b < w.heap.size) (hw : Below w.heap.size w w') : IntsAt w' b off ps := h.below hw hb
def winsB (ws : List (List ItemV)) : Bool := decide (1 ≤ ws.length) && decide (ws.length ≤ 6) && ws.all (windowB orderOut)
def placeB (ws : List (List ItemV)) (ps : List Int) (i : Nat) : Bool := decide (0 ≤ ps.getD i 0) && decide (ps.getD i 0 < ((ws.getD i []).length : Int))
def inB (ws : List (List ItemV)) (ps : List Int) : Bool := (List.range ps.length).all (placeB ws ps)
def stampAt (ws : List (List ItemV)) (ps : List Int) (i : Nat) : List MarkV := (((ws.getD i [])[(ps.getD i 0).toNat]?).map (fun x => x.a1)).getD []
def pairB (ws : List (List ItemV)) (ps : List Int) (i k : Nat) : Bool := agreeOut (stampAt ws ps i) (stampAt ws ps k)
def agB (ws : List (List ItemV)) (ps : List Int) : Bool := (List.range ps.length).all fun i => (List.range i).all (pairB ws ps i)
def choiceB (ws : List (List ItemV)) (ps : List Int) : Bool := winsB ws && (decide (ps.length = ws.length) && (inB ws ps && agB ws ps))
theorem winsB_no_len {ws : List (List ItemV)} (h : ws.length < 1 ∨ 6 < ws.length) : winsB ws = false := by
  unfold winsB
  rcases h with h | h
  · rw [show decide (1 ≤ ws.length) = false from decide_eq_false (by omega)]; simp
  · rw [show decide (ws.length ≤ 6) = false from decide_eq_false (by omega)]; simp
theorem winsB_no {ws : List (List ItemV)} {k : Nat} (hk : k < ws.length) (h : windowB orderOut ws[k] = false) : winsB ws = false := by
  unfold winsB
  rw [show ws.all (windowB orderOut) = false by rw [List.all_eq_false]; exact ⟨ws[k], List.getElem_mem hk, by simp [h]⟩]
  simp
theorem winsB_yes {ws : List (List ItemV)} (h1 : 1 ≤ ws.length) (h6 : ws.length ≤ 6) (h : ∀ k (hk : k < ws.length), windowB orderOut ws[k] = true) : winsB ws = true := by
  unfold winsB
  rw [show ws.all (windowB orderOut) = true by rw [List.all_eq_true]; intro x hx; obtain ⟨k, hk, rfl⟩ := List.getElem_of_mem hx; exact h k hk]
  simp [h1, h6]
theorem winsB_len {ws : List (List ItemV)} (h : winsB ws = true) : 1 ≤ ws.length ∧ ws.length ≤ 6 := by
  unfold winsB at h
  simp at h
  exact ⟨by omega, h.1.2⟩
theorem winsB_each {ws : List (List ItemV)} (h : winsB ws = true) : ∀ x ∈ ws, windowB orderOut x = true := by
  unfold winsB at h
  simp at h
  exact h.2
theorem place_no {ws : List (List ItemV)} {ps : List Int} {k : Nat} (hk : k < ps.length) (h : placeB ws ps k = false) : inB ws ps = false := by
  unfold inB
  rw [List.all_eq_false]
  exact ⟨k, List.mem_range.2 hk, by simp [h]⟩
theorem place_yes {ws : List (List ItemV)} {ps : List Int} (h : ∀ k, k < ps.length → placeB ws ps k = true) : inB ws ps = true := by
  unfold inB
  rw [List.all_eq_true]
  exact fun k hk => h k (List.mem_range.1 hk)
theorem in_each {ws : List (List ItemV)} {ps : List Int} (h : inB ws ps = true) {k : Nat} (hk : k < ps.length) : placeB ws ps k = true := by
  unfold inB at h
  rw [List.all_eq_true] at h
  exact h k (List.mem_range.2 hk)
theorem pair_no {ws : List (List ItemV)} {ps : List Int} {i k : Nat} (hi : i < ps.length) (hk : k < i) (h : pairB ws ps i k = false) : agB ws ps = false := by
  unfold agB
  rw [List.all_eq_false]
  refine ⟨i, List.mem_range.2 hi, ?_⟩
  rw [Bool.not_eq_true, List.all_eq_false]
  exact ⟨k, List.mem_range.2 hk, by simp [h]⟩
theorem pair_yes {ws : List (List ItemV)} {ps : List Int} (h : ∀ i k, i < ps.length → k < i → pairB ws ps i k = true) : agB ws ps = true := by
  unfold agB
  rw [List.all_eq_true]
  intro i hi
  rw [List.all_eq_true]
  exact fun k hk => h i k (List.mem_range.1 hi) (List.mem_range.1 hk)
theorem ag_each {ws : List (List ItemV)} {ps : List Int} (h : agB ws ps = true) {i k : Nat} (hi : i < ps.length) (hk : k < i) : pairB ws ps i k = true := by
  unfold agB at h
  rw [List.all_eq_true] at h
  have := h i (List.mem_range.2 hi)
  rw [List.all_eq_true] at this
  exact this k (List.mem_range.2 hk)
/-- all pairs ahead of (i, k) agree -/
def PairsTo (ws : List (List ItemV)) (ps : List Int) (i k : Nat) : Prop := ∀ a b, b < a → (a < i ∨ (a = i ∧ b < k)) → pairB ws ps a b = true
theorem pairs_zero (ws : List (List ItemV)) (ps : List Int) : PairsTo ws ps 0 0 := fun a b h1 h2 => by omega
theorem pairs_step {ws : List (List ItemV)} {ps : List Int} {i k : Nat} (h : PairsTo ws ps i k) (hp : pairB ws ps i k = true) : PairsTo ws ps i (k + 1) := fun a b h1 h2 => by
  by_cases e : a = i ∧ b = k
  · rw [e.1, e.2]; exact hp
  · exact h a b h1 (by omega)
theorem pairs_next {ws : List (List ItemV)} {ps : List Int} {i : Nat} (h : PairsTo ws ps i i) : PairsTo ws ps (i + 1) 0 := fun a b h1 h2 => h a b h1 (by omega)
theorem pairs_all {ws : List (List ItemV)} {ps : List Int} {i : Nat} (hi : ps.length ≤ i) (h : PairsTo ws ps i 0) : agB ws ps = true := pair_yes fun a b ha hb => h a b hb (.inl (by omega))
/-- where the stamp of a chosen item lies -/
theorem choice_reach {w : World} {b off : Nat} {ws : List (List ItemV)} {ps : List Int} {i : Nat} (hs : SmallItemSS ws) (hc : WinsAt w b off ws) (hi : i < ps.length) (hl : ps.length ≤ ws.length) (hin : inB ws ps = true) :
    ∃ (q bi oi ni ci : Nat) (ma : Option Addr) (mn mc : Nat), ps[i] = (q : Int) ∧ q < ni ∧ ni ≤ 1048576 ∧ w.cell? ⟨b, off + i, none⟩ = some (.slice (some ⟨bi, oi, none⟩) ni ci) ∧ w.cell? ⟨bi, oi + q * 2 + 1, none⟩ = some (.slice ma mn mc) ∧ MarkSRd w (.slice ma mn mc) (stampAt ws ps i) ∧ SmallMarkS (stampAt ws ps i) ∧ (∃ n : Int, w.cell? ⟨bi, oi + q * 2, none⟩ = some (.int .i64 n)) := by
  have hp := in_each hin hi
  have hiw : i < ws.length := by omega
  unfold placeB at hp
  simp only [List.getD_eq_getElem?_getD, List.getElem?_eq_getElem hi, List.getElem?_eq_getElem hiw, Option.getD_some, Bool.and_eq_true, decide_eq_true_eq] at hp
  obtain ⟨q, hq⟩ : ∃ q : Nat, ps[i] = (q : Int) := ⟨ps[i].toNat, by omega⟩
  have hqn : q < ws[i].length := by omega
  obtain ⟨v, c, hv⟩ := hc i hiw
  have hsm := hs.2 _ (List.getElem_mem hiw)
  obtain ⟨a, cc, rfl, hin'⟩ := hv
  rcases hin' with h0 | ⟨bi, oi, rfl, hbi, hat⟩
  · rw [h0] at hqn; simp at hqn
  obtain ⟨e0, v', e1, hm⟩ := hat q hqn
  have hst : stampAt ws ps i = ws[i][q].a1 := by
    unfold stampAt
    simp only [List.getD_eq_getElem?_getD, List.getElem?_eq_getElem hi, List.getElem?_eq_getElem hiw, Option.getD_some, hq, Int.toNat_natCast, List.getElem?_eq_getElem hqn, Option.map_some]
  obtain ⟨ma, mn, mc, rfl⟩ := hm.form
  exact ⟨q, bi, oi, ws[i].length, cc, ma, mn, mc, hq, hqn, hsm.1, c, e1, hst ▸ hm, hst ▸ (hsm.2 _ (List.getElem_mem hqn)).2, ⟨_, e0⟩⟩
theorem choice_no1 {ws : List (List ItemV)} {ps : List Int} (h : winsB ws = false) : choiceB ws ps = false := by simp [choiceB, h]
theorem choice_no2 {ws : List (List ItemV)} {ps : List Int} (h : ps.length ≠ ws.length) : choiceB ws ps = false := by simp [choiceB, h]
theorem choice_no3 {ws : List (List ItemV)} {ps : List Int} (h : inB ws ps = false) : choiceB ws ps = false := by simp [choiceB, h]
theorem choice_ag {ws : List (List ItemV)} {ps : List Int} (h1 : winsB ws = true) (h2 : ps.length = ws.length) (h3 : inB ws ps = true) : choiceB ws ps = agB ws ps := by simp [choiceB, h1, h2, h3]
end Go.Proofs.Ytpiapgjiaeddjaa

set_option linter.unusedVariables false
namespace Go.Proofs.Ytpiapgjiaeddjaa
open Go.RowKit Go.Maps Go.Deep

set_option maxHeartbeats 3200000 in
theorem windowsOk_any (ws : List (List ItemV)) (v : Value) (w : World) (hs : SmallItemSS ws) (h : ItemSSRd w v ws) :
    Calls Try.prog 18 #[v] w fun e w' => e = .returned (.bool (winsB ws)) ∧ Below w.heap.size w w' := by
  obtain ⟨a, c, rfl, h⟩ := h
  have hn := hs.1
  by_cases h1 : ws.length < 1
  · have HE := hide (winsB_no_len (.inl h1))
    rw [unhide HE]
    generalize ws.length = n at *
    clear h hs HE
    have h1' : (n : Int) < 1 := by omega
    go_enter Try.func18, Try.ntmps18
    go_wp2_with fail
    go_ret
    exact ⟨rfl, Below.refl _ _⟩
  by_cases h6 : 6 < ws.length
  · have HE := hide (winsB_no_len (.inr h6))
    rw [unhide HE]
    generalize ws.length = n at *
    clear h hs HE
    have h1' : ¬ (n : Int) < 1 := by omega
    have h6' : 6 < (n : Int) := by omega
    go_enter Try.func18, Try.ntmps18
    go_wp2_with fail
    go_ret
    exact ⟨rfl, Below.refl _ _⟩
  rcases h with rfl | ⟨b, off, rfl, hb, hc⟩
  · simp at h1
  have HC := hide hc
  have HS := hide hs.2
  have h1' : ¬ (ws.length : Int) < 1 := by omega
  have h6' : ¬ 6 < (ws.length : Int) := by omega
  clear hc hs
  go_enter Try.func18, Try.ntmps18
  go_wp2_with fail
  go_loopw [15] (fun i wr => ∃ (k : Nat), k ≤ ws.length ∧ i = .int .i64 k ∧ Hid (∀ j (hj : j < ws.length), j < k → windowB orderOut ws[j] = true) ∧ Hid (Below w.heap.size w wr)) (fun i _ => ws.length - (intOf i).toNat)
  case atStart => exact ⟨0, Nat.zero_le _, rfl, hide (fun j _ hj => absurd hj (Nat.not_lt_zero _)), Below.refl _ _⟩
  case round =>
    obtain ⟨k, hk, rfl, HN, HB⟩ := hrel
    by_cases hlt : k < ws.length
    · obtain ⟨v, c0, hv⟩ := (unhide HC).up hb (unhide HB) k hlt
      have HV := hide (implWindow_any ws[k] v wr (unhide HS _ (List.getElem_mem hlt)) hv)
      have HNO := hide (fun h => winsB_no hlt h)
      have HYES := hide (show windowB orderOut ws[k] = true → ∀ j (hj : j < ws.length), j < k + 1 → windowB orderOut ws[j] = true from fun h j hj hjk => by
        by_cases e : j = k
        · subst e; exact h
        · exact unhide HN j hj (by omega))
      obtain ⟨va, vn, vc, rfl⟩ := hv.form
      clear hv
      cases hw : windowB orderOut ws[k]
      · rw [hw] at HV
        have HE := hide (unhide HNO hw)
        clear HYES HNO hw
        go_wp2_with fail
        refine (unhide HV).mono ?_
        rintro e w1 ⟨rfl, b1⟩
        have B1 := hide ((unhide HB).trans (b1.mono (unhide HB).size))
        clear b1 c0
        go_wp2_with fail
        go_ret
        exact ⟨ret_bool (unhide HE).symm, unhide B1⟩
      · rw [hw] at HV
        have HY := hide (unhide HYES hw)
        clear HYES HNO hw
        go_wp2_with fail
        refine (unhide HV).mono ?_
        rintro e w1 ⟨rfl, b1⟩
        have B1 := hide ((unhide HB).trans (b1.mono (unhide HB).size))
        clear b1 c0
        go_wp2_with fail
        go_roundw
        case rel => exact ⟨k + 1, by omega, by go_num, HY, B1⟩
        case measure => simp [intOf]; omega
    · have HE := hide (winsB_yes (by omega) (by omega) (fun j hj => unhide HN j hj (by omega)))
      go_wp2_with fail
      go_ret
      exact ⟨ret_bool (unhide HE).symm, unhide HB⟩
end Go.Proofs.Ytpiapgjiaeddjaa

set_option linter.unusedVariables false
namespace Go.Proofs.Ytpiapgjiaeddjaa
open Go.RowKit Go.Maps Go.Deep

def pickB (ws : List (List ItemV)) (ps : List Int) : Bool := winsB ws && (decide (ps.length = ws.length) && inB ws ps)
theorem pick_no1 {ws : List (List ItemV)} {ps : List Int} (h : winsB ws = false) : pickB ws ps = false := by simp [pickB, h]
theorem pick_no2 {ws : List (List ItemV)} {ps : List Int} (h : ps.length ≠ ws.length) : pickB ws ps = false := by simp [pickB, h]
theorem pick_no3 {ws : List (List ItemV)} {ps : List Int} (h : inB ws ps = false) : pickB ws ps = false := by simp [pickB, h]
theorem pick_yes {ws : List (List ItemV)} {ps : List Int} (h1 : winsB ws = true) (h2 : ps.length = ws.length) (h3 : inB ws ps = true) : pickB ws ps = true := by simp [pickB, h1, h2, h3]
/-- the cells of a row are the stamps of the chosen items (of the world where they were handed in) -/
def StampsTo (w : World) (ws : List (List ItemV)) (ps : List Int) (vs : List Value) : Prop := ∀ j (h : j < vs.length), ∃ a n c, vs[j] = .slice a n c ∧ MarkSRd w (.slice a n c) (stampAt ws ps j) ∧ SmallMarkS (stampAt ws ps j)
theorem stampsTo_nil (w : World) (ws : List (List ItemV)) (ps : List Int) : StampsTo w ws ps [] := fun j h => by simp at h
theorem stampsTo_snoc {w : World} {ws : List (List ItemV)} {ps : List Int} {vs : List Value} {a : Option Addr} {n c : Nat} (h : StampsTo w ws ps vs) (hm : MarkSRd w (.slice a n c) (stampAt ws ps vs.length)) (hs : SmallMarkS (stampAt ws ps vs.length)) : StampsTo w ws ps (vs ++ [.slice a n c]) := by
  intro j hj
  by_cases e : j < vs.length
  · obtain ⟨a', n', c', h1, h2⟩ := h j e
    exact ⟨a', n', c', by rw [List.getElem_append_left e]; exact h1, h2⟩
  · obtain rfl : j = vs.length := by simp at hj; omega
    exact ⟨a, n, c, by simp, hm, hs⟩
def RetChosen (ws : List (List ItemV)) (ps : List Int) (w : World) (e : Ending) (w' : World) : Prop :=
  (pickB ws ps = false ∧ e = .returned (.tuple #[.slice none 0 0, .bool false]) ∧ Below w.heap.size w w') ∨
  (pickB ws ps = true ∧ ∃ a n c vs, e = .returned (.tuple #[.slice a n c, .bool true]) ∧ n = ps.length ∧ Hid (SlRow w.heap.size w' (.slice a n c) vs) ∧ Hid (vs.length = ps.length) ∧ Hid (StampsTo w ws ps vs) ∧ Below w.heap.size w w')
theorem place_facts {w : World} {b off : Nat} {ws : List (List ItemV)} {ps : List Int} {i : Nat} (hs : SmallItemSS ws) (hc : WinsAt w b off ws) (hi : i < ps.length) (hl : ps.length ≤ ws.length) (hp : placeB ws ps i = true) :
    ∃ (q bi oi ni ci : Nat) (ma : Option Addr) (mn mc : Nat), ps[i] = (q : Int) ∧ q < ni ∧ ni ≤ 1048576 ∧ w.cell? ⟨b, off + i, none⟩ = some (.slice (some ⟨bi, oi, none⟩) ni ci) ∧ w.cell? ⟨bi, oi + q * 2 + 1, none⟩ = some (.slice ma mn mc) ∧ MarkSRd w (.slice ma mn mc) (stampAt ws ps i) ∧ SmallMarkS (stampAt ws ps i) ∧ bi < w.heap.size ∧ (∃ n : Int, w.cell? ⟨bi, oi + q * 2, none⟩ = some (.int .i64 n)) := by
  have hiw : i < ws.length := by omega
  unfold placeB at hp
  simp only [List.getD_eq_getElem?_getD, List.getElem?_eq_getElem hi, List.getElem?_eq_getElem hiw, Option.getD_some, Bool.and_eq_true, decide_eq_true_eq] at hp
  obtain ⟨q, hq⟩ : ∃ q : Nat, ps[i] = (q : Int) := ⟨ps[i].toNat, by omega⟩
  have hqn : q < ws[i].length := by omega
  obtain ⟨v, c, hv⟩ := hc i hiw
  have hsm := hs.2 _ (List.getElem_mem hiw)
  obtain ⟨a, cc, rfl, hin'⟩ := hv
  rcases hin' with h0 | ⟨bi, oi, rfl, hbi, hat⟩
  · rw [h0] at hqn; simp at hqn
  obtain ⟨e0, v', e1, hm⟩ := hat q hqn
  have hst : stampAt ws ps i = ws[i][q].a1 := by
    unfold stampAt
    simp only [List.getD_eq_getElem?_getD, List.getElem?_eq_getElem hi, List.getElem?_eq_getElem hiw, Option.getD_some, hq, Int.toNat_natCast, List.getElem?_eq_getElem hqn, Option.map_some]
  obtain ⟨ma, mn, mc, rfl⟩ := hm.form
  exact ⟨q, bi, oi, ws[i].length, cc, ma, mn, mc, hq, hqn, hsm.1, c, e1, hst ▸ hm, hst ▸ (hsm.2 _ (List.getElem_mem hqn)).2, hbi, ⟨_, e0⟩⟩
end Go.Proofs.Ytpiapgjiaeddjaa

set_option linter.unusedVariables false
namespace Go.Proofs.Ytpiapgjiaeddjaa
open Go.RowKit Go.Maps Go.Deep

def stsL (ws : List (List ItemV)) (ps : List Int) (n : Nat) : List (List MarkV) := (List.range n).map (stampAt ws ps)
theorem stsL_len (ws : List (List ItemV)) (ps : List Int) (n : Nat) : (stsL ws ps n).length = n := by simp [stsL]
theorem stsL_get (ws : List (List ItemV)) (ps : List Int) (n : Nat) {i : Nat} (h : i < (stsL ws ps n).length) : (stsL ws ps n)[i] = stampAt ws ps i := by simp [stsL]
theorem ag_stsL (ws : List (List ItemV)) (ps : List Int) (i : Nat) : agAll (stampAt ws ps i) (stsL ws ps i) = (List.range i).all (pairB ws ps i) := by
  unfold agAll stsL pairB
  rw [List.all_map]
  rfl
theorem ag_no {ws : List (List ItemV)} {ps : List Int} {i : Nat} (hi : i < ps.length) (h : agAll (stampAt ws ps i) (stsL ws ps i) = false) : agB ws ps = false := by
  rw [ag_stsL] at h
  unfold agB
  rw [List.all_eq_false]
  exact ⟨i, List.mem_range.2 hi, by rw [h]; simp⟩
theorem ag_yes {ws : List (List ItemV)} {ps : List Int} (h : ∀ i, i < ps.length → agAll (stampAt ws ps i) (stsL ws ps i) = true) : agB ws ps = true := by
  unfold agB
  rw [List.all_eq_true]
  intro i hi
  rw [← ag_stsL]
  exact h i (List.mem_range.1 hi)
theorem choice_pick_no {ws : List (List ItemV)} {ps : List Int} (h : pickB ws ps = false) : choiceB ws ps = false := by
  unfold pickB at h
  unfold choiceB
  cases h1 : winsB ws
  · simp
  · cases h2 : decide (ps.length = ws.length)
    · simp
    · rw [h1, h2] at h
      simp at h
      simp [h]
theorem choice_pick_yes {ws : List (List ItemV)} {ps : List Int} (h : pickB ws ps = true) : choiceB ws ps = agB ws ps := by
  unfold pickB at h
  unfold choiceB
  simp only [Bool.and_eq_true] at h
  rw [h.1, h.2.1, h.2.2]
  rfl
end Go.Proofs.Ytpiapgjiaeddjaa
