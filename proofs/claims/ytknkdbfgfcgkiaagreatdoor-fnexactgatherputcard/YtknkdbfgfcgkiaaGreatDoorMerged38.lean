/-
  The program's ChoiceAgrees.
-/
/-
  How many choices agree: counted window by window.
-/
/-
  The specification's l15All: how many choices it finds.
-/
import Derived.Test.YtknkdbfgfcgkiaaGreatDoorMerged37
import Derived.Test.YtknkdbfgfcgkiaaGreatDoorMerged36
import Derived.Handy
set_option linter.unusedVariables false
namespace Go.Proofs.YtknkdbfgfcgkiaaGreatDoor
open Go.RowKit Go.Maps Go.Deep

def stsL (ws : List (List ItemV)) (ps : List Int) (n : Nat) : List (List MarkV) := (List.range n).map (stampAt ws ps)
theorem stsL_len (ws : List (List ItemV)) (ps : List Int) (n : Nat) : (stsL ws ps n).length = n := by simp [stsL]
theorem stsL_get (ws : List (List ItemV)) (ps : List Int) (n : Nat) {i : Nat} (h : i < (stsL ws ps n).length) : (stsL ws ps n)[i] = stampAt ws ps i := by simp [stsL]
theorem ag_stsL (ws : List (List ItemV)) (ps : List Int) (i : Nat) : agAll (stampAt ws ps i) (stsL ws ps i) = (List.range i).all (pairB ws ps i) := by
  unfold agAll stsL pairB
  rw [List.all_map]
  rfl
theorem ag_no {ws : List (List ItemV)} {ps : List Int} {i : Nat} (hi : i < ps.length) (h : agAll (stampAt ws ps i) (stsL ws ps i) = false) : agB ws ps = false := by
  rw [ag_stsL] at h
  unfold agB
  rw [List.all_eq_false]
  exact ⟨i, List.mem_range.2 hi, by rw [h]; simp⟩
theorem ag_yes {ws : List (List ItemV)} {ps : List Int} (h : ∀ i, i < ps.length → agAll (stampAt ws ps i) (stsL ws ps i) = true) : agB ws ps = true := by
  unfold agB
  rw [List.all_eq_true]
  intro i hi
  rw [← ag_stsL]
  exact h i (List.mem_range.1 hi)
theorem choice_pick_no {ws : List (List ItemV)} {ps : List Int} (h : pickB ws ps = false) : choiceB ws ps = false := by
  unfold pickB at h
  unfold choiceB
  cases h1 : winsB ws
  · simp
  · cases h2 : decide (ps.length = ws.length)
    · simp
    · rw [h1, h2] at h
      simp at h
      simp [h]
theorem choice_pick_yes {ws : List (List ItemV)} {ps : List Int} (h : pickB ws ps = true) : choiceB ws ps = agB ws ps := by
  unfold pickB at h
  unfold choiceB
  simp only [Bool.and_eq_true] at h
  rw [h.1, h.2.1, h.2.2]
  rfl
set_option maxHeartbeats 6400000 in
theorem implChoice_any (ws : List (List ItemV)) (v : Value) (ps : List Int) (u : Value) (w : World) (hs : SmallItemSS ws) (hsp : SmallIntS ps) (h : ItemSSRd w v ws) (hp : IntSRd w u ps) :
    Calls Tryz.prog 114 #[v, u] w fun e w' => e = .returned (.bool (choiceB ws ps)) ∧ Below w.heap.size w w' := by
  have HK := hide (chosen_any ws v ps u w hs hsp h hp)
  obtain ⟨a, n0, c, rfl⟩ := h.form
  obtain ⟨a2, n2, c2, rfl⟩ := hp.form
  have hpl := hsp.1
  clear h hp hs hsp
  go_enter Tryz.func114, Tryz.ntmps114
  go_wp2_with fail
  refine (unhide HK).mono ?_
  rintro e w1 (⟨hno, rfl, b1⟩ | ⟨hyes, xa, xn, xc, vs, rfl, rfl, HR, HVL, HT, b1⟩)
  · have HE := hide (choice_pick_no hno)
    clear hno
    go_wp2_with fail
    go_ret
    exact ⟨ret_bool (unhide HE).symm, b1⟩
  · have HE := hide (choice_pick_yes hyes)
    have B1 := hide b1
    clear b1 hyes HK
    rcases (unhide HR).slice with ⟨hv0, hv1⟩ | ⟨g, gc, hv0, hgc, hg, hcells⟩
    · have hz : ps.length = 0 := by have := unhide HVL; rw [hv1] at this; simpa using this.symm
      have HE2 := hide (show choiceB ws ps = true by rw [unhide HE]; exact ag_yes (fun i hi => absurd hi (by omega)))
      simp only [Value.slice.injEq] at hv0
      obtain ⟨rfl, hxn, rfl⟩ := hv0
      rw [hz]
      clear hz hxn HR HVL HT hv1 hpl
      go_wp2_with fail
      refine wp_loop_rounds 1 ?_
      rw [rounds_succ]
      go_wp2_with fail
      go_ret
      exact ⟨ret_bool (unhide HE2).symm, unhide B1⟩
    · simp only [Value.slice.injEq] at hv0
      obtain ⟨rfl, -, rfl⟩ := hv0
      have HCE := hide hcells
      have HST := hide (show ∀ (i : Nat) (W : World), i ≤ ps.length → Below w1.heap.size w1 W → StsAt W g (stsL ws ps i) from fun i W hi bW j hj => by
        have hjv : j < vs.length := by rw [stsL_len] at hj; have := unhide HVL; omega
        obtain ⟨a', n', c', h1, h2, h3⟩ := unhide HT j hjv
        refine ⟨a', n', c', (bW.cell (by exact hg)).trans ((hcells j hjv).trans (by rw [h1])), ?_⟩
        rw [stsL_get]
        exact (h2.up (unhide B1)).up bW)
      have HSM := hide (show ∀ (i : Nat), i ≤ ps.length → ∀ x ∈ stsL ws ps i, SmallMarkS x from fun i hi x hx => by
        obtain ⟨j, hj, rfl⟩ := List.getElem_of_mem hx
        rw [stsL_get]
        obtain ⟨a', n', c', h1, h2, h3⟩ := unhide HT j (by rw [stsL_len] at hj; have := unhide HVL; omega)
        exact h3)
      have hgc' : ps.length ≤ xc := by have := unhide HVL; omega
      clear hcells hgc
      go_wp2_with fail
      go_loopw [19] (fun i wr => ∃ (k : Nat), k ≤ ps.length ∧ i = .int .i64 k ∧ Hid (∀ j, j < k → agAll (stampAt ws ps j) (stsL ws ps j) = true) ∧ Hid (Below w1.heap.size w1 wr)) (fun i _ => ps.length - (intOf i).toNat)
      case atStart => exact ⟨0, Nat.zero_le _, rfl, hide (fun j hj => absurd hj (Nat.not_lt_zero _)), Below.refl _ _⟩
      case round =>
        obtain ⟨k, hk, rfl, HN, HB⟩ := hrel
        by_cases hlt : k < ps.length
        · have hkv : k < vs.length := by have := unhide HVL; omega
          obtain ⟨xa, xn, xc', h1, h2, h3⟩ := unhide HT k hkv
          have c0 := ((unhide HB).cell (show g < w1.heap.size from hg)).trans (unhide HCE k hkv)
          rw [h1] at c0
          have HA := hide (agreesWithAll_row (stampAt ws ps k) (stsL ws ps k) (.slice xa xn xc') g xc wr h3 (unhide HSM k hk) (by rw [stsL_len]; omega) ((h2.up (unhide B1)).up (unhide HB)) (Nat.lt_of_lt_of_le hg (unhide HB).size) (unhide HST k wr hk (unhide HB)))
          rw [stsL_len] at HA
          have HNO := hide (fun h => ag_no (ws := ws) hlt h)
          have HYES := hide (show agAll (stampAt ws ps k) (stsL ws ps k) = true → ∀ j, j < k + 1 → agAll (stampAt ws ps j) (stsL ws ps j) = true from fun h j hjk => by
            by_cases e : j = k
            · subst e; exact h
            · exact unhide HN j (by omega))
          clear h1 h2 h3
          have hkc : k ≤ xc := by omega
          cases hag : agAll (stampAt ws ps k) (stsL ws ps k)
          · rw [hag] at HA
            have HE2 := hide (show choiceB ws ps = false by rw [unhide HE]; exact unhide HNO hag)
            clear HNO HYES hag
            go_wp2_with fail
            refine (unhide HA).mono ?_
            rintro e w2 ⟨rfl, b2⟩
            have B2 := hide ((unhide B1).trans (((unhide HB).trans (b2.mono (unhide HB).size)).mono (unhide B1).size))
            clear b2 c0
            go_wp2_with fail
            go_ret
            exact ⟨ret_bool (unhide HE2).symm, unhide B2⟩
          · rw [hag] at HA
            have HY := hide (unhide HYES hag)
            clear HNO HYES hag
            go_wp2_with fail
            refine (unhide HA).mono ?_
            rintro e w2 ⟨rfl, b2⟩
            have B2 := hide ((unhide HB).trans (b2.mono (unhide HB).size))
            clear b2 c0
            go_wp2_with fail
            go_roundw
            case rel => exact ⟨k + 1, by omega, by go_num, HY, B2⟩
            case measure => simp [intOf]; omega
        · have HE2 := hide (show choiceB ws ps = true by rw [unhide HE]; exact ag_yes (fun j hj => unhide HN j (by omega)))
          have B2 := hide ((unhide B1).trans ((unhide HB).mono (unhide B1).size))
          go_wp2_with fail
          go_ret
          exact ⟨ret_bool (unhide HE2).symm, unhide B2⟩
end Go.Proofs.YtknkdbfgfcgkiaaGreatDoor

set_option linter.unusedVariables false
namespace Go.Proofs.YtknkdbfgfcgkiaaGreatDoor
open Go.RowKit Go.Maps Go.Deep

/-- the choices of some windows that agree with what was chosen ahead of them -/
def cb : List (List ItemV) → List (List MarkV) → Nat
  | [], _ => 1
  | win :: rest, ss => (win.map (fun it => if agAll it.a1 ss then cb rest (ss ++ [it.a1]) else 0)).sum
/-- the choices that agree and begin so -/
def cs (ws : List (List ItemV)) : List (List ItemV) → List Int → Nat
  | [], ps => if agB ws ps then 1 else 0
  | win :: rest, ps => if agB ws ps then ((List.range win.length).map (fun (i : Nat) => cs ws rest (ps ++ [(i : Int)]))).sum else 0
theorem sum_le4 (l : List Nat) (b : Nat) (h : ∀ x ∈ l, x ≤ b) : l.sum ≤ l.length * b := by
  induction l with
  | nil => simp
  | cons x xs ih =>
    have h1 := h x (by simp)
    have h2 := ih (fun y hy => h y (by simp [hy]))
    simp only [List.sum_cons, List.length_cons, Nat.add_mul, Nat.one_mul]
    omega
end Go.Proofs.YtknkdbfgfcgkiaaGreatDoor

set_option linter.unusedVariables false
namespace Go.Proofs.YtknkdbfgfcgkiaaGreatDoor
open Go.RowKit Go.Maps Go.Deep

/-- a list of numbers that may be read, and does not lie where another row lies -/
def PkIn (w : World) (pa : Option Addr) (ps : List Int) (r : Option Nat) : Prop := ps = [] ∨ ∃ b off, pa = some ⟨b, off, none⟩ ∧ b < w.heap.size ∧ IntsAt w b off ps ∧ r ≠ some b
theorem PkIn.rd {w : World} {pa : Option Addr} {ps : List Int} {r : Option Nat} (h : PkIn w pa ps r) (c : Nat) : IntSRd w (.slice pa ps.length c) ps := by
  rcases h with h | ⟨b, off, e, hb, hc, _⟩
  · exact ⟨pa, c, rfl, .inl h⟩
  · exact ⟨pa, c, rfl, .inr ⟨b, off, e, hb, hc⟩⟩
theorem PkIn.turn {w w' : World} {pa : Option Addr} {ps : List Int} {r : Option Nat} (h : PkIn w pa ps r) (t : Turn r.toList w w') : PkIn w' pa ps r := by
  rcases h with h | ⟨b, off, e, hb, hc, hr⟩
  · exact .inl h
  · exact .inr ⟨b, off, e, Nat.lt_of_lt_of_le hb t.size, hc.turn t hb (by simpa using hr), hr⟩
set_option maxHeartbeats 3200000 in
theorem l15Agrees_any (ws : List (List ItemV)) (b off cap : Nat) (ps : List Int) (pa : Option Addr) (pc : Nat) (w : World) (hs : SmallItemSS ws) (hl : ps.length ≤ ws.length) (h6 : ws.length ≤ 6) (hin : inB ws ps = true) (hc : WinsAt w b off ws) (hb : b < w.heap.size) (hp : IntSRd w (.slice pa ps.length pc) ps) :
    Calls Tryz.prog 83 #[.slice (some ⟨b, off, none⟩) ws.length cap, .slice pa ps.length pc] w fun e w' => e = .returned (.bool (agB ws ps)) ∧ Below w.heap.size w w' := by
  obtain ⟨a', c', e, h⟩ := hp
  simp only [Value.slice.injEq, true_and] at e
  obtain ⟨rfl, rfl⟩ := e
  rcases h with rfl | ⟨b2, off2, rfl, hb2, hpc⟩
  · rw [show agB ws [] = true by simp [agB]]
    clear hs hl hin hc
    simp only [List.length_nil]
    go_enter Tryz.func83, Tryz.ntmps83
    go_wp2_with fail
    refine wp_loop_rounds 1 ?_
    rw [rounds_succ]
    go_wp2_with fail
    go_ret
    exact ⟨rfl, Below.refl _ _⟩
  · exact l15Agrees_row w b off cap b2 off2 pc ws ps hs hl h6 hin hc hpc hb hb2
theorem in_snoc {ws : List (List ItemV)} {ps : List Int} {win : List ItemV} {i : Nat} (hin : inB ws ps = true) (hw : ws[ps.length]? = some win) (hi : i < win.length) : inB ws (ps ++ [(i : Int)]) = true := by
  refine place_yes fun k hk => ?_
  rw [List.length_append, List.length_cons, List.length_nil] at hk
  by_cases e : k < ps.length
  · have := in_each hin e
    unfold placeB at this ⊢
    simp only [List.getD_eq_getElem?_getD, List.getElem?_append_left e] at this ⊢
    exact this
  · obtain rfl : k = ps.length := by omega
    unfold placeB
    simp only [List.getD_eq_getElem?_getD, hw, Option.getD_some, List.getElem?_append_right (Nat.le_refl _), Nat.sub_self, List.getElem?_cons_zero, Bool.and_eq_true, decide_eq_true_eq]
    omega
theorem cs_le (ws : List (List ItemV)) : ∀ (rest : List (List ItemV)) (ps : List Int), (∀ x ∈ rest, x.length ≤ 4) → cs ws rest ps ≤ 4 ^ rest.length
  | [], ps, _ => by unfold cs; split <;> simp
  | win :: rest, ps, h => by
    unfold cs
    split
    · have h1 := sum_le4 ((List.range win.length).map (fun (i : Nat) => cs ws rest (ps ++ [(i : Int)]))) (4 ^ rest.length) (fun x hx => by
        obtain ⟨i, _, rfl⟩ := List.mem_map.1 hx
        exact cs_le ws rest _ (fun y hy => h y (by simp [hy])))
      have h2 := h win (by simp)
      rw [List.length_map, List.length_range] at h1
      calc _ ≤ win.length * 4 ^ rest.length := h1
        _ ≤ 4 * 4 ^ rest.length := Nat.mul_le_mul_right _ h2
        _ = 4 ^ (win :: rest).length := by rw [List.length_cons, Nat.pow_succ, Nat.mul_comm]
    · exact Nat.zero_le _
theorem Turn.more {S S' : List Nat} {a b c : World} (h : Turn S a b) (k : Turn S' b c) (hs : ∀ x ∈ S', x ∈ S ∨ a.heap.size ≤ x) : Turn S a c :=
  ⟨k.os.trans h.os, k.tape.trans h.tape, k.output.trans h.output, Nat.le_trans h.size k.size, fun i hi hS => (k.block i (Nat.lt_of_lt_of_le hi h.size) (fun hm => (hs i hm).elim hS (fun e => by omega))).trans (h.block i hi hS)⟩
theorem InRow.pk {B : Nat} {w : World} {a : Option Addr} {n c : Nat} {ts : List Int} {r : Option Nat} (h : InRow B w (.slice a n c) ts) (hr : ∀ g, r = some g → g < B) : PkIn w a ts r := by
  have hge := h.ge
  obtain ⟨a', c', e, hin⟩ := h.rd
  simp only [Value.slice.injEq] at e
  obtain ⟨rfl, rfl, rfl⟩ := e
  rcases h.2 with ⟨e2, h0⟩ | ⟨g, cap, cur, e2, hB, hg, _⟩
  · exact .inl (List.eq_nil_of_length_eq_zero h0)
  · simp only [Value.slice.injEq] at e2
    obtain ⟨rfl, _, _⟩ := e2
    rcases hin with h0 | ⟨b, off, e3, hb, hc⟩
    · exact .inl h0
    · simp only [Option.some.injEq, Addr.mk.injEq, and_true] at e3
      obtain ⟨rfl, rfl⟩ := e3
      exact .inr ⟨g, 0, rfl, hb, hc, fun e4 => by have := hr g e4; omega⟩
def csTo (ws : List (List ItemV)) (rest : List (List ItemV)) (ps : List Int) (k : Nat) : Nat := ((List.range k).map (fun (i : Nat) => cs ws rest (ps ++ [(i : Int)]))).sum
theorem csTo_le (ws : List (List ItemV)) (rest : List (List ItemV)) (ps : List Int) (k : Nat) (h : ∀ x ∈ rest, x.length ≤ 4) : csTo ws rest ps k ≤ k * 4 ^ rest.length := by
  unfold csTo
  have h1 := sum_le4 ((List.range k).map (fun (i : Nat) => cs ws rest (ps ++ [(i : Int)]))) (4 ^ rest.length) (fun x hx => by
    obtain ⟨i, _, rfl⟩ := List.mem_map.1 hx
    exact cs_le ws rest _ h)
  rwa [List.length_map, List.length_range] at h1
end Go.Proofs.YtknkdbfgfcgkiaaGreatDoor
