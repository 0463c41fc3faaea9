/-
  The program's ChoiceAgrees.
-/
/-
  How many choices agree: counted window by window.
-/
/-
  The specification's l15All: how many choices it finds.
-/
import Derived.Test.YtknkdbfgfcgkiaaGreatDoorMerged37
import Derived.Test.YtknkdbfgfcgkiaaGreatDoorMerged36
import Derived.Handy
set_option linter.unusedVariables false
namespace Go.Proofs.YtknkdbfgfcgkiaaGreatDoor
open Go.RowKit Go.Maps Go.Deep

def stsL (ws : List (List ItemV)) (ps : List Int) (n : Nat) : List (List MarkV) := (List.range n).map (stampAt ws ps)
theorem stsL_len (ws : List (List ItemV)) (ps : List Int) (n : Nat) : (stsL ws ps n).length = n := by simp [stsL]
theorem stsL_get (ws : List (List ItemV)) (ps : List Int) (n : Nat) {i : Nat} (h : i < (stsL ws ps n).length) : (stsL ws ps n)[i] = stampAt ws ps i := by simp [stsL]
theorem ag_stsL (ws : List (List ItemV)) (ps : List Int) (i : Nat) : agAll (stampAt ws ps i) (stsL ws ps i) = (List.range i).all (pairB ws ps i) := by
  unfold agAll stsL pairB
  rw [List.all_map]
  rfl
theorem ag_no {ws : List (List ItemV)} {ps : List Int} {i : Nat} (hi : i < ps.length) (h : agAll (stampAt ws ps i) (stsL ws ps i) = false) : agB ws ps = false := by
  rw [ag_stsL] at h
  unfold agB
  rw [List.all_eq_false]
  exact ⟨i, List.mem_range.2 hi, by rw [h]; simp⟩
theorem ag_yes {ws : List (List ItemV)} {ps : List Int} (h : ∀ i, i < ps.length → agAll (stampAt ws ps i) (stsL ws ps i) = true) : agB ws ps = true := by
  unfold agB
  rw [List.all_eq_true]
  intro i hi
  rw [← ag_stsL]
  exact h i (List.mem_range.1 hi)
theorem choice_pick_no {ws : List (List ItemV)} {ps : List Int} (h : pickB ws ps = false) : choiceB ws ps = false := by
  unfold pickB at h
  unfold choiceB
  cases h1 : winsB ws
  · simp
  · cases h2 : decide (ps.length = ws.length)
    · simp
    · rw [h1, h2] at h
      simp at h
      simp [h]
theorem choice_pick_yes {ws : List (List ItemV)} {ps : List Int} (h : pickB ws ps = true) : choiceB ws ps = agB ws ps := by
  unfold pickB at h
  unfold choiceB
  simp only [Bool.and_eq_true] at h
  rw [h.1, h.2.1, h.2.2]
  rfl
set_option maxHeartbeats 6400000 in
theorem implChoice_any (ws : List (List ItemV)) (v : Value) (ps : List Int) (u : Value) (w : World) (hs : SmallItemSS ws) (hsp : SmallIntS ps) (h : ItemSSRd w v ws) (hp : IntSRd w u ps) :
    Calls Tryz.prog 114 #[v, u] w fun e w' => e = .returned (.bool (choiceB ws ps)) ∧ Below w.heap.size w w' := by
  have HK := hide (chosen_any ws v ps u w hs hsp h hp)
  obtain ⟨a, n0, c, rfl⟩ := h.form
  obtain ⟨a2, n2, c2, rfl⟩ := hp.form
  have hpl := hsp.1
  clear h hp hs hsp
  go_enter Tryz.func114, Tryz.ntmps114
  go_wp2_with fail
  refine (unhide HK).mono ?_
  rintro e w1 (⟨hno, rfl, b1⟩ | ⟨hyes, xa, xn, xc, vs, rfl, rfl, HR, HVL, HT, b1⟩)
  · have HE := hide (choice_pick_no hno)
    clear hno
    go_wp2_with fail
    go_ret
    exact ⟨ret_bool (unhide HE).symm, b1⟩
  · have HE := hide (choice_pick_yes hyes)
    have B1 := hide b1
    clear b1 hyes HK
    rcases (unhide HR).slice with ⟨hv0, hv1⟩ | ⟨g, gc, hv0, hgc, hg, hcells⟩
    · have hz : ps.length = 0 := by have := unhide HVL; rw [hv1] at this; simpa using this.symm
      have HE2 := hide (show choiceB ws ps = true by rw [unhide HE]; exact ag_yes (fun i hi => absurd hi (by omega)))
      simp only [Value.slice.injEq] at hv0
      obtain ⟨rfl, hxn, rfl⟩ := hv0
      rw [hz]
      clear hz hxn HR HVL HT hv1 hpl
      go_wp2_with fail
      refine wp_loop_rounds 1 ?_
      rw [rounds_succ]
      go_wp2_with fail
      go_ret
      exact ⟨ret_bool (unhide HE2).symm, unhide B1⟩
    · simp only [Value.slice.injEq] at hv0
      obtain ⟨rfl, -, rfl⟩ := hv0
      have HCE := hide hcells
      have HST := hide (show ∀ (i : Nat) (W : World), i ≤ ps.length → Below w1.heap.size w1 W → StsAt W g (stsL ws ps i) from fun i W hi bW j hj => by
        have hjv : j < vs.length := by rw [stsL_len] at hj; have := unhide HVL; omega
        obtain ⟨a', n', c', h1, h2, h3⟩ := unhide HT j hjv
        refine ⟨a', n', c', (bW.cell (by exact hg)).trans ((hcells j hjv).trans (by rw [h1])), ?_⟩
        rw [stsL_get]
        exact (h2.up (unhide B1)).up bW)
      have HSM := hide (show ∀ (i : Nat), i ≤ ps.length → ∀ x ∈ stsL ws ps i, SmallMarkS x from fun i hi x hx => by
        obtain ⟨j, hj, rfl⟩ := List.getElem_of_mem hx
        rw [stsL_get]
        obtain ⟨a', n', c', h1, h2, h3⟩ := unhide HT j (by rw [stsL_len] at hj; have := unhide HVL; omega)
        exact h3)
      have hgc' : ps.length ≤ xc := by have := unhide HVL; omega
      clear hcells hgc
      go_wp2_with fail
      go_loopw [19] (fun i wr => ∃ (k : Nat), k ≤ ps.length ∧ i = .int .i64 k ∧ Hid (∀ j, j < k → agAll (stampAt ws ps j) (stsL ws ps j) = true) ∧ Hid (Below w1.heap.size w1 wr)) (fun i _ => ps.length - (intOf i).toNat)
      case atStart => exact ⟨0, Nat.zero_le _, rfl, hide (fun j hj => absurd hj (Nat.not_lt_zero _)), Below.refl _ _⟩
      case round =>
        obtain ⟨k, hk, rfl, HN, HB⟩ := hrel
        by_cases hlt : k < ps.length
        · have hkv : k < vs.length := by have := unhide HVL; omega
          obtain ⟨xa, xn, xc', h1, h2, h3⟩ := unhide HT k hkv
          have c0 := ((unhide HB).cell (show g < w1.heap.size from hg)).trans (unhide HCE k hkv)
          rw [h1] at c0
          have HA := hide (agreesWithAll_row (stampAt ws ps k) (stsL ws ps k) (.slice xa xn xc') g xc wr h3 (unhide HSM k hk) (by rw [stsL_len]; omega) ((h2.up (unhide B1)).up (unhide HB)) (Nat.lt_of_lt_of_le hg (unhide HB).size) (unhide HST k wr hk (unhide HB)))
          rw [stsL_len] at HA
          have HNO := hide (fun h => ag_no (ws := ws) hlt h)
          have HYES := hide (show agAll (stampAt ws ps k) (stsL ws ps k) = true → ∀ j, j < k + 1 → agAll (stampAt ws ps j) (stsL ws ps j) = true from fun h j hjk => by
            by_cases e : j = k
            · subst e; exact h
            · exact unhide HN j (by omega))
          clear h1 h2 h3
          have hkc : k ≤ xc := by omega
          cases hag : agAll (stampAt ws ps k) (stsL ws ps k)
          · rw [hag] at HA
            have HE2 := hide (show choiceB ws ps = false by rw [unhide HE]; exact unhide HNO hag)
            clear HNO HYES hag
            go_wp2_with fail
            refine (unhide HA).mono ?_
            rintro e w2 ⟨rfl, b2⟩
            have B2 := hide ((unhide B1).trans (((unhide HB).trans (b2.mono (unhide HB).size)).mono (unhide B1).size))
            clear b2 c0
            go_wp2_with fail
            go_ret
            exact ⟨ret_bool (unhide HE2).symm, unhide B2⟩
          · rw [hag] at HA
            have HY := hide (unhide HYES hag)
            clear HNO HYES hag
            go_wp2_with fail
            refine (unhide HA).mono ?_
            rintro e w2 ⟨rfl, b2⟩
            have B2 := hide ((unhide HB).trans (b2.mono (unhide HB).size))
            clear b2 c0
            go_wp2_with fail
            go_roundw
            case rel => exact ⟨k + 1, by omega, by go_num, HY, B2⟩
            case measure => simp [intOf]; omega
        · have HE2 := hide (show choiceB ws ps = true by rw [unhide HE]; exact ag_yes (fun j hj => unhide HN j (by omega)))
          have B2 := hide ((unhide B1).trans ((unhide HB).mono (unhide B1).size))
          go_wp2_with fail
          go_ret
          exact ⟨ret_bool (unhide HE2).symm, unhide B2⟩
end Go.Proofs.YtknkdbfgfcgkiaaGreatDoor

set_option linter.unusedVariables false
namespace Go.Proofs.YtknkdbfgfcgkiaaGreatDoor
open Go.RowKit Go.Maps Go.Deep

/-- the choices of some windows that agree with what was chosen ahead of them -/
def cb : List (List ItemV) → List (List MarkV) → Nat
  | [], _ => 1
  | win :: rest, ss => (win.map (fun it => if agAll it.a1 ss then cb rest (ss ++ [it.a1]) else 0)).sum
/-- the choices that agree and begin so -/
def cs (ws : List (List ItemV)) : List (List ItemV) → List Int → Nat
  | [], ps => if agB ws ps then 1 else 0
  | win :: rest, ps => if agB ws ps then ((List.range win.length).map (fun (i : Nat) => cs ws rest (ps ++ [(i : Int)]))).sum else 0
theorem all_mem {l : List Nat} {f g : Nat → Bool} (h : ∀ a ∈ l, f a = g a) : l.all f = l.all g := by
  induction l with
  | nil => rfl
  | cons x xs ih => simp only [List.all_cons]; rw [h x (by simp), ih (fun a ha => h a (by simp [ha]))]
theorem stamp_old {ws : List (List ItemV)} {ps : List Int} {x : Int} {j : Nat} (h : j < ps.length) : stampAt ws (ps ++ [x]) j = stampAt ws ps j := by
  unfold stampAt
  simp only [List.getD_eq_getElem?_getD, List.getElem?_append_left h]
theorem stamp_new {ws : List (List ItemV)} {ps : List Int} {win : List ItemV} {i : Nat} (hw : ws[ps.length]? = some win) (hi : i < win.length) : stampAt ws (ps ++ [(i : Int)]) ps.length = win[i].a1 := by
  unfold stampAt
  simp only [List.getD_eq_getElem?_getD, hw, Option.getD_some, List.getElem?_append_right (Nat.le_refl _), Nat.sub_self, List.getElem?_cons_zero, Int.toNat_natCast, List.getElem?_eq_getElem hi, Option.map_some]
theorem sts_snoc {ws : List (List ItemV)} {ps : List Int} {win : List ItemV} {i : Nat} (hw : ws[ps.length]? = some win) (hi : i < win.length) : stsL ws (ps ++ [(i : Int)]) (ps.length + 1) = stsL ws ps ps.length ++ [win[i].a1] := by
  unfold stsL
  rw [List.range_succ, List.map_append, List.map_cons, List.map_nil, stamp_new hw hi]
  congr 1
  refine List.map_congr_left fun j hj => ?_
  exact stamp_old (List.mem_range.1 hj)
theorem ag_snoc {ws : List (List ItemV)} {ps : List Int} {win : List ItemV} {i : Nat} (hw : ws[ps.length]? = some win) (hi : i < win.length) : agB ws (ps ++ [(i : Int)]) = (agB ws ps && agAll win[i].a1 (stsL ws ps ps.length)) := by
  unfold agB
  rw [List.length_append, List.length_cons, List.length_nil, List.range_succ, List.all_append]
  have e1 : (List.range ps.length).all (fun i_1 => (List.range i_1).all (pairB ws (ps ++ [(i : Int)]) i_1)) = (List.range ps.length).all (fun i => (List.range i).all (pairB ws ps i)) := by
    refine all_mem fun a ha => ?_
    have ha' := List.mem_range.1 ha
    refine all_mem fun b hb => ?_
    have hb' := List.mem_range.1 hb
    unfold pairB
    rw [stamp_old ha', stamp_old (by omega)]
  have e2 : [ps.length].all (fun i_1 => (List.range i_1).all (pairB ws (ps ++ [(i : Int)]) i_1)) = agAll win[i].a1 (stsL ws ps ps.length) := by
    simp only [List.all_cons, List.all_nil, Bool.and_true]
    unfold agAll stsL
    rw [List.all_map]
    refine all_mem fun b hb => ?_
    have hb' := List.mem_range.1 hb
    unfold pairB
    rw [stamp_new hw hi, stamp_old hb']
    rfl
  rw [e1, e2]
theorem cs_cb (ws : List (List ItemV)) : ∀ (rest : List (List ItemV)) (ps : List Int), rest = ws.drop ps.length → cs ws rest ps = if agB ws ps then cb rest (stsL ws ps ps.length) else 0
  | [], ps, _ => by simp [cs, cb]
  | win :: rest, ps, h => by
    unfold cs
    cases hag : agB ws ps
    · simp
    · simp only [if_true]
      have hw : ws[ps.length]? = some win := by
        have := congrArg List.head? h
        simpa using this.symm
      have hr : rest = ws.drop (ps.length + 1) := by
        have := congrArg List.tail h
        simpa using this
      unfold cb
      congr 1
      refine List.ext_getElem (by simp) fun i h1 h2 => ?_
      have hi : i < win.length := by simpa using h1
      simp only [List.getElem_map, List.getElem_range]
      rw [cs_cb ws rest (ps ++ [(i : Int)]) (by rw [List.length_append]; exact hr), ag_snoc hw hi, hag, Bool.true_and, List.length_append, List.length_cons, List.length_nil, sts_snoc hw hi]
theorem sum_le4 (l : List Nat) (b : Nat) (h : ∀ x ∈ l, x ≤ b) : l.sum ≤ l.length * b := by
  induction l with
  | nil => simp
  | cons x xs ih =>
    have h1 := h x (by simp)
    have h2 := ih (fun y hy => h y (by simp [hy]))
    simp only [List.sum_cons, List.length_cons, Nat.add_mul, Nat.one_mul]
    omega
theorem cb_le : ∀ (ws : List (List ItemV)) (ss : List (List MarkV)), (∀ x ∈ ws, x.length ≤ 4) → cb ws ss ≤ 4 ^ ws.length
  | [], _, _ => by simp [cb]
  | win :: rest, ss, h => by
    unfold cb
    have h1 := sum_le4 (win.map (fun it => if agAll it.a1 ss then cb rest (ss ++ [it.a1]) else 0)) (4 ^ rest.length) (fun x hx => by
      obtain ⟨it, _, rfl⟩ := List.mem_map.1 hx
      split
      · exact cb_le rest _ (fun y hy => h y (by simp [hy]))
      · exact Nat.zero_le _)
    have h2 := h win (by simp)
    rw [List.length_map] at h1
    calc _ ≤ win.length * 4 ^ rest.length := h1
      _ ≤ 4 * 4 ^ rest.length := Nat.mul_le_mul_right _ h2
      _ = 4 ^ (win :: rest).length := by rw [List.length_cons, Nat.pow_succ, Nat.mul_comm]
def cbTo (win : List ItemV) (rest : List (List ItemV)) (ss : List (List MarkV)) (k : Nat) : Nat := ((win.take k).map (fun it => if agAll it.a1 ss then cb rest (ss ++ [it.a1]) else 0)).sum
theorem cbTo_step (win : List ItemV) (rest : List (List ItemV)) (ss : List (List MarkV)) (k : Nat) (h : k < win.length) : cbTo win rest ss (k + 1) = cbTo win rest ss k + (if agAll win[k].a1 ss then cb rest (ss ++ [win[k].a1]) else 0) := by
  unfold cbTo
  rw [List.take_succ_eq_append_getElem h, List.map_append, List.sum_append]
  simp
theorem cbTo_all (win : List ItemV) (rest : List (List ItemV)) (ss : List (List MarkV)) : cbTo win rest ss win.length = cb (win :: rest) ss := by
  unfold cbTo
  rw [List.take_length, cb]
end Go.Proofs.YtknkdbfgfcgkiaaGreatDoor

set_option linter.unusedVariables false
namespace Go.Proofs.YtknkdbfgfcgkiaaGreatDoor
open Go.RowKit Go.Maps Go.Deep

/-- a list of numbers that may be read, and does not lie where another row lies -/
def PkIn (w : World) (pa : Option Addr) (ps : List Int) (r : Option Nat) : Prop := ps = [] ∨ ∃ b off, pa = some ⟨b, off, none⟩ ∧ b < w.heap.size ∧ IntsAt w b off ps ∧ r ≠ some b
theorem PkIn.rd {w : World} {pa : Option Addr} {ps : List Int} {r : Option Nat} (h : PkIn w pa ps r) (c : Nat) : IntSRd w (.slice pa ps.length c) ps := by
  rcases h with h | ⟨b, off, e, hb, hc, _⟩
  · exact ⟨pa, c, rfl, .inl h⟩
  · exact ⟨pa, c, rfl, .inr ⟨b, off, e, hb, hc⟩⟩
theorem PkIn.turn {w w' : World} {pa : Option Addr} {ps : List Int} {r : Option Nat} (h : PkIn w pa ps r) (t : Turn r.toList w w') : PkIn w' pa ps r := by
  rcases h with h | ⟨b, off, e, hb, hc, hr⟩
  · exact .inl h
  · exact .inr ⟨b, off, e, Nat.lt_of_lt_of_le hb t.size, hc.turn t hb (by simpa using hr), hr⟩
def AllSaid (w0 : World) (ws : List (List ItemV)) (b off c1 : Nat) (rest : List (List ItemV)) : Prop :=
  ∀ (ps : List Int) (pa : Option Addr) (pc : Nat) (v : Value) (n : Nat) (w : World), rest = ws.drop ps.length → ps.length + rest.length = ws.length → inB ws ps = true → n + 4 ^ rest.length ≤ 4096 → PkIn w pa ps v.ownBlock → FdRow w0.heap.size w v n → Below w0.heap.size w0 w →
    Calls Tryz.prog 59 #[.slice (some ⟨b, off, none⟩) ws.length c1, .slice pa ps.length pc, v] w fun e w' => ∃ v', e = .returned v' ∧ Hid (FdRow w0.heap.size w' v' (n + cs ws rest ps)) ∧ Hid (∀ g, v'.ownBlock = some g → v.ownBlock = some g ∨ w.heap.size ≤ g) ∧ Hid (Turn v.ownBlock.toList w w')
set_option maxHeartbeats 3200000 in
theorem l15Agrees_any (ws : List (List ItemV)) (b off cap : Nat) (ps : List Int) (pa : Option Addr) (pc : Nat) (w : World) (hs : SmallItemSS ws) (hl : ps.length ≤ ws.length) (h6 : ws.length ≤ 6) (hin : inB ws ps = true) (hc : WinsAt w b off ws) (hb : b < w.heap.size) (hp : IntSRd w (.slice pa ps.length pc) ps) :
    Calls Tryz.prog 83 #[.slice (some ⟨b, off, none⟩) ws.length cap, .slice pa ps.length pc] w fun e w' => e = .returned (.bool (agB ws ps)) ∧ Below w.heap.size w w' := by
  obtain ⟨a', c', e, h⟩ := hp
  simp only [Value.slice.injEq, true_and] at e
  obtain ⟨rfl, rfl⟩ := e
  rcases h with rfl | ⟨b2, off2, rfl, hb2, hpc⟩
  · rw [show agB ws [] = true by simp [agB]]
    clear hs hl hin hc
    simp only [List.length_nil]
    go_enter Tryz.func83, Tryz.ntmps83
    go_wp2_with fail
    refine wp_loop_rounds 1 ?_
    rw [rounds_succ]
    go_wp2_with fail
    go_ret
    exact ⟨rfl, Below.refl _ _⟩
  · exact l15Agrees_row w b off cap b2 off2 pc ws ps hs hl h6 hin hc hpc hb hb2
theorem in_snoc {ws : List (List ItemV)} {ps : List Int} {win : List ItemV} {i : Nat} (hin : inB ws ps = true) (hw : ws[ps.length]? = some win) (hi : i < win.length) : inB ws (ps ++ [(i : Int)]) = true := by
  refine place_yes fun k hk => ?_
  rw [List.length_append, List.length_cons, List.length_nil] at hk
  by_cases e : k < ps.length
  · have := in_each hin e
    unfold placeB at this ⊢
    simp only [List.getD_eq_getElem?_getD, List.getElem?_append_left e] at this ⊢
    exact this
  · obtain rfl : k = ps.length := by omega
    unfold placeB
    simp only [List.getD_eq_getElem?_getD, hw, Option.getD_some, List.getElem?_append_right (Nat.le_refl _), Nat.sub_self, List.getElem?_cons_zero, Bool.and_eq_true, decide_eq_true_eq]
    omega
theorem cs_no {ws : List (List ItemV)} {rest : List (List ItemV)} {ps : List Int} (h : agB ws ps = false) : cs ws rest ps = 0 := by
  cases rest <;> simp [cs, h]
theorem FdRow.turned {B n : Nat} {w w' : World} {v : Value} (h : FdRow B w v n) (hb : Below w.heap.size w w') : FdRow B w' v n := h.up hb
set_option maxHeartbeats 6400000 in
theorem all_nil (w0 : World) (ws : List (List ItemV)) (b off c1 : Nat) (hs : SmallItemSS ws) (h6 : ws.length ≤ 6) (hc : WinsAt w0 b off ws) (hb : b < w0.heap.size) : AllSaid w0 ws b off c1 [] := by
  intro ps pa pc v n w hd hl hin hn hp hv hbl
  have HAG := hide (l15Agrees_any ws b off c1 ps pa pc w hs (by simp at hl; omega) h6 hin (hc.up hb hbl) (Nat.lt_of_lt_of_le hb hbl.size) (hp.rd pc))
  have HV := hide hv
  have HP := hide hp
  have HBL := hide hbl
  have hll : ps.length = ws.length := by simpa using hl
  have hp6 : ps.length ≤ 6 := by omega
  have hn2 : n ≤ 4096 := by have h : n + 1 ≤ 4096 := by simpa using hn
                            omega
  obtain ⟨va, vc, rfl⟩ := hv.form
  clear hc hs hin hd hp hv hbl hl hn
  cases hag : agB ws ps
  · have HE := hide (cs_no (rest := []) hag)
    rw [hag] at HAG
    rw [← hll] at HAG ⊢
    clear hag hll
    go_enter Tryz.func59, Tryz.ntmps59
    go_wp2_with fail
    refine (unhide HAG).mono ?_
    rintro e w1 ⟨rfl, b1⟩
    have V1 := hide ((unhide HV).up b1)
    have T1 := hide (Turn.of_below (S := (Value.slice va n vc).ownBlock.toList) b1)
    clear b1
    go_wp2_with fail
    go_ret
    exact ⟨_, rfl, by rw [unhide HE]; exact V1, hide (fun g hg => .inl hg), T1⟩
  · have HE := hide (show cs ws [] ps = 1 by simp [cs, hag])
    rw [hag] at HAG
    rw [← hll] at HAG ⊢
    clear hag hll
    go_enter Tryz.func59, Tryz.ntmps59
    go_wp2_with fail
    refine (unhide HAG).mono ?_
    rintro e w1 ⟨rfl, b1⟩
    have V1 := hide ((unhide HV).up b1)
    have T1 := hide (Turn.of_below (S := (Value.slice va n vc).ownBlock.toList) b1)
    have P1 := hide ((unhide HP).turn (unhide T1))
    clear b1
    obtain ⟨pa', pc', hpe, -⟩ := (unhide P1).rd pc
    have R0 := hide (inLit w1 w1.heap.size (Nat.le_refl _))
    have ba : Below w1.heap.size w1 (w1.alloc (.cells #[] 3)) := (Below.refl _ _).alloc (Nat.le_refl _) _
    have U0 := hide (((unhide P1).rd pc).up ba)
    have BA := hide ba
    have BZ1 := hide (show w.heap.size ≤ w1.heap.size from (unhide T1).size)
    have BZ := hide (show w0.heap.size ≤ w1.heap.size from Nat.le_trans (unhide HBL).size (unhide T1).size)
    clear ba hpe
    go_wp2_with (first
      | (at_builtin; have _t := BA; refine wpList_inAppend rfl _ _ rfl w1.heap.size _ _ [] ps rfl rfl (unhide R0) (unhide U0) (by simp; omega) (unhide BA).size ?_; simp only [List.length_nil, Nat.zero_add, List.nil_append]; intro a3 c3 w3 r3 g3; have B3 := hide ((unhide BA).grown g3 (unhide BA).size (fun y hy => (unhide R0).ge y hy)); clear r3 g3 BA R0 U0)
      | (at_builtin; have _t := B3; have b4 : Below w1.heap.size w1 (w3.alloc (.cells #[.slice a3 ps.length c3] 37)) := (unhide B3).alloc (unhide B3).size _; refine wpList_fdAppend rfl _ _ rfl w0.heap.size (.slice va n vc) n a3 ps.length c3 w3.heap.size rfl rfl ((unhide V1).up b4) (World.cell?_alloc_at _ _ _ _ rfl) (by omega) (Nat.le_trans (unhide BZ) b4.size) ?_; intro g5 c5 w5 r5 gr5 at5; have V5 := hide r5; have T5 := hide (((unhide T1).trans (Turn.of_below b4)).trans (Turn.of_grown gr5 (fun k hk => .inl (by simpa using hk)))); have A5 := hide (show ∀ g, (Value.slice (some ⟨g5, 0, none⟩) (n + 1) c5).ownBlock = some g → (Value.slice va n vc).ownBlock = some g ∨ w.heap.size ≤ g from fun g hg => by (simp only [Value.ownBlock, Option.some.injEq] at hg; subst hg; exact at5.imp id (fun e => by have := unhide BZ1; have := b4.size; omega))); clear r5 gr5 at5 b4 B3)
      | fail)
    go_ret
    exact ⟨_, rfl, by rw [unhide HE]; exact V5, A5, T5⟩
theorem cs_le (ws : List (List ItemV)) : ∀ (rest : List (List ItemV)) (ps : List Int), (∀ x ∈ rest, x.length ≤ 4) → cs ws rest ps ≤ 4 ^ rest.length
  | [], ps, _ => by unfold cs; split <;> simp
  | win :: rest, ps, h => by
    unfold cs
    split
    · have h1 := sum_le4 ((List.range win.length).map (fun (i : Nat) => cs ws rest (ps ++ [(i : Int)]))) (4 ^ rest.length) (fun x hx => by
        obtain ⟨i, _, rfl⟩ := List.mem_map.1 hx
        exact cs_le ws rest _ (fun y hy => h y (by simp [hy])))
      have h2 := h win (by simp)
      rw [List.length_map, List.length_range] at h1
      calc _ ≤ win.length * 4 ^ rest.length := h1
        _ ≤ 4 * 4 ^ rest.length := Nat.mul_le_mul_right _ h2
        _ = 4 ^ (win :: rest).length := by rw [List.length_cons, Nat.pow_succ, Nat.mul_comm]
    · exact Nat.zero_le _
theorem Turn.more {S S' : List Nat} {a b c : World} (h : Turn S a b) (k : Turn S' b c) (hs : ∀ x ∈ S', x ∈ S ∨ a.heap.size ≤ x) : Turn S a c :=
  ⟨k.os.trans h.os, k.tape.trans h.tape, k.output.trans h.output, Nat.le_trans h.size k.size, fun i hi hS => (k.block i (Nat.lt_of_lt_of_le hi h.size) (fun hm => (hs i hm).elim hS (fun e => by omega))).trans (h.block i hi hS)⟩
theorem InRow.pk {B : Nat} {w : World} {a : Option Addr} {n c : Nat} {ts : List Int} {r : Option Nat} (h : InRow B w (.slice a n c) ts) (hr : ∀ g, r = some g → g < B) : PkIn w a ts r := by
  have hge := h.ge
  obtain ⟨a', c', e, hin⟩ := h.rd
  simp only [Value.slice.injEq] at e
  obtain ⟨rfl, rfl, rfl⟩ := e
  rcases h.2 with ⟨e2, h0⟩ | ⟨g, cap, cur, e2, hB, hg, _⟩
  · exact .inl (List.eq_nil_of_length_eq_zero h0)
  · simp only [Value.slice.injEq] at e2
    obtain ⟨rfl, _, _⟩ := e2
    rcases hin with h0 | ⟨b, off, e3, hb, hc⟩
    · exact .inl h0
    · simp only [Option.some.injEq, Addr.mk.injEq, and_true] at e3
      obtain ⟨rfl, rfl⟩ := e3
      exact .inr ⟨g, 0, rfl, hb, hc, fun e4 => by have := hr g e4; omega⟩
def csTo (ws : List (List ItemV)) (rest : List (List ItemV)) (ps : List Int) (k : Nat) : Nat := ((List.range k).map (fun (i : Nat) => cs ws rest (ps ++ [(i : Int)]))).sum
theorem csTo_step (ws : List (List ItemV)) (rest : List (List ItemV)) (ps : List Int) (k : Nat) : csTo ws rest ps (k + 1) = csTo ws rest ps k + cs ws rest (ps ++ [(k : Int)]) := by
  unfold csTo
  rw [List.range_succ, List.map_append, List.sum_append]
  simp
theorem csTo_le (ws : List (List ItemV)) (rest : List (List ItemV)) (ps : List Int) (k : Nat) (h : ∀ x ∈ rest, x.length ≤ 4) : csTo ws rest ps k ≤ k * 4 ^ rest.length := by
  unfold csTo
  have h1 := sum_le4 ((List.range k).map (fun (i : Nat) => cs ws rest (ps ++ [(i : Int)]))) (4 ^ rest.length) (fun x hx => by
    obtain ⟨i, _, rfl⟩ := List.mem_map.1 hx
    exact cs_le ws rest _ h)
  rwa [List.length_map, List.length_range] at h1
set_option maxHeartbeats 6400000 in
theorem all_cons (w0 : World) (ws : List (List ItemV)) (b off c1 : Nat) (hs : SmallItemSS ws) (h4 : ∀ x ∈ ws, x.length ≤ 4) (h6 : ws.length ≤ 6) (hc : WinsAt w0 b off ws) (hb : b < w0.heap.size) (win : List ItemV) (rest : List (List ItemV)) (ih : AllSaid w0 ws b off c1 rest) : AllSaid w0 ws b off c1 (win :: rest) := by
  intro ps pa pc v n w hd hl hin hn hp hv hbl
  have hlt : ps.length < ws.length := by simp only [List.length_cons] at hl; omega
  have hw : ws[ps.length]? = some win := by
    have := congrArg List.head? hd
    simpa using this.symm
  have hwe : ws[ps.length] = win := by rw [List.getElem?_eq_getElem hlt] at hw; exact Option.some.inj hw
  have hr : rest = ws.drop (ps.length + 1) := by
    have := congrArg List.tail hd
    simpa using this
  have h4w : win.length ≤ 4 := h4 win (by rw [← hwe]; exact List.getElem_mem hlt)
  have h4r : ∀ x ∈ rest, x.length ≤ 4 := fun x hx => h4 x (by rw [hr] at hx; exact List.mem_of_mem_drop hx)
  have HAG := hide (l15Agrees_any ws b off c1 ps pa pc w hs (by omega) h6 hin (hc.up hb hbl) (Nat.lt_of_lt_of_le hb hbl.size) (hp.rd pc))
  obtain ⟨iv, ic0, hiv⟩ := hc ps.length hlt
  rw [hwe] at hiv
  have HV := hide hv
  have HP := hide hp
  have HBL := hide hbl
  have HNB := hide (show ∀ k, k < win.length → n + csTo ws rest ps k + 4 ^ rest.length ≤ 4096 from fun k hk => by
    have h1 := csTo_le ws rest ps k h4r
    rw [List.length_cons, Nat.pow_succ] at hn
    have h2 : k * 4 ^ rest.length ≤ 3 * 4 ^ rest.length := Nat.mul_le_mul_right _ (by omega)
    omega)
  have IH := hide (fun (i : Nat) (hi : i < win.length) (pa' : Option Addr) (pc' : Nat) (v' : Value) (n' : Nat) (W : World) (hn' : n' + 4 ^ rest.length ≤ 4096) (hp' : PkIn W pa' (ps ++ [(i : Int)]) v'.ownBlock) (hv' : FdRow w0.heap.size W v' n') (hb' : Below w0.heap.size w0 W) => ih (ps ++ [(i : Int)]) pa' pc' v' n' W (by rw [List.length_append]; exact hr) (by rw [List.length_append]; simp only [List.length_cons, List.length_nil] at hl ⊢; omega) (in_snoc hin hw hi) hn' hp' hv' hb')
  have hne : ¬ ((ps.length : Int) = (ws.length : Int)) := by omega
  have hbe : (((ps.length : Int)) == ((ws.length : Int))) = false := by simp; omega
  have hp6 : ps.length ≤ 6 := by omega
  obtain ⟨va, vc, rfl⟩ := hv.form
  obtain ⟨ia, ic, rfl, -⟩ := hiv
  have i0 := fun (W : World) (bW : Below w0.heap.size w0 W) => (bW.cell (show b < w0.heap.size from hb)).trans ic0
  have I0 := hide i0
  clear hc hs hin hd hp hv hbl hl hn hw hwe hr ih h4 h4r i0 ic0
  cases hag : agB ws ps
  · have HE := hide (cs_no (rest := win :: rest) hag)
    rw [hag] at HAG
    clear hag
    go_enter Tryz.func59, Tryz.ntmps59
    go_wp2_with fail
    refine (unhide HAG).mono ?_
    rintro e w1 ⟨rfl, b1⟩
    have V1 := hide ((unhide HV).up b1)
    have T1 := hide (Turn.of_below (S := (Value.slice va n vc).ownBlock.toList) b1)
    clear b1
    go_wp2_with fail
    go_ret
    exact ⟨_, rfl, by rw [unhide HE]; exact V1, hide (fun g hg => .inl hg), T1⟩
  · have HE := hide (show cs ws (win :: rest) ps = csTo ws rest ps win.length by simp [cs, hag, csTo])
    rw [hag] at HAG
    clear hag
    go_enter Tryz.func59, Tryz.ntmps59
    go_wp2_with fail
    refine (unhide HAG).mono ?_
    rintro e w1 ⟨rfl, b1⟩
    have V1 := hide ((unhide HV).up b1)
    have T1 := hide (Turn.of_below (S := (Value.slice va n vc).ownBlock.toList) b1)
    have P1 := hide ((unhide HP).turn (unhide T1))
    have i1 := unhide I0 _ ((unhide HBL).trans (b1.mono (unhide HBL).size))
    clear b1
    go_wp2_with fail
    clear i1
    have OBG := hide (show ∀ j ∈ (Value.slice va n vc).ownBlock.toList, w0.heap.size ≤ j from fun j hj => (unhide HV).ge j (by simpa using hj))
    have HP0 := hide (unhide HP)
    go_loopw [2, 8] (fun fv i wr => ∃ (k m : Nat) (fa : Option Addr) (fc : Nat), k ≤ win.length ∧ i = .int .i64 k ∧ fv = .slice fa m fc ∧ Hid (m = n + csTo ws rest ps k) ∧ Hid (FdRow w0.heap.size wr (.slice fa m fc) m) ∧ Hid (∀ g, (Value.slice fa m fc).ownBlock = some g → (Value.slice va n vc).ownBlock = some g ∨ w.heap.size ≤ g) ∧ Hid (Turn (Value.slice va n vc).ownBlock.toList w wr)) (fun _ i _ => win.length - (intOf i).toNat)
    case atStart => exact ⟨0, n, va, vc, Nat.zero_le _, rfl, rfl, hide (by simp [csTo]), V1, hide (fun g hg => .inl hg), T1⟩
    case round =>
      obtain ⟨k, m, fa, fc, hk, rfl, rfl, HM, HF, HA, HT⟩ := hrel
      by_cases hkl : k < win.length
      · have hm : m + 4 ^ rest.length ≤ 4096 := by have := unhide HNB k hkl; have := unhide HM; omega
        have HPr := hide ((unhide HP0).turn (unhide HT))
        have R0 := hide (inLit wr wr.heap.size (Nat.le_refl _))
        have ba : Below wr.heap.size wr (wr.alloc (.cells #[] 3)) := (Below.refl _ _).alloc (Nat.le_refl _) _
        have U0 := hide (((unhide HPr).rd pc).up ba)
        have BA := hide ba
        have HM1 := hide (show m + cs ws rest (ps ++ [(k : Int)]) = n + csTo ws rest ps (k + 1) by rw [csTo_step, unhide HM]; omega)
        clear ba
        go_wp2_with (first
          | (at_builtin; have _t := BA; refine wpList_inAppend rfl _ _ rfl wr.heap.size _ _ [] ps rfl rfl (unhide R0) (unhide U0) (by simp; omega) (unhide BA).size ?_; simp only [List.length_nil, Nat.zero_add, List.nil_append]; intro a3 c3 w3 r3 g3; have R3 := hide r3; have B3 := hide ((unhide BA).grown g3 (unhide BA).size (fun y hy => (unhide R0).ge y hy)); clear r3 g3 BA R0 U0)
          | (at_builtin; have _t := B3; have b4 : Below wr.heap.size wr (w3.alloc (.cells #[.int .i64 (k : Int)] 3)) := (unhide B3).alloc (unhide B3).size _; refine wpList_inAppend rfl _ _ rfl wr.heap.size _ _ ps [(k : Int)] rfl rfl ((unhide R3).up ((Below.refl _ _).alloc (Nat.le_refl _) _)) (inOne w3 (k : Int)) (by simp; omega) b4.size ?_; simp only [List.length_cons, List.length_nil, Nat.zero_add]; intro a5 c5 w5 r5 g5; have R5 := hide r5; have B5 := hide (b4.grown g5 b4.size (fun y hy => (unhide R3).ge y hy)); clear r5 g5 b4 B3 R3)
          | fail)
        have HC := unhide IH k hkl a5 c5 (.slice fa m fc) m w5 hm ((unhide R5).pk (fun g hg => (unhide HF).lt g hg)) ((unhide HF).up (unhide B5)) (((unhide HBL).trans ((unhide HT).below (unhide HBL).size (unhide OBG))).trans ((unhide B5).mono (Nat.le_trans (unhide HBL).size (unhide HT).size)))
        rw [show (ps ++ [(k : Int)]).length = ps.length + 1 by simp] at HC
        refine HC.mono ?_
        clear HC
        rintro e w6 ⟨v6, rfl, F6, A6, T6⟩
        obtain ⟨ga, gc, rfl⟩ := (unhide F6).form
        have HT6 := hide (((unhide HT).trans (Turn.of_below (unhide B5))).more (unhide T6) (fun x hx => (unhide HA x (by simpa using hx)).imp (fun e => by simpa using e) id))
        have HA6 := hide (show ∀ g, (Value.slice ga (m + cs ws rest (ps ++ [(k : Int)])) gc).ownBlock = some g → (Value.slice va n vc).ownBlock = some g ∨ w.heap.size ≤ g from fun g hg => by
          rcases unhide A6 g hg with h | h
          · exact unhide HA g h
          · exact .inr (by have := (unhide HT).size; have := (unhide B5).size; omega))
        clear A6 T6 R5 B5
        generalize m + cs ws rest (ps ++ [(k : Int)]) = m6 at *
        go_wp2_with fail
        go_roundw
        case rel => exact ⟨k + 1, m6, ga, gc, by omega, by go_num, rfl, HM1, F6, HA6, HT6⟩
        case measure => simp [intOf]; omega
      · obtain rfl : k = win.length := by omega
        have HF2 := hide (show FdRow w0.heap.size wr (.slice fa m fc) (n + cs ws (win :: rest) ps) by rw [unhide HE, ← unhide HM]; exact unhide HF)
        go_wp2_with fail
        go_ret
        exact ⟨_, rfl, HF2, HA, HT⟩
end Go.Proofs.YtknkdbfgfcgkiaaGreatDoor
