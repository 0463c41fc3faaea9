/-
  All choices that agree: mathematics.
-/
/-
  The specification's l15All: the choices that it finds.
-/
import Derived.Test.YtknkdbfgfcgkiaaGreatDoorMerged38
import Derived.Test.YtknkdbfgfcgkiaaGreatDoorMerged34
import Derived.Test.YtknkdbfgfcgkiaaGreatDoorMerged36
import Derived.Handy
set_option linter.unusedVariables false
namespace Go.Proofs.YtknkdbfgfcgkiaaGreatDoor
open Go.RowKit Go.Maps Go.Deep

/-- the choices that agree and begin so, one after another -/
def alS (ws : List (List ItemV)) : List (List ItemV) → List Int → List (List Int)
  | [], ps => if agB ws ps then [ps] else []
  | win :: rest, ps => if agB ws ps then (List.range win.length).flatMap (fun (i : Nat) => alS ws rest (ps ++ [(i : Int)])) else []
def alTo (ws : List (List ItemV)) (rest : List (List ItemV)) (ps : List Int) (k : Nat) : List (List Int) := (List.range k).flatMap (fun (i : Nat) => alS ws rest (ps ++ [(i : Int)]))
theorem alTo_step (ws : List (List ItemV)) (rest : List (List ItemV)) (ps : List Int) (k : Nat) : alTo ws rest ps (k + 1) = alTo ws rest ps k ++ alS ws rest (ps ++ [(k : Int)]) := by
  unfold alTo
  rw [List.range_succ, List.flatMap_append]
  simp
theorem al_no {ws : List (List ItemV)} {rest : List (List ItemV)} {ps : List Int} (h : agB ws ps = false) : alS ws rest ps = [] := by
  cases rest <;> simp [alS, h]
theorem al_one {ws : List (List ItemV)} {ps : List Int} (h : agB ws ps = true) : alS ws [] ps = [ps] := by simp [alS, h]
theorem al_more {ws : List (List ItemV)} {win : List ItemV} {rest : List (List ItemV)} {ps : List Int} (h : agB ws ps = true) : alS ws (win :: rest) ps = alTo ws rest ps win.length := by simp [alS, alTo, h]
theorem al_len (ws : List (List ItemV)) : ∀ (rest : List (List ItemV)) (ps : List Int), (alS ws rest ps).length = cs ws rest ps
  | [], ps => by unfold alS cs; split <;> rfl
  | win :: rest, ps => by
    unfold alS cs
    split
    · rw [List.length_flatMap]
      congr 1
      refine List.map_congr_left fun i _ => ?_
      exact al_len ws rest _
    · rfl
theorem alTo_len (ws : List (List ItemV)) (rest : List (List ItemV)) (ps : List Int) (k : Nat) : (alTo ws rest ps k).length = csTo ws rest ps k := by
  unfold alTo csTo
  rw [List.length_flatMap]
  congr 1
  refine List.map_congr_left fun i _ => ?_
  exact al_len ws rest _
theorem stamp_take {ws : List (List ItemV)} {p : List Int} {n j : Nat} (h : j < n) : stampAt ws (p.take n) j = stampAt ws p j := by
  unfold stampAt
  simp only [List.getD_eq_getElem?_getD, List.getElem?_take_of_lt h]
theorem ag_take {ws : List (List ItemV)} {p : List Int} (n : Nat) (h : agB ws p = true) : agB ws (p.take n) = true := by
  refine pair_yes fun i k hi hk => ?_
  rw [List.length_take] at hi
  have := ag_each h (show i < p.length by omega) hk
  unfold pairB at this ⊢
  rw [stamp_take (by omega), stamp_take (by omega)]
  exact this
theorem al_in (ws : List (List ItemV)) : ∀ (rest : List (List ItemV)) (ps : List Int), rest = ws.drop ps.length → ps.length ≤ ws.length → inB ws ps = true → ∀ p ∈ alS ws rest ps, IsCh ws p
  | [], ps, h, hl, hin, p, hp => by
    unfold alS at hp
    split at hp
    · rename_i hag
      obtain rfl := List.mem_singleton.1 hp
      have := List.drop_eq_nil_iff.1 h.symm
      exact ⟨⟨by omega, hin⟩, hag⟩
    · simp at hp
  | win :: rest, ps, h, hl, hin, p, hp => by
    unfold alS at hp
    split at hp
    · obtain ⟨i, hi, hp⟩ := List.mem_flatMap.1 hp
      have hi := List.mem_range.1 hi
      have hw : ws[ps.length]? = some win := by
        have := congrArg List.head? h
        simpa using this.symm
      have hr : rest = ws.drop (ps.length + 1) := by
        have := congrArg List.tail h
        simpa using this
      have hlt : ps.length < ws.length := (List.getElem?_eq_some_iff.1 hw).1
      exact al_in ws rest (ps ++ [(i : Int)]) (by rw [List.length_append]; exact hr) (by rw [List.length_append]; simp; omega) (in_snoc hin hw hi) p hp
    · simp at hp
theorem al_all (ws : List (List ItemV)) : ∀ (rest : List (List ItemV)) (ps : List Int), rest = ws.drop ps.length → ∀ p, IsCh ws p → p.take ps.length = ps → p ∈ alS ws rest ps
  | [], ps, h, p, hp, ht => by
    have hl := List.drop_eq_nil_iff.1 h.symm
    have e : p = ps := by rw [← ht, List.take_of_length_le (by rw [hp.1.1]; exact hl)]
    subst e
    unfold alS
    rw [if_pos hp.2]
    simp
  | win :: rest, ps, h, p, hp, ht => by
    have hw : ws[ps.length]? = some win := by
      have := congrArg List.head? h
      simpa using this.symm
    have hr : rest = ws.drop (ps.length + 1) := by
      have := congrArg List.tail h
      simpa using this
    have hlt : ps.length < ws.length := (List.getElem?_eq_some_iff.1 hw).1
    have hag : agB ws ps = true := by rw [← ht]; exact ag_take _ hp.2
    obtain ⟨q, h1, h2, -⟩ := inR_at hp.1 hlt
    have hwe : ws[ps.length] = win := by rw [List.getElem?_eq_getElem hlt] at hw; exact Option.some.inj hw
    rw [hwe] at h2
    have hpl : ps.length < p.length := by rw [hp.1.1]; exact hlt
    have hq : p[ps.length] = (q : Int) := by
      rw [← h1, List.getD_eq_getElem?_getD, List.getElem?_eq_getElem hpl]
      rfl
    rw [al_more hag]
    refine List.mem_flatMap.2 ⟨q, List.mem_range.2 h2, al_all ws rest (ps ++ [(q : Int)]) (by rw [List.length_append]; exact hr) p hp ?_⟩
    rw [List.length_append, List.length_cons, List.length_nil, List.take_succ_eq_append_getElem hpl, ht, hq]
/-- all of them -/
def alL (ws : List (List ItemV)) : List (List Int) := alS ws ws []
theorem alL_iff (ws : List (List ItemV)) (p : List Int) : p ∈ alL ws ↔ IsCh ws p :=
  ⟨fun h => al_in ws ws [] rfl (Nat.zero_le _) (by simp [inB]) p h, fun h => al_all ws ws [] rfl p h rfl⟩
/-- of each place the greatest number that some choice ahead of i has there (of choice i itself: at the places ahead of k) -/
def MxTo (ws : List (List ItemV)) (bs : List Int) (i k : Nat) : Prop := bs.length = ws.length ∧ (∀ j, j < ws.length → ∃ p, IsCh ws p ∧ p.getD j 0 = bs.getD j 0) ∧
  ∀ a (h : a < (alL ws).length) j, j < ws.length → (a < i ∨ (a = i ∧ j < k)) → (alL ws)[a].getD j 0 ≤ bs.getD j 0
theorem mx_start {ws : List (List ItemV)} {b : List Int} (h : b ∈ alL ws) : MxTo ws b 0 0 := ⟨((alL_iff ws b).1 h).1.1, fun j hj => ⟨b, (alL_iff ws b).1 h, rfl⟩, fun a _ j _ h => by omega⟩
theorem mx_next {ws : List (List ItemV)} {bs : List Int} {i : Nat} (h : MxTo ws bs i ws.length) : MxTo ws bs (i + 1) 0 := ⟨h.1, h.2.1, fun a ha j hj hh => h.2.2 a ha j hj (by omega)⟩
theorem mx_keep {ws : List (List ItemV)} {bs : List Int} {i k : Nat} (h : MxTo ws bs i k) (hi : i < (alL ws).length) (hle : (alL ws)[i].getD k 0 ≤ bs.getD k 0) : MxTo ws bs i (k + 1) := ⟨h.1, h.2.1, fun a ha j hj hh => by
  by_cases e : a = i ∧ j = k
  · obtain ⟨rfl, rfl⟩ := e
    exact hle
  · exact h.2.2 a ha j hj (by omega)⟩
theorem mx_set {ws : List (List ItemV)} {bs : List Int} {i k : Nat} (h : MxTo ws bs i k) (hi : i < (alL ws).length) (hk : k < ws.length) (hlt : bs.getD k 0 < (alL ws)[i].getD k 0) : MxTo ws (bs.set k ((alL ws)[i].getD k 0)) i (k + 1) := by
  have hkl : k < bs.length := by rw [h.1]; exact hk
  refine ⟨by rw [List.length_set]; exact h.1, fun j hj => ?_, fun a ha j hj hh => ?_⟩
  · rw [getD_set bs k j _ hkl]
    split
    · rename_i e
      subst e
      exact ⟨_, (alL_iff ws _).1 (List.getElem_mem hi), rfl⟩
    · exact h.2.1 j hj
  · rw [getD_set bs k j _ hkl]
    by_cases e : j = k
    · subst e
      rw [if_pos rfl]
      by_cases ea : a = i
      · subst ea; exact Int.le_refl _
      · have := h.2.2 a ha j hj (by omega); omega
    · rw [if_neg e]
      exact h.2.2 a ha j hj (by omega)
theorem mx_end {ws : List (List ItemV)} {bs : List Int} (hw : winsB ws = true) (h : MxTo ws bs (alL ws).length 0) : BestIs ws (some bs) := ⟨hw, h.1, fun p hp k hk => by
  obtain ⟨a, ha, rfl⟩ := List.getElem_of_mem ((alL_iff ws p).2 hp)
  exact h.2.2 a ha k hk (.inl ha), fun k hk => h.2.1 k hk⟩
theorem al_none {ws : List (List ItemV)} (h : (alL ws).length = 0) : BestIs ws none := .inr fun p hp => by
  have := (alL_iff ws p).2 hp
  rw [List.eq_nil_of_length_eq_zero h] at this
  simp at this
end Go.Proofs.YtknkdbfgfcgkiaaGreatDoor

set_option linter.unusedVariables false
namespace Go.Proofs.YtknkdbfgfcgkiaaGreatDoor
open Go.RowKit Go.Maps Go.Deep

def RowSaid (w0 : World) (ws : List (List ItemV)) (b off c1 : Nat) (rest : List (List ItemV)) : Prop :=
  ∀ (ps : List Int) (pa : Option Addr) (pc : Nat) (v : Value) (xs : List (List Int)) (w : World), rest = ws.drop ps.length → ps.length + rest.length = ws.length → inB ws ps = true → xs.length + 4 ^ rest.length ≤ 4096 → PkIn w pa ps v.ownBlock → PsRow w0.heap.size w v xs → Below w0.heap.size w0 w →
    Calls Tryz.prog 59 #[.slice (some ⟨b, off, none⟩) ws.length c1, .slice pa ps.length pc, v] w fun e w' => ∃ v', e = .returned v' ∧ Hid (PsRow w0.heap.size w' v' (xs ++ alS ws rest ps)) ∧ Hid (∀ g, v'.ownBlock = some g → v.ownBlock = some g ∨ w.heap.size ≤ g) ∧ Hid (Turn v.ownBlock.toList w w')
set_option maxHeartbeats 6400000 in
theorem row_nil (w0 : World) (ws : List (List ItemV)) (b off c1 : Nat) (hs : SmallItemSS ws) (h6 : ws.length ≤ 6) (hc : WinsAt w0 b off ws) (hb : b < w0.heap.size) : RowSaid w0 ws b off c1 [] := by
  intro ps pa pc v xs w hd hl hin hn hp hv hbl
  have HAG := hide (l15Agrees_any ws b off c1 ps pa pc w hs (by simp at hl; omega) h6 hin (hc.up hb hbl) (Nat.lt_of_lt_of_le hb hbl.size) (hp.rd pc))
  have HV := hide hv
  have HP := hide hp
  have HBL := hide hbl
  have hll : ps.length = ws.length := by simpa using hl
  have hp6 : ps.length ≤ 6 := by omega
  have hn2 : xs.length ≤ 4096 := Nat.le_trans (Nat.le_add_right _ _) hn
  obtain ⟨va, vc, rfl⟩ := hv.form
  clear hc hs hin hd hp hv hbl hl hn
  cases hag : agB ws ps
  · have HE := hide (al_no (rest := []) hag)
    rw [hag] at HAG
    rw [← hll] at HAG ⊢
    clear hag hll
    go_enter Tryz.func59, Tryz.ntmps59
    go_wp2_with fail
    refine (unhide HAG).mono ?_
    rintro e w1 ⟨rfl, b1⟩
    have V1 := hide ((unhide HV).up b1)
    have T1 := hide (Turn.of_below (S := (Value.slice va xs.length vc).ownBlock.toList) b1)
    clear b1
    go_wp2_with fail
    go_ret
    exact ⟨_, rfl, by rw [unhide HE, List.append_nil]; exact V1, hide (fun g hg => .inl hg), T1⟩
  · have HE := hide (al_one hag)
    rw [hag] at HAG
    rw [← hll] at HAG ⊢
    clear hag hll
    go_enter Tryz.func59, Tryz.ntmps59
    go_wp2_with fail
    refine (unhide HAG).mono ?_
    rintro e w1 ⟨rfl, b1⟩
    have V1 := hide ((unhide HV).up b1)
    have T1 := hide (Turn.of_below (S := (Value.slice va xs.length vc).ownBlock.toList) b1)
    have P1 := hide ((unhide HP).turn (unhide T1))
    clear b1
    obtain ⟨pa', pc', hpe, -⟩ := (unhide P1).rd pc
    have R0 := hide (inLit w1 w1.heap.size (Nat.le_refl _))
    have ba : Below w1.heap.size w1 (w1.alloc (.cells #[] 3)) := (Below.refl _ _).alloc (Nat.le_refl _) _
    have U0 := hide (((unhide P1).rd pc).up ba)
    have BA := hide ba
    have BZ1 := hide (show w.heap.size ≤ w1.heap.size from (unhide T1).size)
    have BZ := hide (show w0.heap.size ≤ w1.heap.size from Nat.le_trans (unhide HBL).size (unhide T1).size)
    clear ba hpe
    go_wp2_with (first
      | (at_builtin; have _t := BA; refine wpList_inAppend rfl _ _ rfl w1.heap.size _ _ [] ps rfl rfl (unhide R0) (unhide U0) (by simp; omega) (unhide BA).size ?_; simp only [List.length_nil, Nat.zero_add, List.nil_append]; intro a3 c3 w3 r3 g3; have Q3 := hide ((r3.mono (unhide BZ)).up ((Below.refl _ _).alloc (Nat.le_refl _) (.cells #[.slice a3 ps.length c3] 37))); have B3 := hide ((unhide BA).grown g3 (unhide BA).size (fun y hy => (unhide R0).ge y hy)); clear r3 g3 BA R0 U0)
      | (at_builtin; have _t := B3; have b4 : Below w1.heap.size w1 (w3.alloc (.cells #[.slice a3 ps.length c3] 37)) := (unhide B3).alloc (unhide B3).size _; refine wpList_psAppend rfl _ _ rfl w0.heap.size (.slice va xs.length vc) xs ps a3 ps.length c3 w3.heap.size rfl rfl ((unhide V1).up b4) (unhide Q3) (World.cell?_alloc_at _ _ _ _ rfl) (by omega) (Nat.le_trans (unhide BZ) b4.size) ?_; intro g5 c5 w5 r5 gr5 at5; have V5 := hide r5; have T5 := hide (((unhide T1).trans (Turn.of_below b4)).trans (Turn.of_grown gr5 (fun k hk => .inl (by simpa using hk)))); have A5 := hide (show ∀ g, (Value.slice (some ⟨g5, 0, none⟩) (xs.length + 1) c5).ownBlock = some g → (Value.slice va xs.length vc).ownBlock = some g ∨ w.heap.size ≤ g from fun g hg => by (simp only [Value.ownBlock, Option.some.injEq] at hg; subst hg; exact at5.imp id (fun e => by have := unhide BZ1; have := b4.size; omega))); clear r5 gr5 at5 b4 B3 Q3)
      | fail)
    go_ret
    exact ⟨_, rfl, by rw [unhide HE]; exact V5, A5, T5⟩
set_option maxHeartbeats 6400000 in
theorem row_cons (w0 : World) (ws : List (List ItemV)) (b off c1 : Nat) (hs : SmallItemSS ws) (h4 : ∀ x ∈ ws, x.length ≤ 4) (h6 : ws.length ≤ 6) (hc : WinsAt w0 b off ws) (hb : b < w0.heap.size) (win : List ItemV) (rest : List (List ItemV)) (ih : RowSaid w0 ws b off c1 rest) : RowSaid w0 ws b off c1 (win :: rest) := by
  intro ps pa pc v xs w hd hl hin hn hp hv hbl
  have hlt : ps.length < ws.length := by simp only [List.length_cons] at hl; omega
  have hw : ws[ps.length]? = some win := by
    have := congrArg List.head? hd
    simpa using this.symm
  have hwe : ws[ps.length] = win := by rw [List.getElem?_eq_getElem hlt] at hw; exact Option.some.inj hw
  have hr : rest = ws.drop (ps.length + 1) := by
    have := congrArg List.tail hd
    simpa using this
  have h4w : win.length ≤ 4 := h4 win (by rw [← hwe]; exact List.getElem_mem hlt)
  have h4r : ∀ x ∈ rest, x.length ≤ 4 := fun x hx => h4 x (by rw [hr] at hx; exact List.mem_of_mem_drop hx)
  have HAG := hide (l15Agrees_any ws b off c1 ps pa pc w hs (by omega) h6 hin (hc.up hb hbl) (Nat.lt_of_lt_of_le hb hbl.size) (hp.rd pc))
  obtain ⟨iv, ic0, hiv⟩ := hc ps.length hlt
  rw [hwe] at hiv
  have HV := hide hv
  have HP := hide hp
  have HBL := hide hbl
  have HNB := hide (show ∀ k, k < win.length → xs.length + csTo ws rest ps k + 4 ^ rest.length ≤ 4096 from fun k hk => by
    have h1 := csTo_le ws rest ps k h4r
    rw [List.length_cons, Nat.pow_succ] at hn
    have h2 : k * 4 ^ rest.length ≤ 3 * 4 ^ rest.length := Nat.mul_le_mul_right _ (by omega)
    omega)
  have IH := hide (fun (i : Nat) (hi : i < win.length) (pa' : Option Addr) (pc' : Nat) (v' : Value) (xs' : List (List Int)) (W : World) (hn' : xs'.length + 4 ^ rest.length ≤ 4096) (hp' : PkIn W pa' (ps ++ [(i : Int)]) v'.ownBlock) (hv' : PsRow w0.heap.size W v' xs') (hb' : Below w0.heap.size w0 W) => ih (ps ++ [(i : Int)]) pa' pc' v' xs' W (by rw [List.length_append]; exact hr) (by rw [List.length_append]; simp only [List.length_cons, List.length_nil] at hl ⊢; omega) (in_snoc hin hw hi) hn' hp' hv' hb')
  have hne : ¬ ((ps.length : Int) = (ws.length : Int)) := by omega
  have hbe : (((ps.length : Int)) == ((ws.length : Int))) = false := by simp; omega
  have hp6 : ps.length ≤ 6 := by omega
  obtain ⟨va, vc, rfl⟩ := hv.form
  obtain ⟨ia, ic, rfl, -⟩ := hiv
  have i0 := fun (W : World) (bW : Below w0.heap.size w0 W) => (bW.cell (show b < w0.heap.size from hb)).trans ic0
  have I0 := hide i0
  clear hc hs hin hd hp hv hbl hl hn hw hwe hr ih h4 h4r i0 ic0
  cases hag : agB ws ps
  · have HE := hide (al_no (rest := win :: rest) hag)
    rw [hag] at HAG
    clear hag
    go_enter Tryz.func59, Tryz.ntmps59
    go_wp2_with fail
    refine (unhide HAG).mono ?_
    rintro e w1 ⟨rfl, b1⟩
    have V1 := hide ((unhide HV).up b1)
    have T1 := hide (Turn.of_below (S := (Value.slice va xs.length vc).ownBlock.toList) b1)
    clear b1
    go_wp2_with fail
    go_ret
    exact ⟨_, rfl, by rw [unhide HE, List.append_nil]; exact V1, hide (fun g hg => .inl hg), T1⟩
  · have HE := hide (al_more (win := win) (rest := rest) hag)
    rw [hag] at HAG
    clear hag
    go_enter Tryz.func59, Tryz.ntmps59
    go_wp2_with fail
    refine (unhide HAG).mono ?_
    rintro e w1 ⟨rfl, b1⟩
    have V1 := hide ((unhide HV).up b1)
    have T1 := hide (Turn.of_below (S := (Value.slice va xs.length vc).ownBlock.toList) b1)
    have P1 := hide ((unhide HP).turn (unhide T1))
    have i1 := unhide I0 _ ((unhide HBL).trans (b1.mono (unhide HBL).size))
    clear b1
    go_wp2_with fail
    clear i1
    have OBG := hide (show ∀ j ∈ (Value.slice va xs.length vc).ownBlock.toList, w0.heap.size ≤ j from fun j hj => (unhide HV).ge j (by simpa using hj))
    have HP0 := hide (unhide HP)
    go_loopw [2, 8] (fun fv i wr => ∃ (k m : Nat) (ys : List (List Int)) (fa : Option Addr) (fc : Nat), k ≤ win.length ∧ i = .int .i64 k ∧ fv = .slice fa m fc ∧ Hid (ys = xs ++ alTo ws rest ps k ∧ m = ys.length) ∧ Hid (PsRow w0.heap.size wr (.slice fa m fc) ys) ∧ Hid (∀ g, (Value.slice fa m fc).ownBlock = some g → (Value.slice va xs.length vc).ownBlock = some g ∨ w.heap.size ≤ g) ∧ Hid (Turn (Value.slice va xs.length vc).ownBlock.toList w wr)) (fun _ i _ => win.length - (intOf i).toNat)
    case atStart => exact ⟨0, xs.length, xs, va, vc, Nat.zero_le _, rfl, rfl, hide (by simp [alTo]), V1, hide (fun g hg => .inl hg), T1⟩
    case round =>
      obtain ⟨k, m, ys, fa, fc, hk, rfl, rfl, HM, HF, HA, HT⟩ := hrel
      by_cases hkl : k < win.length
      · have hm : ys.length + 4 ^ rest.length ≤ 4096 := by have := unhide HNB k hkl; rw [(unhide HM).1, List.length_append, alTo_len]; exact this
        have HPr := hide ((unhide HP0).turn (unhide HT))
        have R0 := hide (inLit wr wr.heap.size (Nat.le_refl _))
        have ba : Below wr.heap.size wr (wr.alloc (.cells #[] 3)) := (Below.refl _ _).alloc (Nat.le_refl _) _
        have U0 := hide (((unhide HPr).rd pc).up ba)
        have BA := hide ba
        have HM1 := hide (show ys ++ alS ws rest (ps ++ [(k : Int)]) = xs ++ alTo ws rest ps (k + 1) by rw [alTo_step, (unhide HM).1, List.append_assoc])
        clear ba
        go_wp2_with (first
          | (at_builtin; have _t := BA; refine wpList_inAppend rfl _ _ rfl wr.heap.size _ _ [] ps rfl rfl (unhide R0) (unhide U0) (by simp; omega) (unhide BA).size ?_; simp only [List.length_nil, Nat.zero_add, List.nil_append]; intro a3 c3 w3 r3 g3; have R3 := hide r3; have B3 := hide ((unhide BA).grown g3 (unhide BA).size (fun y hy => (unhide R0).ge y hy)); clear r3 g3 BA R0 U0)
          | (at_builtin; have _t := B3; have b4 : Below wr.heap.size wr (w3.alloc (.cells #[.int .i64 (k : Int)] 3)) := (unhide B3).alloc (unhide B3).size _; refine wpList_inAppend rfl _ _ rfl wr.heap.size _ _ ps [(k : Int)] rfl rfl ((unhide R3).up ((Below.refl _ _).alloc (Nat.le_refl _) _)) (inOne w3 (k : Int)) (by simp; omega) b4.size ?_; simp only [List.length_cons, List.length_nil, Nat.zero_add]; intro a5 c5 w5 r5 g5; have R5 := hide r5; have B5 := hide (b4.grown g5 b4.size (fun y hy => (unhide R3).ge y hy)); clear r5 g5 b4 B3 R3)
          | fail)
        have HC := unhide IH k hkl a5 c5 (.slice fa m fc) ys w5 hm ((unhide R5).pk (fun g hg => (unhide HF).lt g hg)) ((unhide HF).up (unhide B5)) (((unhide HBL).trans ((unhide HT).below (unhide HBL).size (unhide OBG))).trans ((unhide B5).mono (Nat.le_trans (unhide HBL).size (unhide HT).size)))
        rw [show (ps ++ [(k : Int)]).length = ps.length + 1 by simp] at HC
        refine HC.mono ?_
        clear HC
        rintro e w6 ⟨v6, rfl, F6, A6, T6⟩
        obtain ⟨ga, gc, rfl⟩ := (unhide F6).form
        have HT6 := hide (((unhide HT).trans (Turn.of_below (unhide B5))).more (unhide T6) (fun x hx => (unhide HA x (by simpa using hx)).imp (fun e => by simpa using e) id))
        have HA6 := hide (show ∀ g, (Value.slice ga (ys ++ alS ws rest (ps ++ [(k : Int)])).length gc).ownBlock = some g → (Value.slice va xs.length vc).ownBlock = some g ∨ w.heap.size ≤ g from fun g hg => by
          rcases unhide A6 g hg with h | h
          · exact unhide HA g h
          · exact .inr (by have := (unhide HT).size; have := (unhide B5).size; omega))
        clear A6 T6 R5 B5
        generalize ys ++ alS ws rest (ps ++ [(k : Int)]) = y6 at *
        generalize hm6 : y6.length = m6 at F6 HA6 ⊢
        have HM6 := hide (show y6 = xs ++ alTo ws rest ps (k + 1) ∧ m6 = y6.length from ⟨unhide HM1, hm6.symm⟩)
        clear hm6 HM1
        go_wp2_with fail
        go_roundw
        case rel => exact ⟨k + 1, m6, y6, ga, gc, by omega, by go_num, rfl, HM6, F6, HA6, HT6⟩
        case measure => simp [intOf]; omega
      · obtain rfl : k = win.length := by omega
        have HF2 := hide (show PsRow w0.heap.size wr (.slice fa m fc) (xs ++ alS ws (win :: rest) ps) by rw [unhide HE, ← (unhide HM).1]; exact unhide HF)
        go_wp2_with fail
        go_ret
        exact ⟨_, rfl, HF2, HA, HT⟩
theorem row_all (w0 : World) (ws : List (List ItemV)) (b off c1 : Nat) (hs : SmallItemSS ws) (h4 : ∀ x ∈ ws, x.length ≤ 4) (h6 : ws.length ≤ 6) (hc : WinsAt w0 b off ws) (hb : b < w0.heap.size) : ∀ rest, RowSaid w0 ws b off c1 rest
  | [] => row_nil w0 ws b off c1 hs h6 hc hb
  | win :: rest => row_cons w0 ws b off c1 hs h4 h6 hc hb win rest (row_all w0 ws b off c1 hs h4 h6 hc hb rest)
end Go.Proofs.YtknkdbfgfcgkiaaGreatDoor
