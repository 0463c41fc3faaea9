/-
  The specification's l2Free and TreeFree.
-/
import Derived.Test.YtldgffkippejiaaGreatDoorMerged41
namespace Go.Proofs.YtldgffkippejiaaGreatDoor
open Go.RowKit Go.Maps Go.Deep
set_option linter.unusedVariables false

theorem below_alloc_r {p : Prop} {a w : World} {ob : Obj} (h : p ∧ Below a.heap.size a w) (_ : Unit) : Below a.heap.size a (w.alloc ob) := h.2.alloc h.2.size ob
theorem empty_row {base : Nat} (n : Nat) (w : World) (hn : n = w.heap.size) (hb : base ≤ w.heap.size) : (w.alloc (.cells #[] 9)).ownsRow base 9 1 (.slice (some ⟨n, 0, none⟩) 0 0) 0 [] := by
  subst hn
  exact World.ownsRow_lit (base := base) (e := 9) (size := 1) w #[] 0 hb (by unfold maxLen; omega) rfl
def NewsAt (w : World) (g : Nat) (v : Value) : Prop := ∀ j u, [v][j]? = some u → w.cell? ((⟨g, 0, none⟩ : Addr).add j) = some u
theorem news_at (n : Nat) (w : World) (t : TypeId) (v : Value) (hn : n = w.heap.size) : NewsAt (w.alloc (.cells #[v] t)) n v := by
  subst hn
  exact news_one w t v
theorem news_far {w w' : World} {g : Nat} {v : Value} {r : Option Nat} (h : NewsAt w g v) (hg : w.drew.grownBy w' r) (hlt : g < w.heap.size) (hne : some g ≠ r) : NewsAt w' g v := by
  intro j u hu
  have hadd : (⟨g, 0, none⟩ : Addr).add j = ⟨g, j, none⟩ := by unfold Addr.add; split <;> simp_all
  have h1 := h j u hu
  rw [hadd] at h1 ⊢
  exact (World.grownBy.cell_far hg ⟨g, j, none⟩ hlt hne).trans h1
theorem news_up {w : World} {g : Nat} {v : Value} (h : NewsAt w g v) (ob : Obj) (hlt : g < w.heap.size) : NewsAt (w.alloc ob) g v := by
  intro j u hu
  have hadd : (⟨g, 0, none⟩ : Addr).add j = ⟨g, j, none⟩ := by unfold Addr.add; split <;> simp_all
  have h1 := h j u hu
  rw [hadd] at h1 ⊢
  exact ((Below.alloc (Below.refl w.heap.size w) (Nat.le_refl _) ob).cell (p := ⟨g, j, none⟩) hlt).trans h1
def FreeSaid (x : NodeV) (l : BT NodeV) : Prop := ∀ (w : World) (b off cap : Nat) (ns : List NodeV) (p : Nat) (bv : Value) (bs : List ByteArray) (ov : Value) (os : List ByteArray), StandsAt ns p x l → NodesAt w b off ns → b < w.heap.size → OwnAll ns →
  BoundAt w bv bs → bs.length + dp l + 1 ≤ 1000 → StrAt w ov os → os.length + (fl l).length + 1 ≤ 1000 →
  Calls Tryz.prog 25 #[.slice (some ⟨b, off, none⟩) ns.length cap, .int .i64 (p : Int), bv, ov] w fun e w' => RetStrs ((freeT x l bs).foldl addS os) e w' ∧ Below w.heap.size w w'
theorem box_four (w : World) (t : TypeId) (k n : Int) (s : ByteArray) (c : Int) (W : World) (hW : W = w.alloc (.cells #[.int .i64 k, .int .i64 n, .string s, .int .i64 c] t)) :
    W.cell? ⟨w.heap.size, 0, none⟩ = some (.int .i64 k) ∧ W.cell? ⟨w.heap.size, 1, none⟩ = some (.int .i64 n) ∧ W.cell? ⟨w.heap.size, 2, none⟩ = some (.string s) ∧ W.cell? ⟨w.heap.size, 3, none⟩ = some (.int .i64 c) ∧ w.heap.size < W.heap.size ∧ Below w.heap.size w W := by
  subst hW
  refine ⟨?_, ?_, ?_, ?_, by simp, (Below.refl _ _).alloc (Nat.le_refl _) _⟩
  all_goals exact World.cell?_alloc_at _ _ _ _ rfl

set_option maxRecDepth 100000 in
set_option maxHeartbeats 3200000 in
/-- at a name -/
theorem l2Free_name (x : NodeV) (l : BT NodeV) (hx2 : x.kind = 2) : FreeSaid x l := by
  intro w b off cap ns p bv bs ov os hst hn hb hown hbv hbl hov hol
  have hlt := hst.lt
  have h400 : ns.length ≤ 400 := hown.1
  obtain ⟨c0, c1, c2, c3⟩ := hn p (by omega)
  rw [hst.node (by omega)] at c0 c1 c2 c3
  rw [hx2] at c0
  have hk23 := (own_parts (hown.2 x hst.mem)).2.1
  have hT := hide (show freeT x l bs = if hasB bs x.name then [] else [x.name] by unfold freeT; rw [if_pos hx2])
  have HBV := hide hbv
  have HOV := hide hov
  obtain ⟨ab, capb, rfl, hbx⟩ := hbv.at
  obtain ⟨ao, capo, rfl, hox⟩ := hov
  clear hst hn hown hbv hbx hox hx2 hk23
  go_enter Tryz.func25, Tryz.ntmps25
  go_wp2_with fail
  generalize hW1 : w.alloc (.cells #[.int .i64 2, .int .i64 x.num, .string x.name, .int .i64 x.kids] 67) = W1
  obtain ⟨d0, d1, d2, d3, hnb, hbw⟩ := box_four w _ _ _ _ _ W1 hW1.symm
  have HI := hide (l1In_at W1 _ bs x.name ((unhide HBV).below hbw).at (by omega))
  have HA := hide (l2Add_at W1 _ os x.name ((unhide HOV).below hbw) (by omega))
  have HOV1 := hide ((unhide HOV).below hbw)
  have HBW := hide (And.intro hbw (Nat.le_of_lt hnb))
  clear hW1 hbw
  cases hhas : hasB bs x.name
  · rw [hhas] at HI
    have hT' := hide (show (freeT x l bs).foldl addS os = addS os x.name by rw [unhide hT, hhas]; rfl)
    clear hhas hT
    go_wp2_with (first
      | (go_at_call 41; refine (unhide HI).mono ?_; rintro e w2 ⟨rfl, rfl⟩)
      | (go_at_call 42; refine (unhide HA).mono ?_; rintro e w3 ⟨⟨v3, rfl, hs3⟩, hb3⟩; have HS3 := hide hs3; obtain ⟨a3, cap3, e3, _⟩ := hs3; subst e3))
    go_ret
    exact ⟨⟨_, rfl, by rw [unhide hT']; exact unhide HS3⟩, (unhide HBW).1.trans (hb3.mono (unhide HBW).2)⟩
  · rw [hhas] at HI
    have hT' := hide (show (freeT x l bs).foldl addS os = os by rw [unhide hT, hhas]; rfl)
    clear hhas hT
    go_wp2_with (first
      | (go_at_call 41; refine (unhide HI).mono ?_; rintro e w2 ⟨rfl, rfl⟩))
    go_ret
    exact ⟨⟨_, rfl, by rw [unhide hT']; exact unhide HOV1⟩, (unhide HBW).1⟩

set_option maxRecDepth 100000 in
set_option maxHeartbeats 6400000 in
theorem l2Free_one (x : NodeV) (l : BT NodeV) (hx : x.kids = cnt l) (hl : kok l) (hx2 : x.kind ≠ 2) (ih : ∀ y m, InF y m l → FreeSaid y m) : FreeSaid x l := by
  intro w b off cap ns p bv bs ov os hst hn hb hown hbv hbl1 hov hol
  have IH := hide ih
  clear ih
  have hlt := hst.lt
  have hcl := cnt_le l
  have h400 : ns.length ≤ 400 := hown.1
  have hbl : bs.length ≤ 1000 := by omega
  obtain ⟨c0, c1, c2, c3⟩ := hn p (by omega)
  rw [hst.node (by omega)] at c0 c1 c2 c3
  rw [hx] at c3
  have hT := hide (show freeT x l bs = freeF l (knownAt x.kind x.name bs) 0 by unfold freeT; rw [if_neg hx2])
  have e2 : (x.kind == 2) = false := by simp [hx2]
  have HN := hide hn
  have HST := hide hst
  have HO := hide hown
  have HBL := hide hbl1
  have HOL := hide hol
  have hbvv := hbv.at
  have HBV := hide hbv
  have HOV := hide hov
  obtain ⟨ab, capb, ebv, hbx⟩ := hbvv
  obtain ⟨ao, capo, eov, hox⟩ := hov
  clear hst hn hown hbv hbx hox hx hx2 hol hbl1
  obtain ⟨i0, hi, hz0, hz1, hz2⟩ := info_parts infoStr
  subst ebv eov
  go_enter Tryz.func25, Tryz.ntmps25
  go_wp2_with fail
  generalize hW1 : w.alloc (.cells #[.int .i64 x.kind, .int .i64 x.num, .string x.name, .int .i64 (cnt l : Int)] 67) = W1
  obtain ⟨d0, d1, d2, d3, hnb, hbw⟩ := box_four w _ _ _ _ _ W1 hW1.symm
  have HBW := hide (And.intro hbw (Nat.le_of_lt hnb))
  have HN1 := hide ((unhide HN).below hbw hb)
  have hb1 : b < W1.heap.size := by omega
  have HBV1 := hide ((unhide HBV).below hbw)
  have HOV1 := hide ((unhide HOV).below hbw)
  clear hW1 hbw HN HBV HOV c0 c1 c2 c3
  generalize w.heap.size = nb at hnb d0 d1 d2 d3 ⊢
  go_loopw [3, 10, 11] (fun outv kv iv wr => ∃ (done todo : BT NodeV) (q j : Nat) (ov' : Value) (os' : List ByteArray), Hid (l = app done todo) ∧ Hid (q = p + 1 + (fl done).length) ∧ Hid (j = cnt done) ∧ outv = ov' ∧ kv = .int .i64 q ∧ iv = .int .i64 j ∧ Hid (StrAt wr ov' os') ∧ Hid (os' = (freeF done (knownAt x.kind x.name bs) 0).foldl addS os) ∧ Below W1.heap.size W1 wr) (fun _ _ iv _ => cnt l - (intOf iv).toNat)
  case atStart => exact ⟨.nil, l, p + 1, 0, _, os, rfl, rfl, rfl, rfl, by go_num, rfl, HOV1, rfl, Below.refl _ _⟩
  case round =>
    obtain ⟨done, todo, q, j, ov', os', hle, hq, hj, rfl, rfl, rfl, HSO, hos, hbel⟩ := hrel
    have hd0 := (hbel.cell (p := ⟨nb, 0, none⟩) hnb).trans d0
    have hd3 := (hbel.cell (p := ⟨nb, 3, none⟩) hnb).trans d3
    have hnr : nb < wr.heap.size := Nat.lt_of_lt_of_le hnb hbel.size
    cases todo with
    | nil =>
      have he := unhide hle
      rw [app_nil] at he
      have hz : ¬ (j : Int) < (cnt l : Int) := by rw [unhide hj, he]; omega
      have hf := hide (show os' = (freeT x l bs).foldl addS os by rw [unhide hT, he]; exact unhide hos)
      have HB2 := hide hbel
      clear he hbel
      go_wp2_with fail
      go_ret
      exact ⟨⟨_, rfl, by rw [← unhide hf]; exact unhide HSO⟩, (unhide HBW).1.trans ((unhide HB2).mono (unhide HBW).2)⟩
    | node b' o' y m r =>
      have hkl : kok (app done (.node b' o' y m r)) := by rw [← unhide hle]; exact hl
      rw [kok_app] at hkl
      obtain ⟨hky, hkm, hkr⟩ := hkl.2
      have hS : StandsAt ns q y m := by
        rw [unhide hq]
        have := unhide HST
        rw [unhide hle] at this
        exact this.kid
      have hqb : q < ns.length := by have := hS.lt; omega
      have hjl : (j : Int) < (cnt l : Int) := by
        have e := unhide hle
        rw [e, cnt_app, unhide hj]; simp only [cnt]; omega
      have hj3 : (j : Int) ≤ 400 := by omega
      have hln : (fl done).length + ((fl m).length + 1) ≤ (fl l).length := by
        rw [unhide hle, fl_app]; simp [fl] <;> omega
      have hdp : dp m + 1 ≤ dp l := by rw [unhide hle, dp_app]; simp only [dp]; omega
      have hob : os'.length + (fl m).length + 1 ≤ 1000 := by
        have h1 := unhide HOL
        have h2 := fold_len (freeF done (knownAt x.kind x.name bs) 0) os
        have h3 := freeF_len done (knownAt x.kind x.name bs) 0
        rw [← unhide hos] at h2
        omega
      have hkb : (knownAt x.kind x.name bs j).length + dp m + 1 ≤ 1000 := by
        have h1 := unhide HBL
        have h2 : (knownAt x.kind x.name bs j).length ≤ bs.length + 1 := by unfold knownAt; split <;> simp
        omega
      have hEnd := hS.end' hky hkm
      have HEND := hide (show ∀ w', Below W1.heap.size W1 w' → Calls Tryz.prog 39 #[.slice (some ⟨b, off, none⟩) ns.length cap, .int .i64 (q : Int)] w' fun e w'' => e = .returned (.int .i64 ((q + 1 + (fl m).length : Nat) : Int)) ∧ w'' = w' from fun w' hw' => by
        have := specEnd_any w' b off cap ns q (by omega) (by omega) (by omega) ((unhide HN1).below hw' hb1)
        rw [hEnd] at this
        exact this)
      have IHK := hide (show ∀ (w' : World) (kv ov2 : Value), Below W1.heap.size W1 w' → BoundAt w' kv (knownAt x.kind x.name bs j) → StrAt w' ov2 os' →
          Calls Tryz.prog 25 #[.slice (some ⟨b, off, none⟩) ns.length cap, .int .i64 (q : Int), kv, ov2] w' fun e w'' => RetStrs ((freeT y m (knownAt x.kind x.name bs j)).foldl addS os') e w'' ∧ Below w'.heap.size w' w'' from fun w' kv ov2 hw' hk hs =>
        unhide IH y m (by rw [unhide hle]; exact inF_app y m done b' o' r) w' b off cap ns q kv _ ov2 os' hS ((unhide HN1).below hw' hb1) (Nat.lt_of_lt_of_le hb1 hw'.size) (unhide HO) hk hkb hs hob)
      have hle' := hide ((unhide hle).trans (app_snoc done b' o' y m r))
      have hq' := hide (show q + 1 + (fl m).length = p + 1 + (fl (app done (.node b' o' y m .nil))).length by
        rw [unhide hq, fl_app]; simp [fl]; omega)
      have hj' := hide (show j + 1 = cnt (app done (.node b' o' y m .nil)) by rw [unhide hj, cnt_app]; rfl)
      have hos' := hide (show (freeT y m (knownAt x.kind x.name bs j)).foldl addS os' = (freeF (app done (.node b' o' y m .nil)) (knownAt x.kind x.name bs) 0).foldl addS os by
        rw [freeF_snoc, List.foldl_append, ← unhide hos, unhide hj])
      have hbv := hide ((unhide HBV1).below (hbel.mono (Nat.le_refl _)))
      obtain ⟨ao', capo', eov', _⟩ := unhide HSO
      subst eov'
      clear hkl hS hky hkm hkr hln hdp hob hkb hEnd HST HOL HBL hos
      generalize hbv0 : Value.slice ab bs.length capb = bv at *
      generalize hov0 : Value.slice ao' os'.length capo' = ov' at *
      by_cases k22 : x.kind = 22
      · rw [k22] at hd0
        by_cases j1 : j = 1
        · have hbf := hide (show knownAt x.kind x.name bs j = bs ++ [x.name] by unfold knownAt; rw [if_pos (.inl ⟨k22, j1⟩)])
          have ej : ((j : Int) == 1) = true := by simp [j1]
          clear k22 j1
          have hbn := hide hbel
          have hnr : nb < wr.heap.size := Nat.lt_of_lt_of_le hnb hbel.size
          have hcn : wr.cell? ⟨nb, 2, none⟩ = some (.string x.name) := (hbel.cell (p := ⟨nb, 2, none⟩) hnb).trans d2
          have hbvr := (unhide hbv)
          have bA := Below.alloc (Below.refl wr.heap.size wr) (Nat.le_refl _) (.cells #[] 9)
          have bB := bA.alloc bA.size (.cells #[.string x.name] 9)
          have bC0 := Below.alloc (Below.refl wr.heap.size wr) (Nat.le_refl _) (.cells #[.string x.name] 9)
          have bC := bC0.alloc bC0.size (.cells #[] 9)
          have ownA : Hid ((wr.alloc (.cells #[] 9)).drew.ownsRow wr.heap.size 9 1 (.slice (some ⟨wr.heap.size, 0, none⟩) 0 0) 0 []) := hide (empty_row _ _ rfl (Nat.le_refl _))
          have ownB : Hid (((wr.alloc (.cells #[] 9)).alloc (.cells #[.string x.name] 9)).drew.ownsRow wr.heap.size 9 1 (.slice (some ⟨wr.heap.size, 0, none⟩) 0 0) 0 []) := hide (ownsRow_up (empty_row wr.heap.size wr rfl (Nat.le_refl _)) (Below.drew (Below.alloc (Below.refl _ _) (Nat.le_refl _) _)))
          have ownC : Hid (((wr.alloc (.cells #[.string x.name] 9)).alloc (.cells #[] 9)).drew.ownsRow wr.heap.size 9 1 (.slice (some ⟨wr.heap.size + 1, 0, none⟩) 0 0) 0 []) := hide (empty_row _ (wr.alloc (.cells #[.string x.name] 9)) (by simp) (by simp))
          have bdA : Hid (BoundAt (wr.alloc (.cells #[] 9)).drew bv bs) := hide (hbvr.below bA.drew)
          have bdB : Hid (BoundAt ((wr.alloc (.cells #[] 9)).alloc (.cells #[.string x.name] 9)).drew bv bs) := hide (hbvr.below bB.drew)
          have bdC : Hid (BoundAt ((wr.alloc (.cells #[.string x.name] 9)).alloc (.cells #[] 9)).drew bv bs) := hide (hbvr.below bC.drew)
          have h63 : bs.length + 1 ≤ maxLen := by unfold maxLen; omega
          have hby6 : (bs.length + 1) * 16 ≤ 140737488355328 := by omega
          have hBA := hide bA.drew
          have hBB := hide bB.drew
          have hBC := hide bC.drew
          have hBC0 := hide bC0.drew
          have KEEP : ∀ w', Below wr.heap.size wr w' → w'.cell? ⟨nb, 2, none⟩ = some (.string x.name) ∧ Below wr.heap.size wr w' := fun w' h => ⟨(h.cell (by exact hnr)).trans hcn, h⟩
          clear hbel bA bB bC0 bC hbvr
          go_wp2_with fail
          go_region_held3 (fun w' => w'.cell? ⟨nb, 2, none⟩ = some (.string x.name) ∧ Below wr.heap.size wr w') ((refine KEEP _ ?_; first | assumption | exact below_dn (Below.refl _ _) 1 | exact unhide (by assumption) | exact Below.drew (unhide (by assumption))))
            (first
              | (have := m1; refine step_append_lies _ (by rfl) (.tmp 56) (.tmp 59) 22 (by rfl) wr.heap.size 9 i0 _ 1 16 Tryz.underlying22 hi hz0 hz1 hz2 rfl Nat.one_pos (.slice (some ⟨g1, 0, none⟩) bs.length c1) bs.length (bs.map .string) (by first | rfl | simp [Act.eval]) (unhide OWN2) ⟨_, 0, none⟩ 1 1 [.string x.name] (by rfl) rfl (unhide X2) (one_str x.name) Nat.one_pos h63 hby6 hb6 _ rfl ?_; intro g2 c2 w6 hown6 hgrow6 hor6 hlt6; clear hor6; have HROW6 := hide (show StrRow wr.heap.size w6 (.slice (some ⟨g2, 0, none⟩) (bs.length + 1) c2) (bs ++ [x.name]) by unfold StrRow; simpa using hown6); have HB6 := hide (Below.grown (unhide HB5) hgrow6 (unhide HB5).size (ownBlock_ge (unhide OWN2))); clear hown6 hgrow6)
              | (refine step_append_bound (by rfl) (.tmp 54) (.tmp 55) (by rfl) wr.heap.size wr.heap.size (by rfl) (unhide ownA) bv bs (by rfl) (unhide bdA) hbl (unhide hBA).size ?_; intro g1 c1 w5 hown5 hgrow5 hg1; have HB50 := hide (Below.grown (unhide hBA) hgrow5 (unhide hBA).size (fun y hy => by cases hy; exact Nat.le_refl _)); have OWN2 := hide (ownsRow_up hown5 (Below.alloc (Below.refl w5.heap.size w5) (Nat.le_refl _) (.cells #[.string x.name] 9))); have X2 := hide (show NewsAt _ _ _ from news_one w5 9 (.string x.name)); have HB5 := hide ((unhide HB50).alloc (unhide HB50).size (.cells #[.string x.name] 9)); have hb6 := (unhide HB5).size; have m1 := True.intro; clear hown5 hgrow5)
              | (refine step_append_bound (by rfl) (.tmp 54) (.tmp 55) (by rfl) wr.heap.size wr.heap.size (by rfl) (unhide ownB) bv bs (by rfl) (unhide bdB) hbl (unhide hBB).size ?_; intro g1 c1 w5 hown5 hgrow5 hg1; have HB5 := hide (Below.grown (unhide hBB) hgrow5 (unhide hBB).size (fun y hy => by cases hy; exact Nat.le_refl _)); have OWN2 := hide hown5; have X2 := hide (news_far (news_at (wr.heap.size + 1) (wr.alloc (.cells #[] 9)) 9 (.string x.name) (by simp)) hgrow5 (by simp) (by simp)); have hb6 := (unhide HB5).size; have m1 := True.intro; clear hown5 hgrow5)
              | (refine step_append_bound (by rfl) (.tmp 54) (.tmp 55) (by rfl) wr.heap.size (wr.heap.size + 1) (by rfl) (unhide ownC) bv bs (by rfl) (unhide bdC) hbl (unhide hBC).size ?_; intro g1 c1 w5 hown5 hgrow5 hg1; have HB5 := hide (Below.grown (unhide hBC) hgrow5 (unhide hBC).size (fun y hy => by cases hy; exact Nat.le_succ _)); have OWN2 := hide hown5; have X2 := hide (news_far (news_up (news_one wr 9 (.string x.name)) (.cells #[] 9) (by simp)) hgrow5 (by simp; omega) (by simp)); have hb6 := (unhide HB5).size; have m1 := True.intro; clear hown5 hgrow5))
          all_goals
            have HB6' := hide ((unhide hbn).trans ((unhide HB6).mono (unhide hbn).size))
            have HBD6 := hide ((unhide HROW6).bound (by simp))
            have HSO6 := hide ((unhide HSO).below (unhide HB6))
            have HD := hide (unhide IHK w6 _ ov' (unhide HB6') (by rw [unhide hbf]; exact unhide HBD6) (unhide HSO6))
            clear HROW6 HBD6
            go_wp2_with (first
              | (go_at_call 25; refine (unhide HD).mono ?_; rintro e w7 ⟨⟨v7, rfl, hs7⟩, hb7⟩; have HS7 := hide hs7; have HB7 := hide ((unhide HB6').trans (hb7.mono (unhide HB6').size)); have HC7 := hide (unhide HEND w7 (unhide HB7)); clear hs7 hb7)
              | (go_at_call 39; refine (unhide HC7).mono ?_; rintro e w8 ⟨rfl, rfl⟩))
            go_roundw
            case rel => exact ⟨_, r, _, _, _, _, unhide hle', unhide hq', unhide hj', rfl, by go_num, by go_num, HS7, hos', unhide HB7⟩
            case measure => simp [intOf]; omega
        · have hbf := hide (show knownAt x.kind x.name bs j = bs by unfold knownAt; rw [if_neg (by omega)])
          have ej : ((j : Int) == 1) = false := by simp; omega
          clear k22 j1
          rw [← unhide hbf] at hbv
          have HD := hide (unhide IHK wr bv ov' hbel (unhide hbv) (unhide HSO))
          have hbn := hide hbel
          clear hbel
          go_wp2_with (first
            | (go_at_call 25; refine (unhide HD).mono ?_; rintro e w7 ⟨⟨v7, rfl, hs7⟩, hb7⟩; have HS7 := hide hs7; have HB7 := hide ((unhide hbn).trans (hb7.mono (unhide hbn).size)); have HC7 := hide (unhide HEND w7 (unhide HB7)); clear hs7 hb7)
            | (go_at_call 39; refine (unhide HC7).mono ?_; rintro e w8 ⟨rfl, rfl⟩))
          go_roundw
          case rel => exact ⟨_, r, _, _, _, _, unhide hle', unhide hq', unhide hj', rfl, by go_num, by go_num, HS7, hos', unhide HB7⟩
          case measure => simp [intOf]; omega
      · have e22 : (x.kind == 22) = false := by simp [k22]
        by_cases k23 : x.kind = 23
        · rw [k23] at hd0
          by_cases j2 : j = 2
          · have hbf := hide (show knownAt x.kind x.name bs j = bs ++ [x.name] by unfold knownAt; rw [if_pos (.inr ⟨k23, j2⟩)])
            have ej : ((j : Int) == 2) = true := by simp [j2]
            clear k22 k23 j2 e22
            have hbn := hide hbel
            have hnr : nb < wr.heap.size := Nat.lt_of_lt_of_le hnb hbel.size
            have hcn : wr.cell? ⟨nb, 2, none⟩ = some (.string x.name) := (hbel.cell (p := ⟨nb, 2, none⟩) hnb).trans d2
            have hbvr := (unhide hbv)
            have bA := Below.alloc (Below.refl wr.heap.size wr) (Nat.le_refl _) (.cells #[] 9)
            have bB := bA.alloc bA.size (.cells #[.string x.name] 9)
            have bC0 := Below.alloc (Below.refl wr.heap.size wr) (Nat.le_refl _) (.cells #[.string x.name] 9)
            have bC := bC0.alloc bC0.size (.cells #[] 9)
            have ownA : Hid ((wr.alloc (.cells #[] 9)).drew.ownsRow wr.heap.size 9 1 (.slice (some ⟨wr.heap.size, 0, none⟩) 0 0) 0 []) := hide (empty_row _ _ rfl (Nat.le_refl _))
            have ownB : Hid (((wr.alloc (.cells #[] 9)).alloc (.cells #[.string x.name] 9)).drew.ownsRow wr.heap.size 9 1 (.slice (some ⟨wr.heap.size, 0, none⟩) 0 0) 0 []) := hide (ownsRow_up (empty_row wr.heap.size wr rfl (Nat.le_refl _)) (Below.drew (Below.alloc (Below.refl _ _) (Nat.le_refl _) _)))
            have ownC : Hid (((wr.alloc (.cells #[.string x.name] 9)).alloc (.cells #[] 9)).drew.ownsRow wr.heap.size 9 1 (.slice (some ⟨wr.heap.size + 1, 0, none⟩) 0 0) 0 []) := hide (empty_row _ (wr.alloc (.cells #[.string x.name] 9)) (by simp) (by simp))
            have bdA : Hid (BoundAt (wr.alloc (.cells #[] 9)).drew bv bs) := hide (hbvr.below bA.drew)
            have bdB : Hid (BoundAt ((wr.alloc (.cells #[] 9)).alloc (.cells #[.string x.name] 9)).drew bv bs) := hide (hbvr.below bB.drew)
            have bdC : Hid (BoundAt ((wr.alloc (.cells #[.string x.name] 9)).alloc (.cells #[] 9)).drew bv bs) := hide (hbvr.below bC.drew)
            have h63 : bs.length + 1 ≤ maxLen := by unfold maxLen; omega
            have hby6 : (bs.length + 1) * 16 ≤ 140737488355328 := by omega
            have hBA := hide bA.drew
            have hBB := hide bB.drew
            have hBC := hide bC.drew
            have hBC0 := hide bC0.drew
            have KEEP : ∀ w', Below wr.heap.size wr w' → w'.cell? ⟨nb, 2, none⟩ = some (.string x.name) ∧ Below wr.heap.size wr w' := fun w' h => ⟨(h.cell (by exact hnr)).trans hcn, h⟩
            clear hbel bA bB bC0 bC hbvr
            go_wp2_with fail
            go_region_held3 (fun w' => w'.cell? ⟨nb, 2, none⟩ = some (.string x.name) ∧ Below wr.heap.size wr w') ((refine KEEP _ ?_; first | assumption | exact below_dn (Below.refl _ _) 1 | exact unhide (by assumption) | exact Below.drew (unhide (by assumption))))
              (first
                | (have := m1; refine step_append_lies _ (by rfl) (.tmp 56) (.tmp 59) 22 (by rfl) wr.heap.size 9 i0 _ 1 16 Tryz.underlying22 hi hz0 hz1 hz2 rfl Nat.one_pos (.slice (some ⟨g1, 0, none⟩) bs.length c1) bs.length (bs.map .string) (by first | rfl | simp [Act.eval]) (unhide OWN2) ⟨_, 0, none⟩ 1 1 [.string x.name] (by rfl) rfl (unhide X2) (one_str x.name) Nat.one_pos h63 hby6 hb6 _ rfl ?_; intro g2 c2 w6 hown6 hgrow6 hor6 hlt6; clear hor6; have HROW6 := hide (show StrRow wr.heap.size w6 (.slice (some ⟨g2, 0, none⟩) (bs.length + 1) c2) (bs ++ [x.name]) by unfold StrRow; simpa using hown6); have HB6 := hide (Below.grown (unhide HB5) hgrow6 (unhide HB5).size (ownBlock_ge (unhide OWN2))); clear hown6 hgrow6)
                | (refine step_append_bound (by rfl) (.tmp 54) (.tmp 55) (by rfl) wr.heap.size wr.heap.size (by rfl) (unhide ownA) bv bs (by rfl) (unhide bdA) hbl (unhide hBA).size ?_; intro g1 c1 w5 hown5 hgrow5 hg1; have HB50 := hide (Below.grown (unhide hBA) hgrow5 (unhide hBA).size (fun y hy => by cases hy; exact Nat.le_refl _)); have OWN2 := hide (ownsRow_up hown5 (Below.alloc (Below.refl w5.heap.size w5) (Nat.le_refl _) (.cells #[.string x.name] 9))); have X2 := hide (show NewsAt _ _ _ from news_one w5 9 (.string x.name)); have HB5 := hide ((unhide HB50).alloc (unhide HB50).size (.cells #[.string x.name] 9)); have hb6 := (unhide HB5).size; have m1 := True.intro; clear hown5 hgrow5)
                | (refine step_append_bound (by rfl) (.tmp 54) (.tmp 55) (by rfl) wr.heap.size wr.heap.size (by rfl) (unhide ownB) bv bs (by rfl) (unhide bdB) hbl (unhide hBB).size ?_; intro g1 c1 w5 hown5 hgrow5 hg1; have HB5 := hide (Below.grown (unhide hBB) hgrow5 (unhide hBB).size (fun y hy => by cases hy; exact Nat.le_refl _)); have OWN2 := hide hown5; have X2 := hide (news_far (news_at (wr.heap.size + 1) (wr.alloc (.cells #[] 9)) 9 (.string x.name) (by simp)) hgrow5 (by simp) (by simp)); have hb6 := (unhide HB5).size; have m1 := True.intro; clear hown5 hgrow5)
                | (refine step_append_bound (by rfl) (.tmp 54) (.tmp 55) (by rfl) wr.heap.size (wr.heap.size + 1) (by rfl) (unhide ownC) bv bs (by rfl) (unhide bdC) hbl (unhide hBC).size ?_; intro g1 c1 w5 hown5 hgrow5 hg1; have HB5 := hide (Below.grown (unhide hBC) hgrow5 (unhide hBC).size (fun y hy => by cases hy; exact Nat.le_succ _)); have OWN2 := hide hown5; have X2 := hide (news_far (news_up (news_one wr 9 (.string x.name)) (.cells #[] 9) (by simp)) hgrow5 (by simp; omega) (by simp)); have hb6 := (unhide HB5).size; have m1 := True.intro; clear hown5 hgrow5))
            all_goals
              have HB6' := hide ((unhide hbn).trans ((unhide HB6).mono (unhide hbn).size))
              have HBD6 := hide ((unhide HROW6).bound (by simp))
              have HSO6 := hide ((unhide HSO).below (unhide HB6))
              have HD := hide (unhide IHK w6 _ ov' (unhide HB6') (by rw [unhide hbf]; exact unhide HBD6) (unhide HSO6))
              clear HROW6 HBD6
              go_wp2_with (first
                | (go_at_call 25; refine (unhide HD).mono ?_; rintro e w7 ⟨⟨v7, rfl, hs7⟩, hb7⟩; have HS7 := hide hs7; have HB7 := hide ((unhide HB6').trans (hb7.mono (unhide HB6').size)); have HC7 := hide (unhide HEND w7 (unhide HB7)); clear hs7 hb7)
                | (go_at_call 39; refine (unhide HC7).mono ?_; rintro e w8 ⟨rfl, rfl⟩))
              go_roundw
              case rel => exact ⟨_, r, _, _, _, _, unhide hle', unhide hq', unhide hj', rfl, by go_num, by go_num, HS7, hos', unhide HB7⟩
              case measure => simp [intOf]; omega
          · have hbf := hide (show knownAt x.kind x.name bs j = bs by unfold knownAt; rw [if_neg (by omega)])
            have ej : ((j : Int) == 2) = false := by simp; omega
            clear k22 k23 j2 e22
            rw [← unhide hbf] at hbv
            have HD := hide (unhide IHK wr bv ov' hbel (unhide hbv) (unhide HSO))
            have hbn := hide hbel
            clear hbel
            go_wp2_with (first
              | (go_at_call 25; refine (unhide HD).mono ?_; rintro e w7 ⟨⟨v7, rfl, hs7⟩, hb7⟩; have HS7 := hide hs7; have HB7 := hide ((unhide hbn).trans (hb7.mono (unhide hbn).size)); have HC7 := hide (unhide HEND w7 (unhide HB7)); clear hs7 hb7)
              | (go_at_call 39; refine (unhide HC7).mono ?_; rintro e w8 ⟨rfl, rfl⟩))
            go_roundw
            case rel => exact ⟨_, r, _, _, _, _, unhide hle', unhide hq', unhide hj', rfl, by go_num, by go_num, HS7, hos', unhide HB7⟩
            case measure => simp [intOf]; omega
        · have e23 : (x.kind == 23) = false := by simp [k23]
          have hbf := hide (show knownAt x.kind x.name bs j = bs by unfold knownAt; rw [if_neg (by omega)])
          clear k22 k23
          rw [← unhide hbf] at hbv
          have HD := hide (unhide IHK wr bv ov' hbel (unhide hbv) (unhide HSO))
          have hbn := hide hbel
          clear hbel
          go_wp2_with (first
            | (go_at_call 25; refine (unhide HD).mono ?_; rintro e w7 ⟨⟨v7, rfl, hs7⟩, hb7⟩; have HS7 := hide hs7; have HB7 := hide ((unhide hbn).trans (hb7.mono (unhide hbn).size)); have HC7 := hide (unhide HEND w7 (unhide HB7)); clear hs7 hb7)
            | (go_at_call 39; refine (unhide HC7).mono ?_; rintro e w8 ⟨rfl, rfl⟩))
          go_roundw
          case rel => exact ⟨_, r, _, _, _, _, unhide hle', unhide hq', unhide hj', rfl, by go_num, by go_num, HS7, hos', unhide HB7⟩
          case measure => simp [intOf]; omega

theorem l2Free_all (f : BT NodeV) : kok f → ∀ y m, InF y m f → FreeSaid y m := by
  induction f with
  | nil => intro _ y m h; exact h.elim
  | node b o x l r ihl ihr =>
    intro hk y m h
    rcases h with ⟨rfl, rfl⟩ | h
    · by_cases h2 : y.kind = 2
      · exact l2Free_name y m h2
      · exact l2Free_one y m hk.1 hk.2.1 h2 (ihl hk.2.1)
    · exact ihr hk.2.2 y m h
theorem l2Free_any (x : NodeV) (l : BT NodeV) (hx : x.kids = cnt l) (hl : kok l) : FreeSaid x l := by
  by_cases h2 : x.kind = 2
  · exact l2Free_name x l h2
  · exact l2Free_one x l hx hl h2 (l2Free_all l hl)

/-- the names that the tree asks for, rising, each once; nothing where there is no tree -/
def RetFree (ns : List NodeV) (e : Ending) (w' : World) : Prop := (∃ x l, OkAt ns x l ∧ RetStrs ((freeT x l []).foldl addS []) e w') ∨ (¬ OkTree ns ∧ e = .returned (.slice none 0 0))

set_option maxHeartbeats 800000 in
theorem specFree_any (w : World) (b off cap : Nat) (ns : List NodeV) (hl : ns.length ≤ 1048576) (hc : NodesAt w b off ns) (hb : b < w.heap.size) (hs : NamesOk ns) :
    Calls Tryz.prog 15 #[.slice (some ⟨b, off, none⟩) ns.length cap] w fun e w' => RetFree ns e w' ∧ Below w.heap.size w w' := by
  have HC := hide hc
  clear hc
  go_enter Tryz.func15, Tryz.ntmps15
  go_wp2_with fail
  refine (specOk_any w b off cap ns hl (unhide HC) hb hs).mono ?_
  rintro e w1 ⟨⟨r, rfl, hr⟩, hb1⟩
  cases r with
  | true =>
    obtain ⟨x, l, hok⟩ := hr.1 rfl
    have HK := hide hok
    have hln : (fl l).length + 1 ≤ 400 := by
      have h1 := hok.size
      rw [hok.eq] at h1
      simpa using h1
    have hdp := hok.deep
    have HS := hide (l2Free_any x l hok.kids hok.kok w1 b off cap ns 0 (.slice none 0 0) [] (.slice none 0 0) [] hok.stands ((unhide HC).below hb1 hb) (Nat.lt_of_lt_of_le hb hb1.size) ⟨hok.size, hok.own⟩ (.inl ⟨rfl, rfl⟩) (by simp; omega) (StrAt.nil _) (by simp; omega))
    clear hr hok
    go_wp2_with (first
      | (go_at_call 25; refine (unhide HS).mono ?_; rintro e w2 ⟨⟨v2, rfl, hs2⟩, hb2⟩; have HS2 := hide hs2; clear hs2))
    go_ret
    exact ⟨.inl ⟨x, l, unhide HK, _, rfl, unhide HS2⟩, hb1.trans (hb2.mono hb1.size)⟩
  | false =>
    have hf := hide (show ¬ OkTree ns from fun h => Bool.noConfusion (hr.2 h))
    clear hr
    go_wp2_with fail
    go_ret
    exact ⟨.inr ⟨unhide hf, rfl⟩, hb1⟩

end Go.Proofs.YtldgffkippejiaaGreatDoor
