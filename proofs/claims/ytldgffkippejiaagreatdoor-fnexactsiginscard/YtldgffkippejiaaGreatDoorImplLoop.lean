/-
  The names that stand free in a form: the forms whose kids all know the same names.
-/
import Derived.Test.YtldgffkippejiaaGreatDoorImplFree
set_option linter.unusedVariables false
namespace Go.Proofs.YtldgffkippejiaaGreatDoor
open Go.RowKit Go.Maps Go.Deep

/-- the parts of a form, and where their row lies -/
def RetRowN (ws : List Value) (Q : Nat → Prop) (e : Ending) (w' : World) : Prop :=
  ∃ a n cap, e = .returned (.slice a n cap) ∧ Hid (n = ws.length) ∧ Hid (ws = [] ∨ ∃ g, a = some ⟨g, 0, none⟩ ∧ g < w'.heap.size ∧ RowAt w' g ws ∧ Q g)
theorem partsN_num (t : Int) (w : World) : Calls Tryz.prog 197 #[.agg #[.int .i64 t]] w fun e w' => RetRowN [] (fun g => w.heap.size ≤ g) e w' ∧ Below w.heap.size w w' := by
  go_enter Tryz.func197, Tryz.ntmps197
  go_wp2
  go_ret
  exact ⟨⟨none, 0, 0, rfl, rfl, .inl rfl⟩, (Below.refl _ _).alloc (Nat.le_refl _) _⟩
theorem partsN_ahead (k : Int) (t0 : TypeId) (u0 : Value) (w : World) : Calls Tryz.prog 199 #[.agg #[.int .i64 k, .iface t0 u0]] w fun e w' => RetRowN [.iface t0 u0] (fun g => w.heap.size ≤ g) e w' ∧ Below w.heap.size w w' := by
  go_enter Tryz.func199, Tryz.ntmps199
  go_wp2
  go_ret
  exact ⟨⟨_, _, _, rfl, rfl, .inr ⟨_, rfl, by simp, rowAt_one _ _ _ _ (by simp), by simp⟩⟩, ((Below.refl _ _).alloc (Nat.le_refl _) _).alloc (by simp) _⟩
theorem partsN_sign (k : Int) (t0 t1 : TypeId) (u0 u1 : Value) (w : World) : Calls Tryz.prog 205 #[.agg #[.int .i64 k, .iface t0 u0, .iface t1 u1]] w fun e w' => RetRowN [.iface t0 u0, .iface t1 u1] (fun g => w.heap.size ≤ g) e w' ∧ Below w.heap.size w w' := by
  go_enter Tryz.func205, Tryz.ntmps205
  go_wp2
  go_ret
  exact ⟨⟨_, _, _, rfl, rfl, .inr ⟨_, rfl, by simp, rowAt_two _ _ _ _ _ (by simp), by simp⟩⟩, ((Below.refl _ _).alloc (Nat.le_refl _) _).alloc (by simp) _⟩
theorem partsN_if (t0 t1 t2 : TypeId) (u0 u1 u2 : Value) (w : World) : Calls Tryz.prog 203 #[.agg #[.iface t0 u0, .iface t1 u1, .iface t2 u2]] w fun e w' => RetRowN [.iface t0 u0, .iface t1 u1, .iface t2 u2] (fun g => w.heap.size ≤ g) e w' ∧ Below w.heap.size w w' := by
  go_enter Tryz.func203, Tryz.ntmps203
  go_wp2
  go_ret
  exact ⟨⟨_, _, _, rfl, rfl, .inr ⟨_, rfl, by simp, rowAt_three _ _ _ _ _ _ (by simp), by simp⟩⟩, ((Below.refl _ _).alloc (Nat.le_refl _) _).alloc (by simp) _⟩
theorem partsN_call (k : Int) (g cap : Nat) (ws : List Value) (w : World) (hg : g < w.heap.size) (hr : RowAt w g ws) (H : Nat) (hH : g < H) : Calls Tryz.prog 201 #[.agg #[.int .i64 k, .slice (some ⟨g, 0, none⟩) ws.length cap]] w fun e w' => RetRowN ws (fun g => g < H) e w' ∧ Below w.heap.size w w' := by
  have HR := hide hr
  clear hr
  go_enter Tryz.func201, Tryz.ntmps201
  go_wp2
  go_ret
  exact ⟨⟨_, _, _, rfl, rfl, .inr ⟨g, rfl, by simp; omega, (unhide HR).agree (B := 0) (Agree.of_below ((Below.refl w.heap.size w).alloc (Nat.le_refl _) _)) (Nat.zero_le _) hg, hH⟩⟩, (Below.refl _ _).alloc (Nat.le_refl _) _⟩
theorem known_same (k : Int) (nm : ByteArray) (bs : List ByteArray) (h2 : k ≠ 22) (h3 : k ≠ 23) : knownAt k nm bs = fun _ => bs := by
  funext i
  unfold knownAt
  rw [if_neg (by omega)]

set_option maxRecDepth 100000 in
set_option maxHeartbeats 3200000 in
theorem free_num (x : NodeV) (l : BT NodeV) (hkd : x.kind ≠ 2 ∧ x.kind ≠ 22 ∧ x.kind ≠ 23) (ih : ∀ y m, InF y m l → FreeF y m) (W0 w : World) (B : Nat) (t : Int) (kv : Value) (bs : List ByteArray) (nv : Value) (us : List ByteArray) (hfs : FormsAre B W0 l []) (hb : Below W0.heap.size W0 w) (hkn : BoundAt w kv bs) (ha : Away kv nv) (hrow : StrRow W0.heap.size w nv us) (hbl : bs.length + dp l ≤ 800) (hul : us.length + (fl l).length + 1 ≤ 100000) :
    Calls Tryz.prog 64 #[nv, .iface 167 (.agg #[.int .i64 t]), kv] w fun e w' => ∃ nv', e = .returned nv' ∧ Hid (StrRow W0.heap.size w' nv' (us ++ freeT x l bs) ∧ Grows w w' nv nv') := by
  have hft : freeT x l bs = freeF l (fun _ => bs) 0 := by unfold freeT; rw [if_neg hkd.1, known_same _ _ _ hkd.2.1 hkd.2.2]
  rw [hft]
  have HCL := hide hfs.length
  have hcl : cnt l ≤ 100000 := by have := cnt_le l; omega
  have IH := hide ih
  have HF := hide hfs
  have HB := hide hb
  have HKN := hide hkn
  have HA := hide ha
  have HROW := hide hrow
  have HNB := hide (ownBlock_ge hrow)
  have HNL := hide hrow.lt
  have HLN := hide (fun (d : BT NodeV) => freeF_len d (fun _ => bs) 0)
  have g1 := af_name_num
  have g2 := af_let_num
  have g3 := af_rep_num
  clear hft ih hfs hb hkn ha hrow hkd
  go_enter Tryz.func64, Tryz.ntmps64
  go_wp2_with fail
  refine (partsN_num _ _).mono ?_
  rintro e w1 ⟨⟨a1, n1, cap1, rfl, hn1, HR⟩, hb1⟩
  obtain ⟨ws, hws⟩ : ∃ u : List Value, u = [] := ⟨_, rfl⟩
  replace HF : Hid (FormsAre B W0 l ws) := by rw [hws]; exact HF
  replace HCL : Hid (ws.length = cnt l) := by rw [hws]; exact HCL
  replace hn1 : Hid (n1 = ws.length) := by rw [hws]; exact hn1
  replace HR : Hid (ws = [] ∨ ∃ g, a1 = some ⟨g, 0, none⟩ ∧ g < w1.heap.size ∧ RowAt w1 g ws ∧ w.heap.size ≤ g) := .inl hws
  clear hws
  have hnl : n1 = cnt l := (unhide hn1).trans (unhide HCL)
  subst hnl
  have HB1 := hide hb1
  have hz1 := hb1.size
  have HBW := hide ((unhide HB).trans (hb1.mono (unhide HB).size))
  have hw0 := (unhide HB).size
  clear hb1
  go_wp2_with fail
  go_loopw [0, 70] (fun nm i wr => ∃ (done todo : BT NodeV) (j : Nat) (nvj : Value), Hid (l = app done todo) ∧ Hid (j = cnt done) ∧ i = .int .i64 j ∧ nvj = nm ∧ Hid (StrRow W0.heap.size wr nvj (us ++ freeF done (fun _ => bs) 0)) ∧ Hid (Grows w1 wr nv nvj)) (fun _ i _ => cnt l - (intOf i).toNat)
  case atStart => exact ⟨.nil, l, 0, nv, rfl, rfl, rfl, rfl, hide (show StrRow W0.heap.size w1 nv (us ++ []) by rw [List.append_nil]; exact ownsRow_up (unhide HROW) (unhide HB1)), hide (Grows.refl _ _)⟩
  case round =>
    obtain ⟨done, todo, j, nvj, hle, hj, rfl, rfl, HRr, HGr⟩ := hrel
    cases todo with
    | nil =>
      have he := unhide hle
      rw [app_nil] at he
      have hz : ¬ (j : Int) < (cnt l : Int) := by rw [unhide hj, he]; omega
      have HPP := hide (show StrRow W0.heap.size wr nvj (us ++ freeF l (fun _ => bs) 0) ∧ Grows w wr nv nvj from ⟨by rw [he]; exact unhide HRr, (Grows.of_below (unhide HB1)).trans (unhide HGr)⟩)
      clear he
      go_wp2_with fail
      go_ret
      exact ⟨_, rfl, HPP⟩
    | node b' o' y m r =>
      obtain ⟨hjl, ty, uy, wy, hv, hfm, hny⟩ := (show FormsAre B W0 (app done (.node b' o' y m r)) ws by rw [← unhide hle]; exact unhide HF).next
      have hjc : (j : Int) < (cnt l : Int) := by rw [unhide hj, ← unhide HCL]; omega
      obtain ⟨g1', ha1, hg1, hrow1, hQ⟩ : ∃ g, a1 = some ⟨g, 0, none⟩ ∧ g < w1.heap.size ∧ RowAt w1 g ws ∧ w.heap.size ≤ g := by
        rcases unhide HR with h | h
        · subst h; simp at hjl
        · exact h
      subst ha1
      have hcell : wr.cell? ⟨g1', j, none⟩ = some (.iface ty uy) := by
        rw [(unhide HGr).cell hg1 (fun e => by
          have h1 := unhide HNB _ e
          have h2 := unhide HNL _ e
          omega), unhide hj, hrow1 _ hjl, hv]
      have hfl : (fl done).length + (fl m).length + 1 ≤ (fl l).length := by rw [unhide hle, fl_app]; simp only [fl, List.length_append, List.length_cons]; omega
      have hfd : (freeF done (fun _ => bs) 0).length ≤ (fl done).length := unhide HLN done
      have hdp : dp m + 1 ≤ dp l := by rw [unhide hle, dp_app]; simp only [dp]; omega
      have HD := hide (unhide IH y m (by rw [unhide hle]; exact inF_app y m done b' o' r) W0 wr B _ wy kv bs nvj _ hfm hny ((unhide HGr).below (unhide HBW) (unhide HNB)) (((unhide HKN).below (unhide HB1)).grows (unhide HA) (unhide HGr)) (Away.grows ((unhide HKN).below (unhide HB1)) (unhide HA) (unhide HGr)) (unhide HRr) (by omega) (by simp only [List.length_append]; omega))
      have hle' := hide ((unhide hle).trans (app_snoc done b' o' y m r))
      have hj' := hide (show j + 1 = cnt (app done (.node b' o' y m .nil)) by rw [unhide hj, cnt_app]; rfl)
      clear hfm hny hrow1 hjl hv
      go_wp2_with (first
        | (go_at_call 64; refine (unhide HD).mono ?_; rintro e w2 ⟨nv2, rfl, HP2⟩))
      have HR2 := hide (show StrRow W0.heap.size w2 nv2 (us ++ freeF (app done (.node b' o' y m .nil)) (fun _ => bs) 0) by rw [freeF_snoc, ← List.append_assoc]; exact (unhide HP2).1)
      have HG2 := hide ((unhide HGr).trans (unhide HP2).2)
      clear HP2 HD
      go_roundw
      case rel => exact ⟨_, r, _, _, hle', hj', by go_num, rfl, HR2, HG2⟩
      case measure => simp [intOf]; omega

set_option maxRecDepth 100000 in
set_option maxHeartbeats 3200000 in
theorem free_ahead (x : NodeV) (l : BT NodeV) (hkd : x.kind ≠ 2 ∧ x.kind ≠ 22 ∧ x.kind ≠ 23) (ih : ∀ y m, InF y m l → FreeF y m) (W0 w : World) (B : Nat) (k : Int) (a : Value) (kv : Value) (bs : List ByteArray) (nv : Value) (us : List ByteArray) (hfs : FormsAre B W0 l [a]) (hb : Below W0.heap.size W0 w) (hkn : BoundAt w kv bs) (ha : Away kv nv) (hrow : StrRow W0.heap.size w nv us) (hbl : bs.length + dp l ≤ 800) (hul : us.length + (fl l).length + 1 ≤ 100000) :
    Calls Tryz.prog 64 #[nv, .iface 169 (.agg #[.int .i64 k, a]), kv] w fun e w' => ∃ nv', e = .returned nv' ∧ Hid (StrRow W0.heap.size w' nv' (us ++ freeT x l bs) ∧ Grows w w' nv nv') := by
  have hft : freeT x l bs = freeF l (fun _ => bs) 0 := by unfold freeT; rw [if_neg hkd.1, known_same _ _ _ hkd.2.1 hkd.2.2]
  rw [hft]
  have HCL := hide hfs.length
  have hcl : cnt l ≤ 100000 := by have := cnt_le l; omega
  have IH := hide ih
  have HF := hide hfs
  have HB := hide hb
  have HKN := hide hkn
  have HA := hide ha
  have HROW := hide hrow
  have HNB := hide (ownBlock_ge hrow)
  have HNL := hide hrow.lt
  have HLN := hide (fun (d : BT NodeV) => freeF_len d (fun _ => bs) 0)
  obtain ⟨t0, u0, rfl⟩ := (unhide HF).iface a (by simp)
  have g1 := af_name_ahead
  have g2 := af_let_ahead
  have g3 := af_rep_ahead
  clear hft ih hfs hb hkn ha hrow hkd
  go_enter Tryz.func64, Tryz.ntmps64
  go_wp2_with fail
  refine (partsN_ahead _ _ _ _).mono ?_
  rintro e w1 ⟨⟨a1, n1, cap1, rfl, hn1, HR⟩, hb1⟩
  generalize hws : ([.iface t0 u0] : List Value) = ws at HF HR HCL hn1
  clear hws
  have hnl : n1 = cnt l := (unhide hn1).trans (unhide HCL)
  subst hnl
  have HB1 := hide hb1
  have hz1 := hb1.size
  have HBW := hide ((unhide HB).trans (hb1.mono (unhide HB).size))
  have hw0 := (unhide HB).size
  clear hb1
  go_wp2_with fail
  go_loopw [0, 70] (fun nm i wr => ∃ (done todo : BT NodeV) (j : Nat) (nvj : Value), Hid (l = app done todo) ∧ Hid (j = cnt done) ∧ i = .int .i64 j ∧ nvj = nm ∧ Hid (StrRow W0.heap.size wr nvj (us ++ freeF done (fun _ => bs) 0)) ∧ Hid (Grows w1 wr nv nvj)) (fun _ i _ => cnt l - (intOf i).toNat)
  case atStart => exact ⟨.nil, l, 0, nv, rfl, rfl, rfl, rfl, hide (show StrRow W0.heap.size w1 nv (us ++ []) by rw [List.append_nil]; exact ownsRow_up (unhide HROW) (unhide HB1)), hide (Grows.refl _ _)⟩
  case round =>
    obtain ⟨done, todo, j, nvj, hle, hj, rfl, rfl, HRr, HGr⟩ := hrel
    cases todo with
    | nil =>
      have he := unhide hle
      rw [app_nil] at he
      have hz : ¬ (j : Int) < (cnt l : Int) := by rw [unhide hj, he]; omega
      have HPP := hide (show StrRow W0.heap.size wr nvj (us ++ freeF l (fun _ => bs) 0) ∧ Grows w wr nv nvj from ⟨by rw [he]; exact unhide HRr, (Grows.of_below (unhide HB1)).trans (unhide HGr)⟩)
      clear he
      go_wp2_with fail
      go_ret
      exact ⟨_, rfl, HPP⟩
    | node b' o' y m r =>
      obtain ⟨hjl, ty, uy, wy, hv, hfm, hny⟩ := (show FormsAre B W0 (app done (.node b' o' y m r)) ws by rw [← unhide hle]; exact unhide HF).next
      have hjc : (j : Int) < (cnt l : Int) := by rw [unhide hj, ← unhide HCL]; omega
      obtain ⟨g1', ha1, hg1, hrow1, hQ⟩ : ∃ g, a1 = some ⟨g, 0, none⟩ ∧ g < w1.heap.size ∧ RowAt w1 g ws ∧ w.heap.size ≤ g := by
        rcases unhide HR with h | h
        · subst h; simp at hjl
        · exact h
      subst ha1
      have hcell : wr.cell? ⟨g1', j, none⟩ = some (.iface ty uy) := by
        rw [(unhide HGr).cell hg1 (fun e => by
          have h1 := unhide HNB _ e
          have h2 := unhide HNL _ e
          omega), unhide hj, hrow1 _ hjl, hv]
      have hfl : (fl done).length + (fl m).length + 1 ≤ (fl l).length := by rw [unhide hle, fl_app]; simp only [fl, List.length_append, List.length_cons]; omega
      have hfd : (freeF done (fun _ => bs) 0).length ≤ (fl done).length := unhide HLN done
      have hdp : dp m + 1 ≤ dp l := by rw [unhide hle, dp_app]; simp only [dp]; omega
      have HD := hide (unhide IH y m (by rw [unhide hle]; exact inF_app y m done b' o' r) W0 wr B _ wy kv bs nvj _ hfm hny ((unhide HGr).below (unhide HBW) (unhide HNB)) (((unhide HKN).below (unhide HB1)).grows (unhide HA) (unhide HGr)) (Away.grows ((unhide HKN).below (unhide HB1)) (unhide HA) (unhide HGr)) (unhide HRr) (by omega) (by simp only [List.length_append]; omega))
      have hle' := hide ((unhide hle).trans (app_snoc done b' o' y m r))
      have hj' := hide (show j + 1 = cnt (app done (.node b' o' y m .nil)) by rw [unhide hj, cnt_app]; rfl)
      clear hfm hny hrow1 hjl hv
      go_wp2_with (first
        | (go_at_call 64; refine (unhide HD).mono ?_; rintro e w2 ⟨nv2, rfl, HP2⟩))
      have HR2 := hide (show StrRow W0.heap.size w2 nv2 (us ++ freeF (app done (.node b' o' y m .nil)) (fun _ => bs) 0) by rw [freeF_snoc, ← List.append_assoc]; exact (unhide HP2).1)
      have HG2 := hide ((unhide HGr).trans (unhide HP2).2)
      clear HP2 HD
      go_roundw
      case rel => exact ⟨_, r, _, _, hle', hj', by go_num, rfl, HR2, HG2⟩
      case measure => simp [intOf]; omega

set_option maxRecDepth 100000 in
set_option maxHeartbeats 3200000 in
theorem free_sign (x : NodeV) (l : BT NodeV) (hkd : x.kind ≠ 2 ∧ x.kind ≠ 22 ∧ x.kind ≠ 23) (ih : ∀ y m, InF y m l → FreeF y m) (W0 w : World) (B : Nat) (k : Int) (a b : Value) (kv : Value) (bs : List ByteArray) (nv : Value) (us : List ByteArray) (hfs : FormsAre B W0 l [a, b]) (hb : Below W0.heap.size W0 w) (hkn : BoundAt w kv bs) (ha : Away kv nv) (hrow : StrRow W0.heap.size w nv us) (hbl : bs.length + dp l ≤ 800) (hul : us.length + (fl l).length + 1 ≤ 100000) :
    Calls Tryz.prog 64 #[nv, .iface 175 (.agg #[.int .i64 k, a, b]), kv] w fun e w' => ∃ nv', e = .returned nv' ∧ Hid (StrRow W0.heap.size w' nv' (us ++ freeT x l bs) ∧ Grows w w' nv nv') := by
  have hft : freeT x l bs = freeF l (fun _ => bs) 0 := by unfold freeT; rw [if_neg hkd.1, known_same _ _ _ hkd.2.1 hkd.2.2]
  rw [hft]
  have HCL := hide hfs.length
  have hcl : cnt l ≤ 100000 := by have := cnt_le l; omega
  have IH := hide ih
  have HF := hide hfs
  have HB := hide hb
  have HKN := hide hkn
  have HA := hide ha
  have HROW := hide hrow
  have HNB := hide (ownBlock_ge hrow)
  have HNL := hide hrow.lt
  have HLN := hide (fun (d : BT NodeV) => freeF_len d (fun _ => bs) 0)
  obtain ⟨t0, u0, rfl⟩ := (unhide HF).iface a (by simp)
  obtain ⟨t1, u1, rfl⟩ := (unhide HF).iface b (by simp)
  have g1 := af_name_sign
  have g2 := af_let_sign
  have g3 := af_rep_sign
  clear hft ih hfs hb hkn ha hrow hkd
  go_enter Tryz.func64, Tryz.ntmps64
  go_wp2_with fail
  refine (partsN_sign _ _ _ _ _ _).mono ?_
  rintro e w1 ⟨⟨a1, n1, cap1, rfl, hn1, HR⟩, hb1⟩
  generalize hws : ([.iface t0 u0, .iface t1 u1] : List Value) = ws at HF HR HCL hn1
  clear hws
  have hnl : n1 = cnt l := (unhide hn1).trans (unhide HCL)
  subst hnl
  have HB1 := hide hb1
  have hz1 := hb1.size
  have HBW := hide ((unhide HB).trans (hb1.mono (unhide HB).size))
  have hw0 := (unhide HB).size
  clear hb1
  go_wp2_with fail
  go_loopw [0, 70] (fun nm i wr => ∃ (done todo : BT NodeV) (j : Nat) (nvj : Value), Hid (l = app done todo) ∧ Hid (j = cnt done) ∧ i = .int .i64 j ∧ nvj = nm ∧ Hid (StrRow W0.heap.size wr nvj (us ++ freeF done (fun _ => bs) 0)) ∧ Hid (Grows w1 wr nv nvj)) (fun _ i _ => cnt l - (intOf i).toNat)
  case atStart => exact ⟨.nil, l, 0, nv, rfl, rfl, rfl, rfl, hide (show StrRow W0.heap.size w1 nv (us ++ []) by rw [List.append_nil]; exact ownsRow_up (unhide HROW) (unhide HB1)), hide (Grows.refl _ _)⟩
  case round =>
    obtain ⟨done, todo, j, nvj, hle, hj, rfl, rfl, HRr, HGr⟩ := hrel
    cases todo with
    | nil =>
      have he := unhide hle
      rw [app_nil] at he
      have hz : ¬ (j : Int) < (cnt l : Int) := by rw [unhide hj, he]; omega
      have HPP := hide (show StrRow W0.heap.size wr nvj (us ++ freeF l (fun _ => bs) 0) ∧ Grows w wr nv nvj from ⟨by rw [he]; exact unhide HRr, (Grows.of_below (unhide HB1)).trans (unhide HGr)⟩)
      clear he
      go_wp2_with fail
      go_ret
      exact ⟨_, rfl, HPP⟩
    | node b' o' y m r =>
      obtain ⟨hjl, ty, uy, wy, hv, hfm, hny⟩ := (show FormsAre B W0 (app done (.node b' o' y m r)) ws by rw [← unhide hle]; exact unhide HF).next
      have hjc : (j : Int) < (cnt l : Int) := by rw [unhide hj, ← unhide HCL]; omega
      obtain ⟨g1', ha1, hg1, hrow1, hQ⟩ : ∃ g, a1 = some ⟨g, 0, none⟩ ∧ g < w1.heap.size ∧ RowAt w1 g ws ∧ w.heap.size ≤ g := by
        rcases unhide HR with h | h
        · subst h; simp at hjl
        · exact h
      subst ha1
      have hcell : wr.cell? ⟨g1', j, none⟩ = some (.iface ty uy) := by
        rw [(unhide HGr).cell hg1 (fun e => by
          have h1 := unhide HNB _ e
          have h2 := unhide HNL _ e
          omega), unhide hj, hrow1 _ hjl, hv]
      have hfl : (fl done).length + (fl m).length + 1 ≤ (fl l).length := by rw [unhide hle, fl_app]; simp only [fl, List.length_append, List.length_cons]; omega
      have hfd : (freeF done (fun _ => bs) 0).length ≤ (fl done).length := unhide HLN done
      have hdp : dp m + 1 ≤ dp l := by rw [unhide hle, dp_app]; simp only [dp]; omega
      have HD := hide (unhide IH y m (by rw [unhide hle]; exact inF_app y m done b' o' r) W0 wr B _ wy kv bs nvj _ hfm hny ((unhide HGr).below (unhide HBW) (unhide HNB)) (((unhide HKN).below (unhide HB1)).grows (unhide HA) (unhide HGr)) (Away.grows ((unhide HKN).below (unhide HB1)) (unhide HA) (unhide HGr)) (unhide HRr) (by omega) (by simp only [List.length_append]; omega))
      have hle' := hide ((unhide hle).trans (app_snoc done b' o' y m r))
      have hj' := hide (show j + 1 = cnt (app done (.node b' o' y m .nil)) by rw [unhide hj, cnt_app]; rfl)
      clear hfm hny hrow1 hjl hv
      go_wp2_with (first
        | (go_at_call 64; refine (unhide HD).mono ?_; rintro e w2 ⟨nv2, rfl, HP2⟩))
      have HR2 := hide (show StrRow W0.heap.size w2 nv2 (us ++ freeF (app done (.node b' o' y m .nil)) (fun _ => bs) 0) by rw [freeF_snoc, ← List.append_assoc]; exact (unhide HP2).1)
      have HG2 := hide ((unhide HGr).trans (unhide HP2).2)
      clear HP2 HD
      go_roundw
      case rel => exact ⟨_, r, _, _, hle', hj', by go_num, rfl, HR2, HG2⟩
      case measure => simp [intOf]; omega

set_option maxRecDepth 100000 in
set_option maxHeartbeats 3200000 in
theorem free_if (x : NodeV) (l : BT NodeV) (hkd : x.kind ≠ 2 ∧ x.kind ≠ 22 ∧ x.kind ≠ 23) (ih : ∀ y m, InF y m l → FreeF y m) (W0 w : World) (B : Nat) (a b c : Value) (kv : Value) (bs : List ByteArray) (nv : Value) (us : List ByteArray) (hfs : FormsAre B W0 l [a, b, c]) (hb : Below W0.heap.size W0 w) (hkn : BoundAt w kv bs) (ha : Away kv nv) (hrow : StrRow W0.heap.size w nv us) (hbl : bs.length + dp l ≤ 800) (hul : us.length + (fl l).length + 1 ≤ 100000) :
    Calls Tryz.prog 64 #[nv, .iface 173 (.agg #[a, b, c]), kv] w fun e w' => ∃ nv', e = .returned nv' ∧ Hid (StrRow W0.heap.size w' nv' (us ++ freeT x l bs) ∧ Grows w w' nv nv') := by
  have hft : freeT x l bs = freeF l (fun _ => bs) 0 := by unfold freeT; rw [if_neg hkd.1, known_same _ _ _ hkd.2.1 hkd.2.2]
  rw [hft]
  have HCL := hide hfs.length
  have hcl : cnt l ≤ 100000 := by have := cnt_le l; omega
  have IH := hide ih
  have HF := hide hfs
  have HB := hide hb
  have HKN := hide hkn
  have HA := hide ha
  have HROW := hide hrow
  have HNB := hide (ownBlock_ge hrow)
  have HNL := hide hrow.lt
  have HLN := hide (fun (d : BT NodeV) => freeF_len d (fun _ => bs) 0)
  obtain ⟨t0, u0, rfl⟩ := (unhide HF).iface a (by simp)
  obtain ⟨t1, u1, rfl⟩ := (unhide HF).iface b (by simp)
  obtain ⟨t2, u2, rfl⟩ := (unhide HF).iface c (by simp)
  have g1 := af_name_if
  have g2 := af_let_if
  have g3 := af_rep_if
  clear hft ih hfs hb hkn ha hrow hkd
  go_enter Tryz.func64, Tryz.ntmps64
  go_wp2_with fail
  refine (partsN_if _ _ _ _ _ _ _).mono ?_
  rintro e w1 ⟨⟨a1, n1, cap1, rfl, hn1, HR⟩, hb1⟩
  generalize hws : ([.iface t0 u0, .iface t1 u1, .iface t2 u2] : List Value) = ws at HF HR HCL hn1
  clear hws
  have hnl : n1 = cnt l := (unhide hn1).trans (unhide HCL)
  subst hnl
  have HB1 := hide hb1
  have hz1 := hb1.size
  have HBW := hide ((unhide HB).trans (hb1.mono (unhide HB).size))
  have hw0 := (unhide HB).size
  clear hb1
  go_wp2_with fail
  go_loopw [0, 70] (fun nm i wr => ∃ (done todo : BT NodeV) (j : Nat) (nvj : Value), Hid (l = app done todo) ∧ Hid (j = cnt done) ∧ i = .int .i64 j ∧ nvj = nm ∧ Hid (StrRow W0.heap.size wr nvj (us ++ freeF done (fun _ => bs) 0)) ∧ Hid (Grows w1 wr nv nvj)) (fun _ i _ => cnt l - (intOf i).toNat)
  case atStart => exact ⟨.nil, l, 0, nv, rfl, rfl, rfl, rfl, hide (show StrRow W0.heap.size w1 nv (us ++ []) by rw [List.append_nil]; exact ownsRow_up (unhide HROW) (unhide HB1)), hide (Grows.refl _ _)⟩
  case round =>
    obtain ⟨done, todo, j, nvj, hle, hj, rfl, rfl, HRr, HGr⟩ := hrel
    cases todo with
    | nil =>
      have he := unhide hle
      rw [app_nil] at he
      have hz : ¬ (j : Int) < (cnt l : Int) := by rw [unhide hj, he]; omega
      have HPP := hide (show StrRow W0.heap.size wr nvj (us ++ freeF l (fun _ => bs) 0) ∧ Grows w wr nv nvj from ⟨by rw [he]; exact unhide HRr, (Grows.of_below (unhide HB1)).trans (unhide HGr)⟩)
      clear he
      go_wp2_with fail
      go_ret
      exact ⟨_, rfl, HPP⟩
    | node b' o' y m r =>
      obtain ⟨hjl, ty, uy, wy, hv, hfm, hny⟩ := (show FormsAre B W0 (app done (.node b' o' y m r)) ws by rw [← unhide hle]; exact unhide HF).next
      have hjc : (j : Int) < (cnt l : Int) := by rw [unhide hj, ← unhide HCL]; omega
      obtain ⟨g1', ha1, hg1, hrow1, hQ⟩ : ∃ g, a1 = some ⟨g, 0, none⟩ ∧ g < w1.heap.size ∧ RowAt w1 g ws ∧ w.heap.size ≤ g := by
        rcases unhide HR with h | h
        · subst h; simp at hjl
        · exact h
      subst ha1
      have hcell : wr.cell? ⟨g1', j, none⟩ = some (.iface ty uy) := by
        rw [(unhide HGr).cell hg1 (fun e => by
          have h1 := unhide HNB _ e
          have h2 := unhide HNL _ e
          omega), unhide hj, hrow1 _ hjl, hv]
      have hfl : (fl done).length + (fl m).length + 1 ≤ (fl l).length := by rw [unhide hle, fl_app]; simp only [fl, List.length_append, List.length_cons]; omega
      have hfd : (freeF done (fun _ => bs) 0).length ≤ (fl done).length := unhide HLN done
      have hdp : dp m + 1 ≤ dp l := by rw [unhide hle, dp_app]; simp only [dp]; omega
      have HD := hide (unhide IH y m (by rw [unhide hle]; exact inF_app y m done b' o' r) W0 wr B _ wy kv bs nvj _ hfm hny ((unhide HGr).below (unhide HBW) (unhide HNB)) (((unhide HKN).below (unhide HB1)).grows (unhide HA) (unhide HGr)) (Away.grows ((unhide HKN).below (unhide HB1)) (unhide HA) (unhide HGr)) (unhide HRr) (by omega) (by simp only [List.length_append]; omega))
      have hle' := hide ((unhide hle).trans (app_snoc done b' o' y m r))
      have hj' := hide (show j + 1 = cnt (app done (.node b' o' y m .nil)) by rw [unhide hj, cnt_app]; rfl)
      clear hfm hny hrow1 hjl hv
      go_wp2_with (first
        | (go_at_call 64; refine (unhide HD).mono ?_; rintro e w2 ⟨nv2, rfl, HP2⟩))
      have HR2 := hide (show StrRow W0.heap.size w2 nv2 (us ++ freeF (app done (.node b' o' y m .nil)) (fun _ => bs) 0) by rw [freeF_snoc, ← List.append_assoc]; exact (unhide HP2).1)
      have HG2 := hide ((unhide HGr).trans (unhide HP2).2)
      clear HP2 HD
      go_roundw
      case rel => exact ⟨_, r, _, _, hle', hj', by go_num, rfl, HR2, HG2⟩
      case measure => simp [intOf]; omega

set_option maxRecDepth 100000 in
set_option maxHeartbeats 3200000 in
theorem free_call (x : NodeV) (l : BT NodeV) (hkd : x.kind ≠ 2 ∧ x.kind ≠ 22 ∧ x.kind ≠ 23) (ih : ∀ y m, InF y m l → FreeF y m) (W0 w : World) (B : Nat) (k : Int) (g cap : Nat) (ws : List Value) (hgl : g < W0.heap.size) (hra : RowAt W0 g ws) (kv : Value) (bs : List ByteArray) (nv : Value) (us : List ByteArray) (hfs : FormsAre B W0 l ws) (hb : Below W0.heap.size W0 w) (hkn : BoundAt w kv bs) (ha : Away kv nv) (hrow : StrRow W0.heap.size w nv us) (hbl : bs.length + dp l ≤ 800) (hul : us.length + (fl l).length + 1 ≤ 100000) :
    Calls Tryz.prog 64 #[nv, .iface 171 (.agg #[.int .i64 k, .slice (some ⟨g, 0, none⟩) ws.length cap]), kv] w fun e w' => ∃ nv', e = .returned nv' ∧ Hid (StrRow W0.heap.size w' nv' (us ++ freeT x l bs) ∧ Grows w w' nv nv') := by
  have hft : freeT x l bs = freeF l (fun _ => bs) 0 := by unfold freeT; rw [if_neg hkd.1, known_same _ _ _ hkd.2.1 hkd.2.2]
  rw [hft]
  have HCL := hide hfs.length
  have hcl : cnt l ≤ 100000 := by have := cnt_le l; omega
  have IH := hide ih
  have HF := hide hfs
  have HB := hide hb
  have HKN := hide hkn
  have HA := hide ha
  have HROW := hide hrow
  have HNB := hide (ownBlock_ge hrow)
  have HNL := hide hrow.lt
  have HLN := hide (fun (d : BT NodeV) => freeF_len d (fun _ => bs) 0)
  have HRW := hide (hra.agree (B := 0) (Agree.of_below (unhide HB)) (Nat.zero_le _) hgl)
  have hgw : g < w.heap.size := by have := (unhide HB).size; omega
  clear hra
  have g1 := af_name_call
  have g2 := af_let_call
  have g3 := af_rep_call
  clear hft ih hfs hb hkn ha hrow hkd
  go_enter Tryz.func64, Tryz.ntmps64
  go_wp2_with fail
  refine (partsN_call _ _ _ ws _ hgw (unhide HRW) W0.heap.size hgl).mono ?_
  rintro e w1 ⟨⟨a1, n1, cap1, rfl, hn1, HR⟩, hb1⟩
  skip
  have hnl : n1 = cnt l := (unhide hn1).trans (unhide HCL)
  subst hnl
  have HB1 := hide hb1
  have hz1 := hb1.size
  have HBW := hide ((unhide HB).trans (hb1.mono (unhide HB).size))
  have hw0 := (unhide HB).size
  clear hb1
  go_wp2_with fail
  go_loopw [0, 70] (fun nm i wr => ∃ (done todo : BT NodeV) (j : Nat) (nvj : Value), Hid (l = app done todo) ∧ Hid (j = cnt done) ∧ i = .int .i64 j ∧ nvj = nm ∧ Hid (StrRow W0.heap.size wr nvj (us ++ freeF done (fun _ => bs) 0)) ∧ Hid (Grows w1 wr nv nvj)) (fun _ i _ => cnt l - (intOf i).toNat)
  case atStart => exact ⟨.nil, l, 0, nv, rfl, rfl, rfl, rfl, hide (show StrRow W0.heap.size w1 nv (us ++ []) by rw [List.append_nil]; exact ownsRow_up (unhide HROW) (unhide HB1)), hide (Grows.refl _ _)⟩
  case round =>
    obtain ⟨done, todo, j, nvj, hle, hj, rfl, rfl, HRr, HGr⟩ := hrel
    cases todo with
    | nil =>
      have he := unhide hle
      rw [app_nil] at he
      have hz : ¬ (j : Int) < (cnt l : Int) := by rw [unhide hj, he]; omega
      have HPP := hide (show StrRow W0.heap.size wr nvj (us ++ freeF l (fun _ => bs) 0) ∧ Grows w wr nv nvj from ⟨by rw [he]; exact unhide HRr, (Grows.of_below (unhide HB1)).trans (unhide HGr)⟩)
      clear he
      go_wp2_with fail
      go_ret
      exact ⟨_, rfl, HPP⟩
    | node b' o' y m r =>
      obtain ⟨hjl, ty, uy, wy, hv, hfm, hny⟩ := (show FormsAre B W0 (app done (.node b' o' y m r)) ws by rw [← unhide hle]; exact unhide HF).next
      have hjc : (j : Int) < (cnt l : Int) := by rw [unhide hj, ← unhide HCL]; omega
      obtain ⟨g1', ha1, hg1, hrow1, hQ⟩ : ∃ g, a1 = some ⟨g, 0, none⟩ ∧ g < w1.heap.size ∧ RowAt w1 g ws ∧ g < W0.heap.size := by
        rcases unhide HR with h | h
        · subst h; simp at hjl
        · exact h
      subst ha1
      have hcell : wr.cell? ⟨g1', j, none⟩ = some (.iface ty uy) := by
        rw [(unhide HGr).cell hg1 (fun e => by
          have h1 := unhide HNB _ e
          have h2 := unhide HNL _ e
          omega), unhide hj, hrow1 _ hjl, hv]
      have hfl : (fl done).length + (fl m).length + 1 ≤ (fl l).length := by rw [unhide hle, fl_app]; simp only [fl, List.length_append, List.length_cons]; omega
      have hfd : (freeF done (fun _ => bs) 0).length ≤ (fl done).length := unhide HLN done
      have hdp : dp m + 1 ≤ dp l := by rw [unhide hle, dp_app]; simp only [dp]; omega
      have HD := hide (unhide IH y m (by rw [unhide hle]; exact inF_app y m done b' o' r) W0 wr B _ wy kv bs nvj _ hfm hny ((unhide HGr).below (unhide HBW) (unhide HNB)) (((unhide HKN).below (unhide HB1)).grows (unhide HA) (unhide HGr)) (Away.grows ((unhide HKN).below (unhide HB1)) (unhide HA) (unhide HGr)) (unhide HRr) (by omega) (by simp only [List.length_append]; omega))
      have hle' := hide ((unhide hle).trans (app_snoc done b' o' y m r))
      have hj' := hide (show j + 1 = cnt (app done (.node b' o' y m .nil)) by rw [unhide hj, cnt_app]; rfl)
      clear hfm hny hrow1 hjl hv
      go_wp2_with (first
        | (go_at_call 64; refine (unhide HD).mono ?_; rintro e w2 ⟨nv2, rfl, HP2⟩))
      have HR2 := hide (show StrRow W0.heap.size w2 nv2 (us ++ freeF (app done (.node b' o' y m .nil)) (fun _ => bs) 0) by rw [freeF_snoc, ← List.append_assoc]; exact (unhide HP2).1)
      have HG2 := hide ((unhide HGr).trans (unhide HP2).2)
      clear HP2 HD
      go_roundw
      case rel => exact ⟨_, r, _, _, hle', hj', by go_num, rfl, HR2, HG2⟩
      case measure => simp [intOf]; omega

theorem free_one (x : NodeV) (l : BT NodeV) (ih : ∀ y m, InF y m l → FreeF y m) : FreeF x l := by
  intro W0 w B v ws kv bs nv us hf hn hb hkn ha hrow hbl hul
  rcases hn with ⟨hk, rfl, rfl⟩ | ⟨hk, rfl, rfl⟩ | ⟨a, hk, rfl, rfl⟩ | ⟨a, b, hk, rfl, rfl⟩ | ⟨g, cap, hk, hwl, hBg, hgw, hrw, rfl⟩ | ⟨a, b, c, hk, rfl, rfl⟩ | ⟨a, b, hk, rfl, rfl⟩ | ⟨a, b, c, hk, rfl, rfl⟩
  · exact free_num x l (by omega) ih W0 w B _ kv bs nv us hf hb hkn ha hrow hbl hul
  · exact free_name x l hk W0 w kv bs nv us hb hkn ha hrow (by omega) (by omega)
  · exact free_ahead x l (by omega) ih W0 w B _ a kv bs nv us hf hb hkn ha hrow hbl hul
  · exact free_sign x l (by omega) ih W0 w B _ a b kv bs nv us hf hb hkn ha hrow hbl hul
  · exact free_call x l (by omega) ih W0 w B _ g cap ws hgw hrw kv bs nv us hf hb hkn ha hrow hbl hul
  · exact free_if x l (by omega) ih W0 w B a b c kv bs nv us hf hb hkn ha hrow hbl hul
  · exact free_let x l hk ih W0 w B a b kv bs nv us hf hb hkn ha hrow hbl hul
  · exact free_rep x l hk ih W0 w B a b c kv bs nv us hf hb hkn ha hrow hbl hul
theorem free_all (f : BT NodeV) : ∀ y m, InF y m f → FreeF y m := by
  induction f with
  | nil => intro y m h; exact h.elim
  | node b o x l r ihl ihr =>
    intro y m h
    rcases h with ⟨rfl, rfl⟩ | h
    · exact free_one y m ihl
    · exact ihr y m h
theorem free_any (x : NodeV) (l : BT NodeV) : FreeF x l := free_one x l (free_all l)
end Go.Proofs.YtldgffkippejiaaGreatDoor
