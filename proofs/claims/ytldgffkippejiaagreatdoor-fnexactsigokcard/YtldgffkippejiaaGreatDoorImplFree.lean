/-
  The names that stand free in a form, as the program gathers them.
-/
import Derived.Test.YtldgffkippejiaaGreatDoorFreeTree
import Derived.Test.YtldgffkippejiaaGreatDoorGrowsV
import Derived.Test.YtldgffkippejiaaGreatDoorMerged43
import Derived.Test.YtldgffkippejiaaGreatDoorMerged44
import Derived.Test.YtldgffkippejiaaGreatDoorFormDeep
set_option linter.unusedVariables false
namespace Go.Proofs.YtldgffkippejiaaGreatDoor
open Go.RowKit Go.Maps Go.Deep

/-- what is known does not lie in the row that is appended to -/
def Away (kv nv : Value) : Prop := ∀ g, kv.ownBlock = some g → nv.ownBlock ≠ some g
theorem StrRow.lt {base : Nat} {w : World} {v : Value} {ts : List ByteArray} (h : StrRow base w v ts) : ∀ g, v.ownBlock = some g → g < w.heap.size := by
  intro g hg
  rcases h.2 with ⟨rfl, _⟩ | ⟨g', cap, cur, rfl, hB, hg', r⟩
  · cases hg
  · simp only [Value.ownBlock, Option.some.injEq] at hg
    subst hg
    exact (Array.getElem?_eq_some_iff.1 hg').1
theorem BoundAt.lt {w : World} {v : Value} {ts : List ByteArray} (h : BoundAt w v ts) : ∀ g, v.ownBlock = some g → g < w.heap.size := by
  intro g hg
  rcases h with ⟨_, rfl⟩ | ⟨_, g', cap, rfl, hg', _⟩
  · cases hg
  · simp only [Value.ownBlock, Option.some.injEq] at hg
    omega
theorem BoundAt.form {w : World} {v : Value} {ts : List ByteArray} (h : BoundAt w v ts) : ∃ a n c, v = .slice a n c := by
  rcases h with ⟨_, rfl⟩ | ⟨_, g', cap, rfl, hg', _⟩
  · exact ⟨_, _, _, rfl⟩
  · exact ⟨_, _, _, rfl⟩
theorem BoundAt.grows {w w' : World} {nv nv' kv : Value} {bs : List ByteArray} (h : BoundAt w kv bs) (ha : Away kv nv) (hg : Grows w w' nv nv') : BoundAt w' kv bs := by
  rcases h with h | ⟨h1, g, cap, rfl, hl, hc⟩
  · exact .inl h
  · exact .inr ⟨h1, g, cap, rfl, Nat.lt_of_lt_of_le hl hg.grown.size, fun j hj => (hg.cell hl (ha g rfl)).trans (hc j hj)⟩
theorem Away.grows {w w' : World} {nv nv' kv : Value} {bs : List ByteArray} (h : BoundAt w kv bs) (ha : Away kv nv) (hg : Grows w w' nv nv') : Away kv nv' := by
  intro g hk
  rcases hg.own with e | e
  · rw [e]; exact ha g hk
  · intro e'
    have h1 := e g e'
    have h2 := h.lt g hk
    omega

theorem hasB_contains (bs : List ByteArray) (s : ByteArray) : Lib.containsS bs s = hasB bs s := by
  rw [Bool.eq_iff_iff, Lib.containsS_iff, hasB_iff]
theorem contains_any (w : World) (kv : Value) (bs : List ByteArray) (s : ByteArray) (h : BoundAt w kv bs) (hl : bs.length ≤ 1000) : Calls Tryz.prog 86 #[kv, .string s] w fun e w' => e = .returned (.bool (hasB bs s)) ∧ w' = w := by
  rcases h with ⟨rfl, rfl⟩ | ⟨h1, g, cap, rfl, hg, hc⟩
  · exact Tryz.slices_Contains_string_empty none 0 s w
  · have := Tryz.slices_Contains_string g 0 bs.length cap bs s w (Nat.le_refl _) (by omega) (fun j hj => by rw [Nat.zero_add, hc j hj]; simp [List.getD_eq_getElem?_getD, hj])
    rw [List.take_length, hasB_contains] at this
    exact this

/-- the names of a form, behind those that were there -/
def FreeF (x : NodeV) (l : BT NodeV) : Prop := ∀ (W0 w : World) (B : Nat) (v : Value) (ws : List Value) (kv : Value) (bs : List ByteArray) (nv : Value) (us : List ByteArray),
  FormsAre B W0 l ws → IsNode B W0 x ws v → Below W0.heap.size W0 w → BoundAt w kv bs → Away kv nv → StrRow W0.heap.size w nv us → bs.length + dp l ≤ 800 → us.length + (fl l).length + 1 ≤ 100000 →
  Calls Tryz.prog 64 #[nv, v, kv] w fun e w' => ∃ nv', e = .returned nv' ∧ Hid (StrRow W0.heap.size w' nv' (us ++ freeT x l bs) ∧ Grows w w' nv nv')

set_option maxRecDepth 100000 in
set_option maxHeartbeats 1600000 in
theorem free_name (x : NodeV) (l : BT NodeV) (hk : x.kind = 2) (W0 w : World) (kv : Value) (bs : List ByteArray) (nv : Value) (us : List ByteArray) (hb : Below W0.heap.size W0 w) (hkn : BoundAt w kv bs) (ha : Away kv nv) (hrow : StrRow W0.heap.size w nv us) (hbl : bs.length ≤ 800) (hul : us.length + 1 ≤ 100000) :
    Calls Tryz.prog 64 #[nv, .iface 137 (.agg #[.string x.name]), kv] w fun e w' => ∃ nv', e = .returned nv' ∧ Hid (StrRow W0.heap.size w' nv' (us ++ freeT x l bs) ∧ Grows w w' nv nv') := by
  have g1 := af_name_name
  have hft : freeT x l bs = if hasB bs x.name then [] else [x.name] := by unfold freeT; rw [if_pos hk]
  rw [hft]
  clear hft
  generalize x.name = s
  have bA := Below.alloc (Below.refl w.heap.size w) (Nat.le_refl _) (.cells #[.string s] 137)
  have HC := hide (contains_any _ kv bs s (hkn.below bA) (by omega))
  have HROW := hide (ownsRow_up hrow bA)
  have HR0 := hide hrow
  have HGA := hide (Grows.of_below (nv := nv) bA)
  have HBA := hide (hb.trans (bA.mono hb.size))
  cases hh : hasB bs s
  · rw [hh] at HC
    obtain ⟨i0, hi, hz0, hz1, hz2⟩ := info_parts infoStr
    have bB := Below.alloc bA (by simp) (.cells #[.string s] 9)
    have HO := hide (show ((w.alloc (.cells #[.string s] 137)).alloc (.cells #[.string s] 9)).ownsRow W0.heap.size 9 1 nv us.length (us.map .string) from ownsRow_up hrow bB)
    have HGB := hide (Grows.of_below (nv := nv) bB)
    have hsz := hb.size
    have HW := hide (news_one (w.alloc (.cells #[.string s] 137)) 9 (.string s))
    simp only [World.size_alloc] at HW
    clear hkn ha hrow hb bA bB
    go_enter Tryz.func64, Tryz.ntmps64
    go_wp2_with (first
      | (go_at_call 86; refine (unhide HC).mono ?_; rintro e w1 ⟨rfl, rfl⟩)
      | (at_builtin; refine wpList_append_lies _ rfl _ _ 22 rfl W0.heap.size 9 i0 _ 1 16 Tryz.underlying22 hi hz0 hz1 hz2 rfl (by decide) nv us.length (us.map .string) rfl (unhide HO) ⟨w.heap.size + 1, 0, none⟩ 1 1 [.string s] rfl rfl (unhide HW) (one_str s) Nat.one_pos (by unfold maxLen; omega) (by omega) (by simp; omega) _ rfl ?_; intro g2 c2 w2 hown2 hgr2 hor2 hlt2)
      | fail)
    have HP := hide (show StrRow W0.heap.size w2 (.slice (some ⟨g2, 0, none⟩) (us.length + 1) c2) (us ++ [s]) ∧ Grows w w2 nv (.slice (some ⟨g2, 0, none⟩) (us.length + 1) c2) from
      ⟨row_str hown2 (by simp) (by simp), (unhide HGB).trans ⟨hgr2, by
        rcases hor2 with e | e
        · exact .inl e.symm
        · exact .inr (fun g hg => by simp only [Value.ownBlock, Option.some.injEq] at hg; omega)⟩⟩)
    clear hown2 hgr2 hor2
    go_ret
    exact ⟨_, rfl, HP⟩
  · rw [hh] at HC
    have HP := hide (show StrRow W0.heap.size (w.alloc (.cells #[.string s] 137)) nv (us ++ []) ∧ Grows w (w.alloc (.cells #[.string s] 137)) nv nv from ⟨by rw [List.append_nil]; exact unhide HROW, unhide HGA⟩)
    clear hkn ha hrow hb bA
    go_enter Tryz.func64, Tryz.ntmps64
    go_wp2_with (first
      | (go_at_call 86; refine (unhide HC).mono ?_; rintro e w1 ⟨rfl, rfl⟩)
      | fail)
    go_ret
    exact ⟨_, rfl, by simpa using HP⟩

/-- what FreeF says of a kid, once all is at hand -/
theorem free_let_split {B : Nat} {W0 : World} {l : BT NodeV} {a b : Value} (h : FormsAre B W0 l [a, b]) : ∃ b0 o0 y0 m0 b1 o1 y1 m1 ws0 ws1, l = .node b0 o0 y0 m0 (.node b1 o1 y1 m1 .nil) ∧ FormsAre B W0 m0 ws0 ∧ IsNode B W0 y0 ws0 a ∧ FormsAre B W0 m1 ws1 ∧ IsNode B W0 y1 ws1 b := by
  cases l with
  | nil => cases h
  | node b0 o0 y0 m0 r =>
    obtain ⟨v, rest, ws0, e, h1, h2, h3⟩ := h
    injection e with e1 e2
    subst e1 e2
    cases r with
    | nil => cases h3
    | node b1 o1 y1 m1 r =>
      obtain ⟨v, rest, ws1, e, h4, h5, h6⟩ := h3
      injection e with e1 e2
      subst e1 e2
      cases r with
      | nil => exact ⟨b0, o0, y0, m0, b1, o1, y1, m1, ws0, ws1, rfl, h1, h2, h4, h5⟩
      | node _ _ _ _ _ =>
        obtain ⟨_, _, _, e, _⟩ := h6
        cases e
theorem free_rep_split {B : Nat} {W0 : World} {l : BT NodeV} {a b c : Value} (h : FormsAre B W0 l [a, b, c]) : ∃ b0 o0 y0 m0 r ws0, l = .node b0 o0 y0 m0 r ∧ FormsAre B W0 m0 ws0 ∧ IsNode B W0 y0 ws0 a ∧ FormsAre B W0 r [b, c] := by
  cases l with
  | nil => cases h
  | node b0 o0 y0 m0 r =>
    obtain ⟨v, rest, ws0, e, h1, h2, h3⟩ := h
    injection e with e1 e2
    subst e1 e2
    exact ⟨b0, o0, y0, m0, r, ws0, rfl, h1, h2, h3⟩

set_option maxRecDepth 100000 in
set_option maxHeartbeats 1600000 in
theorem free_let (x : NodeV) (l : BT NodeV) (hk : x.kind = 22) (ih : ∀ y m, InF y m l → FreeF y m) (W0 w : World) (B : Nat) (a b : Value) (kv : Value) (bs : List ByteArray) (nv : Value) (us : List ByteArray) (hfs : FormsAre B W0 l [a, b]) (hb : Below W0.heap.size W0 w) (hkn : BoundAt w kv bs) (ha : Away kv nv) (hrow : StrRow W0.heap.size w nv us) (hbl : bs.length + dp l ≤ 800) (hul : us.length + (fl l).length + 1 ≤ 100000) :
    Calls Tryz.prog 64 #[nv, .iface 139 (.agg #[.string x.name, a, b]), kv] w fun e w' => ∃ nv', e = .returned nv' ∧ Hid (StrRow W0.heap.size w' nv' (us ++ freeT x l bs) ∧ Grows w w' nv nv') := by
  obtain ⟨ka, kn, kc, rfl⟩ := hkn.form
  obtain ⟨b0, o0, y0, m0, b1, o1, y1, m1, ws0, ws1, rfl, hf0, hn0, hf1, hn1⟩ := free_let_split hfs
  have hft : freeT x (.node b0 o0 y0 m0 (.node b1 o1 y1 m1 .nil)) bs = freeT y0 m0 bs ++ freeT y1 m1 (bs ++ [x.name]) := by
    have hkd : x.kind ≠ 2 := by omega
    unfold freeT
    rw [if_neg hkd, freeF_node, freeF_node]
    simp [knownAt, hk, freeF, freeT]
  rw [hft]
  clear hft hfs
  have ih0 := ih y0 m0 (.inl ⟨rfl, rfl⟩)
  have ih1 := ih y1 m1 (.inr (.inl ⟨rfl, rfl⟩))
  simp only [dp, fl, List.length_cons, List.length_append, List.length_nil] at hbl hul
  obtain ⟨t0, u0, rfl⟩ := hn0.iface
  obtain ⟨t1, u1, rfl⟩ := hn1.iface
  have g1 := af_name_let
  have g2 := af_let_let
  generalize x.name = s
  have bA := Below.alloc (Below.refl w.heap.size w) (Nat.le_refl _) (.cells #[.string s, .iface t0 u0, .iface t1 u1] 139)
  have hfl := freeT_len y0 m0 bs
  have HK0 := hide (ih0 W0 _ B _ ws0 _ bs nv us hf0 hn0 (hb.trans (bA.mono hb.size)) (hkn.below bA) ha (ownsRow_up hrow bA) (by omega) (by omega))
  have HBx := hide (fun (i : Nat) (u : Value) (h : (w.alloc (.cells #[.string s, .iface t0 u0, .iface t1 u1] 139)).cell? ⟨w.heap.size, i, none⟩ = some u) (w1 : World) (nv1 : Value) (hg : Grows (w.alloc (.cells #[.string s, .iface t0 u0, .iface t1 u1] 139)) w1 nv nv1) => (hg.cell (by simp) (fun e => by have := hrow.lt _ e; omega)).trans h)
  have HKN := hide (hkn.below bA)
  have HA := hide ha
  have HGA := hide (Grows.of_below (nv := nv) bA)
  have HBA := hide (hb.trans (bA.mono hb.size))
  have HNB := hide (ownBlock_ge hrow)
  have HNX := hide (fun (g : Nat) (e : nv.ownBlock = some g) (h : g = w.heap.size) => by have := hrow.lt g e; omega : ∀ g : Nat, nv.ownBlock = some g → g = w.heap.size → False)
  have hsz := bA.size
  have HI1 := hide ih1
  have HF1 := hide hf1
  have HN1 := hide hn1
  clear ih ih0 ih1 hf0 hn0 hf1 hn1 hb hkn ha hrow bA
  go_enter Tryz.func64, Tryz.ntmps64
  go_wp2_with fail
  refine (unhide HK0).mono ?_
  rintro e w1 ⟨nv1, rfl, HP1⟩
  have c0 : w1.cell? ⟨w.heap.size, 0, none⟩ = some (.string s) := unhide HBx 0 _ (World.cell?_alloc_at _ _ _ _ rfl) w1 nv1 (unhide HP1).2
  have c2 : w1.cell? ⟨w.heap.size, 2, none⟩ = some (.iface t1 u1) := unhide HBx 2 _ (World.cell?_alloc_at _ _ _ _ rfl) w1 nv1 (unhide HP1).2
  have HKN1 := hide ((unhide HKN).grows (unhide HA) (unhide HP1).2)
  have HBW1 := hide ((unhide HP1).2.below (unhide HBA) (unhide HNB))
  have hz1 := (unhide HP1).2.grown.size
  have bC0 := Below.alloc (Below.refl w1.heap.size w1) (Nat.le_refl _) (.cells #[.string s] 9)
  have bC1 := Below.alloc bC0 (by simp) (.cells #[.slice ka kn kc, .slice (some ⟨w1.heap.size, 0, none⟩) 1 1] 22)
  have HBC := hide bC1.drew
  have HCC := hide (concat_any ((w1.alloc (.cells #[.string s] 9)).alloc (.cells #[.slice ka kn kc, .slice (some ⟨w1.heap.size, 0, none⟩) 1 1] 22)).drew (w1.heap.size + 1) w1.heap.size 2 1 s _ bs (by omega) (by simp) (by simp; omega) ((unhide HKN1).below bC1.drew)
    (by exact World.cell?_alloc_at _ _ _ _ (by simp)) (by exact World.cell?_alloc_at _ _ _ _ (by simp)) (by
      show ((w1.alloc (.cells #[.string s] 9)).alloc (.cells #[.slice ka kn kc, .slice (some ⟨w1.heap.size, 0, none⟩) 1 1] 22)).cell? ⟨w1.heap.size, 0, none⟩ = _
      rw [World.cell?_alloc_past _ _ _ (by simp)]; exact World.cell?_alloc_at _ _ _ _ rfl))
  have HB0 := hide bC0.drew
  have HB1 := hide (Below.refl w1.heap.size w1).drew
  have KEEP : ∀ w' nv2, Grows w1 w' nv1 nv2 → w'.cell? ⟨w.heap.size, 0, none⟩ = some (.string s) ∧ w'.cell? ⟨w.heap.size, 2, none⟩ = some (.iface t1 u1) := fun w' nv2 hg =>
    have hne : nv1.ownBlock ≠ some w.heap.size := fun e => by
      rcases (unhide HP1).2.own with e' | e'
      · rw [e'] at e; exact unhide HNX _ e rfl
      · have := e' _ e; simp at this; omega
    ⟨(hg.cell (by simp at hsz hz1; omega) hne).trans c0, (hg.cell (by simp at hsz hz1; omega) hne).trans c2⟩
  have HKK := hide KEEP
  clear bC0 bC1 KEEP
  go_wp2_with fail
  go_region_held3 (fun w' => w'.cell? ⟨w.heap.size, 0, none⟩ = some (.string s) ∧ w'.cell? ⟨w.heap.size, 2, none⟩ = some (.iface t1 u1)) ((first | (refine unhide HKK _ nv1 (Grows.of_below ?_); exact unhide (by assumption)) | exact unhide HKK _ _ (unhide hG4)))
    (first
      | (go_at_call 87; refine (unhide HCC).mono ?_; rintro e w3 ⟨kv3, rfl, HP3⟩; have hB3 := hide ((unhide HBC).trans ((unhide HP3).2.1.mono (unhide HBC).size)); have hG3 := hide (Grows.of_below (nv := nv1) (unhide hB3)); have HK1 := hide (unhide HI1 W0 w3 B _ ws1 kv3 (bs ++ [s]) nv1 (us ++ freeT y0 m0 bs) (unhide HF1) (unhide HN1) ((unhide HBW1).trans ((unhide hB3).mono (unhide HBW1).size)) (unhide HP3).1 (fun g hg e => by
          have h1 := (unhide HP3).2.2 g hg
          have h2 := (unhide HP1).1.lt g e
          simp at h1
          omega) (ownsRow_up (unhide HP1).1 (unhide hB3)) (by simp; omega) (by simp; omega)))
      | (go_at_call 64; refine (unhide HK1).mono ?_; rintro e w4 ⟨nv4, rfl, HP4⟩; have hG4 := hide ((unhide hG3).trans (unhide HP4).2)))
  all_goals
    have HPP := hide (show StrRow W0.heap.size w4 nv4 (us ++ (freeT y0 m0 bs ++ freeT y1 m1 (bs ++ [s]))) ∧ Grows w w4 nv nv4 from ⟨by rw [← List.append_assoc]; exact (unhide HP4).1, ((unhide HGA).trans (unhide HP1).2).trans (unhide hG4)⟩)
    clear HP4 HP3 HCC HKK c0 c2
    go_wp2_with fail
    go_ret
    exact ⟨_, rfl, HPP⟩

set_option maxRecDepth 100000 in
set_option maxHeartbeats 1600000 in
theorem free_rep (x : NodeV) (l : BT NodeV) (hk : x.kind = 23) (ih : ∀ y m, InF y m l → FreeF y m) (W0 w : World) (B : Nat) (a b c : Value) (kv : Value) (bs : List ByteArray) (nv : Value) (us : List ByteArray) (hfs : FormsAre B W0 l [a, b, c]) (hb : Below W0.heap.size W0 w) (hkn : BoundAt w kv bs) (ha : Away kv nv) (hrow : StrRow W0.heap.size w nv us) (hbl : bs.length + dp l ≤ 800) (hul : us.length + (fl l).length + 1 ≤ 100000) :
    Calls Tryz.prog 64 #[nv, .iface 142 (.agg #[.string x.name, a, b, c]), kv] w fun e w' => ∃ nv', e = .returned nv' ∧ Hid (StrRow W0.heap.size w' nv' (us ++ freeT x l bs) ∧ Grows w w' nv nv') := by
  obtain ⟨ka, kn, kc, rfl⟩ := hkn.form
  obtain ⟨bp, op, yp, mp, r, wsp, rfl, hfp, hnp, hfs'⟩ := free_rep_split hfs
  obtain ⟨b0, o0, y0, m0, b1, o1, y1, m1, ws0, ws1, rfl, hf0, hn0, hf1, hn1⟩ := free_let_split hfs'
  have hft : freeT x (.node bp op yp mp (.node b0 o0 y0 m0 (.node b1 o1 y1 m1 .nil))) bs = freeT yp mp bs ++ (freeT y0 m0 bs ++ freeT y1 m1 (bs ++ [x.name])) := by
    have hkd : x.kind ≠ 2 := by omega
    unfold freeT
    rw [if_neg hkd, freeF_node, freeF_node, freeF_node]
    simp [knownAt, hk, freeF, freeT]
  rw [hft]
  clear hft hfs hfs'
  have ihp := ih yp mp (.inl ⟨rfl, rfl⟩)
  have ih0 := ih y0 m0 (.inr (.inl ⟨rfl, rfl⟩))
  have ih1 := ih y1 m1 (.inr (.inr (.inl ⟨rfl, rfl⟩)))
  simp only [dp, fl, List.length_cons, List.length_append, List.length_nil] at hbl hul
  obtain ⟨tp, up, rfl⟩ := hnp.iface
  obtain ⟨t0, u0, rfl⟩ := hn0.iface
  obtain ⟨t1, u1, rfl⟩ := hn1.iface
  have g1 := af_name_rep
  have g2 := af_let_rep
  have g3 := af_rep_rep
  generalize x.name = s
  have bA := Below.alloc (Below.refl w.heap.size w) (Nat.le_refl _) (.cells #[.string s, .iface tp up, .iface t0 u0, .iface t1 u1] 142)
  have hflp := freeT_len yp mp bs
  have hfl := freeT_len y0 m0 bs
  have HKP := hide (ihp W0 _ B _ wsp _ bs nv us hfp hnp (hb.trans (bA.mono hb.size)) (hkn.below bA) ha (ownsRow_up hrow bA) (by omega) (by omega))
  have HBx := hide (fun (i : Nat) (u : Value) (h : (w.alloc (.cells #[.string s, .iface tp up, .iface t0 u0, .iface t1 u1] 142)).cell? ⟨w.heap.size, i, none⟩ = some u) (w1 : World) (nv1 : Value) (hg : Grows (w.alloc (.cells #[.string s, .iface tp up, .iface t0 u0, .iface t1 u1] 142)) w1 nv nv1) => (hg.cell (by simp) (fun e => by have := hrow.lt _ e; omega)).trans h)
  have HKN := hide (hkn.below bA)
  have HA := hide ha
  have HGA := hide (Grows.of_below (nv := nv) bA)
  have HBA := hide (hb.trans (bA.mono hb.size))
  have HNB := hide (ownBlock_ge hrow)
  have HNX := hide (fun (g : Nat) (e : nv.ownBlock = some g) (h : g = w.heap.size) => by have := hrow.lt g e; omega : ∀ g : Nat, nv.ownBlock = some g → g = w.heap.size → False)
  have hsz := bA.size
  have HI0 := hide ih0
  have HF0 := hide hf0
  have HN0 := hide hn0
  have HI1 := hide ih1
  have HF1 := hide hf1
  have HN1 := hide hn1
  clear ih ihp ih0 ih1 hfp hnp hf0 hn0 hf1 hn1 hb hkn ha hrow bA
  go_enter Tryz.func64, Tryz.ntmps64
  go_wp2_with fail
  refine (unhide HKP).mono ?_
  rintro e wp ⟨nvp, rfl, HPP⟩
  have cp2 : wp.cell? ⟨w.heap.size, 2, none⟩ = some (.iface t0 u0) := unhide HBx 2 _ (World.cell?_alloc_at _ _ _ _ rfl) wp nvp (unhide HPP).2
  have HKNP := hide ((unhide HKN).grows (unhide HA) (unhide HPP).2)
  have HAP := hide (Away.grows (unhide HKN) (unhide HA) (unhide HPP).2)
  have HBWP := hide ((unhide HPP).2.below (unhide HBA) (unhide HNB))
  have HK0 := hide (unhide HI0 W0 wp B _ ws0 _ bs nvp _ (unhide HF0) (unhide HN0) (unhide HBWP) (unhide HKNP) (unhide HAP) (unhide HPP).1 (by omega) (by simp; omega))
  go_wp2_with fail
  refine (unhide HK0).mono ?_
  rintro e w1 ⟨nv1, rfl, HP1'⟩
  have HP1 := hide (show StrRow W0.heap.size w1 nv1 ((us ++ freeT yp mp bs) ++ freeT y0 m0 bs) ∧ Grows (w.alloc (.cells #[.string s, .iface tp up, .iface t0 u0, .iface t1 u1] 142)) w1 nv nv1 from ⟨(unhide HP1').1, (unhide HPP).2.trans (unhide HP1').2⟩)
  have c0 : w1.cell? ⟨w.heap.size, 0, none⟩ = some (.string s) := unhide HBx 0 _ (World.cell?_alloc_at _ _ _ _ rfl) w1 nv1 (unhide HP1).2
  have c2 : w1.cell? ⟨w.heap.size, 3, none⟩ = some (.iface t1 u1) := unhide HBx 3 _ (World.cell?_alloc_at _ _ _ _ rfl) w1 nv1 (unhide HP1).2
  have HKN1 := hide ((unhide HKN).grows (unhide HA) (unhide HP1).2)
  clear HP1' HPP HKNP HAP HBWP HK0 cp2
  have HBW1 := hide ((unhide HP1).2.below (unhide HBA) (unhide HNB))
  have hz1 := (unhide HP1).2.grown.size
  have bC0 := Below.alloc (Below.refl w1.heap.size w1) (Nat.le_refl _) (.cells #[.string s] 9)
  have bC1 := Below.alloc bC0 (by simp) (.cells #[.slice ka kn kc, .slice (some ⟨w1.heap.size, 0, none⟩) 1 1] 22)
  have HBC := hide bC1.drew
  have HCC := hide (concat_any ((w1.alloc (.cells #[.string s] 9)).alloc (.cells #[.slice ka kn kc, .slice (some ⟨w1.heap.size, 0, none⟩) 1 1] 22)).drew (w1.heap.size + 1) w1.heap.size 2 1 s _ bs (by omega) (by simp) (by simp; omega) ((unhide HKN1).below bC1.drew)
    (by exact World.cell?_alloc_at _ _ _ _ (by simp)) (by exact World.cell?_alloc_at _ _ _ _ (by simp)) (by
      show ((w1.alloc (.cells #[.string s] 9)).alloc (.cells #[.slice ka kn kc, .slice (some ⟨w1.heap.size, 0, none⟩) 1 1] 22)).cell? ⟨w1.heap.size, 0, none⟩ = _
      rw [World.cell?_alloc_past _ _ _ (by simp)]; exact World.cell?_alloc_at _ _ _ _ rfl))
  have HB0 := hide bC0.drew
  have HB1 := hide (Below.refl w1.heap.size w1).drew
  have KEEP : ∀ w' nv2, Grows w1 w' nv1 nv2 → w'.cell? ⟨w.heap.size, 0, none⟩ = some (.string s) ∧ w'.cell? ⟨w.heap.size, 3, none⟩ = some (.iface t1 u1) := fun w' nv2 hg =>
    have hne : nv1.ownBlock ≠ some w.heap.size := fun e => by
      rcases (unhide HP1).2.own with e' | e'
      · rw [e'] at e; exact unhide HNX _ e rfl
      · have := e' _ e; simp at this; omega
    ⟨(hg.cell (by simp at hsz hz1; omega) hne).trans c0, (hg.cell (by simp at hsz hz1; omega) hne).trans c2⟩
  have HKK := hide KEEP
  clear bC0 bC1 KEEP
  go_wp2_with fail
  go_region_held3 (fun w' => w'.cell? ⟨w.heap.size, 0, none⟩ = some (.string s) ∧ w'.cell? ⟨w.heap.size, 3, none⟩ = some (.iface t1 u1)) ((first | (refine unhide HKK _ nv1 (Grows.of_below ?_); exact unhide (by assumption)) | exact unhide HKK _ _ (unhide hG4)))
    (first
      | (go_at_call 87; refine (unhide HCC).mono ?_; rintro e w3 ⟨kv3, rfl, HP3⟩; have hB3 := hide ((unhide HBC).trans ((unhide HP3).2.1.mono (unhide HBC).size)); have hG3 := hide (Grows.of_below (nv := nv1) (unhide hB3)); have HK1 := hide (unhide HI1 W0 w3 B _ ws1 kv3 (bs ++ [s]) nv1 _ (unhide HF1) (unhide HN1) ((unhide HBW1).trans ((unhide hB3).mono (unhide HBW1).size)) (unhide HP3).1 (fun g hg e => by
          have h1 := (unhide HP3).2.2 g hg
          have h2 := (unhide HP1).1.lt g e
          simp at h1
          omega) (ownsRow_up (unhide HP1).1 (unhide hB3)) (by simp; omega) (by simp; omega)))
      | (go_at_call 64; refine (unhide HK1).mono ?_; rintro e w4 ⟨nv4, rfl, HP4⟩; have hG4 := hide ((unhide hG3).trans (unhide HP4).2)))
  all_goals
    have HPP := hide (show StrRow W0.heap.size w4 nv4 (us ++ (freeT yp mp bs ++ (freeT y0 m0 bs ++ freeT y1 m1 (bs ++ [s])))) ∧ Grows w w4 nv nv4 from ⟨by rw [← List.append_assoc, ← List.append_assoc]; exact (unhide HP4).1, ((unhide HGA).trans (unhide HP1).2).trans (unhide hG4)⟩)
    clear HP4 HP3 HCC HKK c0 c2
    go_wp2_with fail
    go_ret
    exact ⟨_, rfl, HPP⟩
end Go.Proofs.YtldgffkippejiaaGreatDoor
