/-
  The program's signText and callText, and bareText at these forms.
-/
/-
  The program's callText: the texts of the arguments, joined.
-/
import Derived.Test.YtkfhokeoooafnaaGreatDoorMerged28
namespace Go.Proofs.YtkfhokeoooafnaaGreatDoor
open Go.RowKit Go.Maps Go.Deep
set_option linter.unusedVariables false

theorem cell_under (w : World) (b o : Nat) (ob : Obj) (h : b < w.heap.size) : (w.alloc ob).cell? ⟨b, o, none⟩ = w.cell? ⟨b, o, none⟩ :=
  ((Below.refl w.heap.size w).alloc (Nat.le_refl _) ob).cell (p := ⟨b, o, none⟩) h
set_option maxRecDepth 100000 in
set_option maxHeartbeats 3200000 in
theorem sign_text_cmp (kn : Nat) (h5 : 5 ≤ kn) (h17 : kn ≤ 17) (kk : Int) (G : ByteArray)  (t0 t1 : TypeId) (u0 u1 : Value) (w : World) (hg : 0 < w.heap.size)
    (s0 : w.cell? ⟨0, kn * 3, none⟩ = some (.int .i64 kk)) (s1 : w.cell? ⟨0, kn * 3 + 1, none⟩ = some (.int .i64 3)) (s2 : w.cell? ⟨0, kn * 3 + 2, none⟩ = some (.string G))
    (T U : ByteArray) (hT : (T.size : Int) ≤ 24002) (hU : (U.size : Int) ≤ 24002) (hG : (G.size : Int) ≤ 3) (hY : ∀ W, Below w.heap.size w W → TextAtSaid W (.iface t0 u0) 4 T) (hZ : ∀ W, Below w.heap.size w W → TextAtSaid W (.iface t1 u1) 4 U) :
    Calls Tryz.prog 38 #[.agg #[.int .i64 (kn : Int), .iface t0 u0, .iface t1 u1]] w fun e w' => e = .returned (.string (T ++ ⟨#[32]⟩ ++ G ++ ⟨#[32]⟩ ++ U)) ∧ Below w.heap.size w w' := by
  have hi1 : (0 : Int) ≤ kn := by omega
  have hi2 : (kn : Int) < 24 := by omega
  have ha0 : ¬ 9223372036854775807 < T.size + 1 := by omega
  have ha1 : ¬ 9223372036854775807 < T.size + 1 + G.size := by omega
  have ha2 : ¬ 9223372036854775807 < T.size + 1 + G.size + 1 := by omega
  have ha3 : ¬ 9223372036854775807 < T.size + 1 + G.size + 1 + U.size := by omega
  go_enter Tryz.func38, Tryz.ntmps38
  go_wp2_with fail
  generalize hW1 : (w.alloc (.cells #[.int .i64 (kn : Int), .iface t0 u0, .iface t1 u1] 82)).alloc (.cells #[.int .i64 kk, .int .i64 3, .string G] 123) = W1
  have hna : w.heap.size < W1.heap.size := by subst hW1; simp; omega
  have hnb : w.heap.size + 1 < W1.heap.size := by subst hW1; simp
  have hbw : Below w.heap.size w W1 := by subst hW1; exact ((Below.refl _ _).alloc (Nat.le_refl _) _).alloc (by simp) _
  have dna1 : W1.cell? ⟨w.heap.size, 1, none⟩ = some (.iface t0 u0) := by subst hW1; rw [cell_under _ _ _ _ (by simp)]; exact World.cell?_alloc_at _ _ _ _ rfl
  have dna2 : W1.cell? ⟨w.heap.size, 2, none⟩ = some (.iface t1 u1) := by subst hW1; rw [cell_under _ _ _ _ (by simp)]; exact World.cell?_alloc_at _ _ _ _ rfl
  have dnb1 : W1.cell? ⟨w.heap.size + 1, 1, none⟩ = some (.int .i64 3) := by subst hW1; exact World.cell?_alloc_at _ _ _ _ (by simp)
  have dnb2 : W1.cell? ⟨w.heap.size + 1, 2, none⟩ = some (.string G) := by subst hW1; exact World.cell?_alloc_at _ _ _ _ (by simp)
  have HY := hide (hY W1 hbw)
  have HZ := hide (hZ W1 hbw)
  have HBW := hide (And.intro hbw (Nat.le_of_lt hna))
  clear hY hZ hW1 hbw s0 s1 s2 hg
  generalize w.heap.size + 1 = nb at hnb dnb1 dnb2 ⊢
  generalize w.heap.size = na at hna dna1 dna2 ⊢
  have KEEP : ∀ w', Below W1.heap.size W1 w' → (w'.cell? ⟨na, 1, none⟩ = some (.iface t0 u0) ∧ w'.cell? ⟨na, 2, none⟩ = some (.iface t1 u1) ∧ w'.cell? ⟨nb, 1, none⟩ = some (.int .i64 3) ∧ w'.cell? ⟨nb, 2, none⟩ = some (.string G)) ∧ Below W1.heap.size W1 w' := fun w' h => ⟨⟨(h.cell hna).trans dna1, (h.cell hna).trans dna2, (h.cell hnb).trans dnb1, (h.cell hnb).trans dnb2⟩, h⟩
  go_region_held3 (fun w' => (w'.cell? ⟨na, 1, none⟩ = some (.iface t0 u0) ∧ w'.cell? ⟨na, 2, none⟩ = some (.iface t1 u1) ∧ w'.cell? ⟨nb, 1, none⟩ = some (.int .i64 3) ∧ w'.cell? ⟨nb, 2, none⟩ = some (.string G)) ∧ Below W1.heap.size W1 w') ((refine KEEP _ ?_; first | assumption | exact below_dn (Below.refl _ _) 1))
    (first
      | (go_at_call 62; have := m0; refine (unhide HZ _ (And.right (by assumption))).mono ?_; rintro e w3 ⟨rfl, hb3⟩)
      | (go_at_call 62; refine (unhide HY _ (And.right (by assumption))).mono ?_; rintro e w2 ⟨rfl, hb2⟩; have m0 := True.intro))
  go_wp2_with fail
  go_ret
  exact ⟨rfl, (unhide HBW).1.trans (hb3.mono (unhide HBW).2)⟩
set_option maxRecDepth 100000 in
set_option maxHeartbeats 3200000 in
theorem sign_text_bin (kn : Nat) (h5 : 5 ≤ kn) (h17 : kn ≤ 17) (kk : Int) (G : ByteArray) (lv : Int) (hl0 : 0 ≤ lv) (hl7 : lv ≤ 7) (hl3 : lv ≠ 3) (t0 t1 : TypeId) (u0 u1 : Value) (w : World) (hg : 0 < w.heap.size)
    (s0 : w.cell? ⟨0, kn * 3, none⟩ = some (.int .i64 kk)) (s1 : w.cell? ⟨0, kn * 3 + 1, none⟩ = some (.int .i64 lv)) (s2 : w.cell? ⟨0, kn * 3 + 2, none⟩ = some (.string G))
    (T U : ByteArray) (hT : (T.size : Int) ≤ 24002) (hU : (U.size : Int) ≤ 24002) (hG : (G.size : Int) ≤ 3) (hY : ∀ W, Below w.heap.size w W → TextAtSaid W (.iface t0 u0) lv T) (hZ : ∀ W, Below w.heap.size w W → TextAtSaid W (.iface t1 u1) (lv + 1) U) :
    Calls Tryz.prog 38 #[.agg #[.int .i64 (kn : Int), .iface t0 u0, .iface t1 u1]] w fun e w' => e = .returned (.string (T ++ ⟨#[32]⟩ ++ G ++ ⟨#[32]⟩ ++ U)) ∧ Below w.heap.size w w' := by
  have hi1 : (0 : Int) ≤ kn := by omega
  have hi2 : (kn : Int) < 24 := by omega
  have el : (lv == 3) = false := by simp [hl3]
  have hw : IntKind.i64.wrap (lv + 1) = lv + 1 := by rw [IntKind.wrap_i64]; omega
  clear hl3
  have ha0 : ¬ 9223372036854775807 < T.size + 1 := by omega
  have ha1 : ¬ 9223372036854775807 < T.size + 1 + G.size := by omega
  have ha2 : ¬ 9223372036854775807 < T.size + 1 + G.size + 1 := by omega
  have ha3 : ¬ 9223372036854775807 < T.size + 1 + G.size + 1 + U.size := by omega
  go_enter Tryz.func38, Tryz.ntmps38
  go_wp2_with fail
  generalize hW1 : (w.alloc (.cells #[.int .i64 (kn : Int), .iface t0 u0, .iface t1 u1] 82)).alloc (.cells #[.int .i64 kk, .int .i64 lv, .string G] 123) = W1
  have hna : w.heap.size < W1.heap.size := by subst hW1; simp; omega
  have hnb : w.heap.size + 1 < W1.heap.size := by subst hW1; simp
  have hbw : Below w.heap.size w W1 := by subst hW1; exact ((Below.refl _ _).alloc (Nat.le_refl _) _).alloc (by simp) _
  have dna1 : W1.cell? ⟨w.heap.size, 1, none⟩ = some (.iface t0 u0) := by subst hW1; rw [cell_under _ _ _ _ (by simp)]; exact World.cell?_alloc_at _ _ _ _ rfl
  have dna2 : W1.cell? ⟨w.heap.size, 2, none⟩ = some (.iface t1 u1) := by subst hW1; rw [cell_under _ _ _ _ (by simp)]; exact World.cell?_alloc_at _ _ _ _ rfl
  have dnb1 : W1.cell? ⟨w.heap.size + 1, 1, none⟩ = some (.int .i64 lv) := by subst hW1; exact World.cell?_alloc_at _ _ _ _ (by simp)
  have dnb2 : W1.cell? ⟨w.heap.size + 1, 2, none⟩ = some (.string G) := by subst hW1; exact World.cell?_alloc_at _ _ _ _ (by simp)
  have HY := hide (hY W1 hbw)
  have HZ := hide (hZ W1 hbw)
  have HBW := hide (And.intro hbw (Nat.le_of_lt hna))
  clear hY hZ hW1 hbw s0 s1 s2 hg
  generalize w.heap.size + 1 = nb at hnb dnb1 dnb2 ⊢
  generalize w.heap.size = na at hna dna1 dna2 ⊢
  have KEEP : ∀ w', Below W1.heap.size W1 w' → (w'.cell? ⟨na, 1, none⟩ = some (.iface t0 u0) ∧ w'.cell? ⟨na, 2, none⟩ = some (.iface t1 u1) ∧ w'.cell? ⟨nb, 1, none⟩ = some (.int .i64 lv) ∧ w'.cell? ⟨nb, 2, none⟩ = some (.string G)) ∧ Below W1.heap.size W1 w' := fun w' h => ⟨⟨(h.cell hna).trans dna1, (h.cell hna).trans dna2, (h.cell hnb).trans dnb1, (h.cell hnb).trans dnb2⟩, h⟩
  go_region_held3 (fun w' => (w'.cell? ⟨na, 1, none⟩ = some (.iface t0 u0) ∧ w'.cell? ⟨na, 2, none⟩ = some (.iface t1 u1) ∧ w'.cell? ⟨nb, 1, none⟩ = some (.int .i64 lv) ∧ w'.cell? ⟨nb, 2, none⟩ = some (.string G)) ∧ Below W1.heap.size W1 w') ((refine KEEP _ ?_; first | assumption | exact below_dn (Below.refl _ _) 1))
    (first
      | (go_at_call 62; have := m0; refine (unhide HZ _ (And.right (by assumption))).mono ?_; rintro e w3 ⟨rfl, hb3⟩)
      | (go_at_call 62; refine (unhide HY _ (And.right (by assumption))).mono ?_; rintro e w2 ⟨rfl, hb2⟩; have m0 := True.intro))
  go_wp2_with fail
  go_ret
  exact ⟨rfl, (unhide HBW).1.trans (hb3.mono (unhide HBW).2)⟩
set_option maxRecDepth 100000 in
set_option maxHeartbeats 3200000 in
theorem bt_sign (k : Int) (t0 t1 : TypeId) (u0 u1 : Value) (w : World) (R : ByteArray) (h : ∀ W, Below w.heap.size w W → Calls Tryz.prog 38 #[.agg #[.int .i64 k, .iface t0 u0, .iface t1 u1]] W fun e w' => e = .returned (.string R) ∧ Below W.heap.size W w') :
    Calls Tryz.prog 17 #[.iface 82 (.agg #[.int .i64 k, .iface t0 u0, .iface t1 u1])] w fun e w' => e = .returned (.string R) ∧ Below w.heap.size w w' := by
  have HY := hide (h _ ((Below.refl w.heap.size w).alloc (Nat.le_refl _) (.cells #[.int .i64 k, .iface t0 u0, .iface t1 u1] 82)))
  clear h
  have q0 := as_num_sign (.agg #[.int .i64 k, .iface t0 u0, .iface t1 u1])
  have q1 := as_name_sign (.agg #[.int .i64 k, .iface t0 u0, .iface t1 u1])
  have q2 := as_ahead_sign (.agg #[.int .i64 k, .iface t0 u0, .iface t1 u1])
  have q3 := as_sign_sign (.agg #[.int .i64 k, .iface t0 u0, .iface t1 u1])
  go_enter Tryz.func17, Tryz.ntmps17
  go_wp2_with (first
    | (go_at_call 38; refine (unhide HY).mono ?_; rintro e w2 ⟨rfl, hb2⟩))
  go_ret
  exact ⟨rfl, ((Below.refl _ _).alloc (Nat.le_refl _) _).trans (hb2.mono (by simp))⟩
set_option maxRecDepth 100000 in
set_option maxHeartbeats 3200000 in
theorem bt_call (k : Int) (ad : Option Addr) (n cap : Nat) (w : World) (R : ByteArray) (h : ∀ W, Below w.heap.size w W → Calls Tryz.prog 39 #[.agg #[.int .i64 k, .slice ad n cap]] W fun e w' => e = .returned (.string R) ∧ Below W.heap.size W w') :
    Calls Tryz.prog 17 #[.iface 86 (.agg #[.int .i64 k, .slice ad n cap])] w fun e w' => e = .returned (.string R) ∧ Below w.heap.size w w' := by
  have HY := hide (h _ ((Below.refl w.heap.size w).alloc (Nat.le_refl _) (.cells #[.int .i64 k, .slice ad n cap] 86)))
  clear h
  have q0 := as_num_call (.agg #[.int .i64 k, .slice ad n cap])
  have q1 := as_name_call (.agg #[.int .i64 k, .slice ad n cap])
  have q2 := as_ahead_call (.agg #[.int .i64 k, .slice ad n cap])
  have q3 := as_sign_call (.agg #[.int .i64 k, .slice ad n cap])
  have q4 := as_call_call (.agg #[.int .i64 k, .slice ad n cap])
  go_enter Tryz.func17, Tryz.ntmps17
  go_wp2_with (first
    | (go_at_call 39; refine (unhide HY).mono ?_; rintro e w2 ⟨rfl, hb2⟩))
  go_ret
  exact ⟨rfl, ((Below.refl _ _).alloc (Nat.le_refl _) _).trans (hb2.mono (by simp))⟩

end Go.Proofs.YtkfhokeoooafnaaGreatDoor

namespace Go.Proofs.YtkfhokeoooafnaaGreatDoor
open Go.RowKit Go.Maps Go.Deep
set_option linter.unusedVariables false

theorem infoStr : (Tryz.prog.info? 9).map (fun i => (i.zero, i.size, i.bytes)) = some (some (.string ByteArray.empty), 1, 16) := by kernel_rfl
def textsF (f : BT NodeV) : List ByteArray := (showsF f).map (·.2)
theorem shows_app (f g : BT NodeV) : showsF (app f g) = showsF f ++ showsF g := by
  induction f with
  | nil => rfl
  | node b o x l r _ ih => simp [app, showsF, ih]
theorem texts_snoc (d : BT NodeV) (b o : Nat) (y : NodeV) (m : BT NodeV) : textsF (app d (.node b o y m .nil)) = textsF d ++ [bareT y m] := by
  simp [textsF, shows_app, showsF, bareT]
theorem texts_len (f : BT NodeV) : (textsF f).length = cnt f := by
  induction f with
  | nil => rfl
  | node b o x l r _ ih => simp [textsF, showsF, cnt] at *; exact ih
/-- a slice of texts that is owned -/
def StrRow (base : Nat) (w : World) (v : Value) (ts : List ByteArray) : Prop := w.ownsRow base 9 1 v ts.length (ts.map .string)
theorem StrRow.open {base : Nat} {w : World} {v : Value} {ts : List ByteArray} (h : StrRow base w v ts) (h0 : 1 ≤ ts.length) :
    ∃ g cap, v = .slice (some ⟨g, 0, none⟩) ts.length cap ∧ g < w.heap.size ∧ ts.length ≤ cap ∧ ∀ j t, ts[j]? = some t → w.cell? ⟨g, 0 + j, none⟩ = some (.string t) := by
  rcases h.2 with ⟨_, h'⟩ | ⟨g, cap, cur, rfl, hB, hg, hc, _, hsz, htk⟩
  · omega
  · refine ⟨g, cap, rfl, (Array.getElem?_eq_some_iff.1 hg).1, hc, fun j t hj => ?_⟩
    have hjl : j < ts.length := (List.getElem?_eq_some_iff.1 hj).1
    have h1 : (cur.toList.take (ts.length * 1))[j]? = some (.string t) := by rw [htk, List.getElem?_map, hj]; rfl
    rw [List.getElem?_take, if_pos (by omega)] at h1
    rw [Nat.zero_add]
    simp only [World.cell?, hg]
    simpa using h1
theorem join_len (ts : List ByteArray) (h2 : ts.length ≤ 2) (hs : ∀ t ∈ ts, t.size ≤ 24000) : (Lib.join (ts.map (·.data.toList)) (⟨#[44, 32]⟩ : ByteArray).data.toList).length ≤ 48002 := by
  match ts, h2 with
  | [], _ => simp [Lib.join]
  | [a], _ =>
    have ha := hs a (by simp)
    have ea : a.data.toList.length = a.size := Array.length_toList
    simp [Lib.join, List.intercalate] at *
    omega
  | [a, b], _ =>
    have ha := hs a (by simp)
    have hb := hs b (by simp)
    have ea : a.data.toList.length = a.size := Array.length_toList
    have eb : b.data.toList.length = b.size := Array.length_toList
    simp [Lib.join, List.intercalate] at *
    omega

theorem news_one (w : World) (t : TypeId) (a : Value) : ∀ j u, [a][j]? = some u → (w.alloc (.cells #[a] t)).cell? ((⟨w.heap.size, 0, none⟩ : Addr).add j) = some u := by
  intro j u h
  match j, h with
  | 0, h =>
    simp only [List.getElem?_cons_zero, Option.some.injEq] at h
    subst h
    exact World.cell?_alloc_at _ _ _ _ rfl
  | j + 1, h => simp at h
theorem one_str (T : ByteArray) : ∀ u ∈ [Value.string T], u.oneCell' = true := by
  intro u hu
  simp only [List.mem_singleton] at hu
  subst hu
  rfl
/-- each kid's own text, from any world above -/
def KidsSaid (B : Nat) (w : World) (l : BT NodeV) : Prop := ∀ y m, InF y m l → (bareT y m).size ≤ 24000 ∧ ∀ W v us, Below w.heap.size w W → FormsAre B W m us → IsNode B W y us v →
  Calls Tryz.prog 17 #[v] W fun e w' => e = .returned (.string (bareT y m)) ∧ Below W.heap.size W w'
theorem texts_small {B : Nat} {w : World} {l : BT NodeV} (h : KidsSaid B w l) : ∀ t ∈ textsF l, t.size ≤ 24000 := by
  have key : ∀ f : BT NodeV, (∀ y m, InF y m f → (bareT y m).size ≤ 24000) → ∀ t ∈ textsF f, t.size ≤ 24000 := by
    intro f
    induction f with
    | nil => intro _ t ht; simp [textsF, showsF] at ht
    | node b o x m r _ ih =>
      intro h t ht
      simp only [textsF, showsF, List.map_cons, List.mem_cons] at ht
      rcases ht with rfl | ht
      · exact h x m (.inl ⟨rfl, rfl⟩)
      · exact ih (fun y n hi => h y n (.inr hi)) t ht
  exact key l (fun y m hi => (h y m hi).1)
def JoinSaid (W : World) (g n cap : Nat) (J : ByteArray) : Prop := ∀ w, Below W.heap.size W w → Calls Tryz.prog 63 #[.slice (some ⟨g, 0, none⟩) n cap, .string ⟨#[44, 32]⟩] w fun e w' => e = .returned (.string J) ∧ Below W.heap.size W w'
def joinT (ts : List ByteArray) : ByteArray := ⟨(Lib.join (ts.map (·.data.toList)) (⟨#[44, 32]⟩ : ByteArray).data.toList).toArray⟩
theorem join_said (W : World) (g cap : Nat) (ts : List ByteArray) (hg : g < W.heap.size) (hcap : ts.length ≤ cap) (h2 : ts.length ≤ 2) (hs : ∀ t ∈ ts, t.size ≤ 24000) (hc : ∀ j t, ts[j]? = some t → W.cell? ⟨g, 0 + j, none⟩ = some (.string t)) : JoinSaid W g ts.length cap (joinT ts) := by
  intro w hw
  refine (Tryz.strings_Join g 0 cap ts ⟨#[44, 32]⟩ w (fun j t hj => (hw.cell (by exact hg)).trans (hc j t hj)) (Nat.lt_of_lt_of_le hg hw.size) (by omega) hcap (by have := join_len ts h2 hs; omega)).mono ?_
  rintro e w' ⟨rfl, hb⟩
  exact ⟨rfl, hw.trans (hb.mono hw.size)⟩

set_option maxRecDepth 100000 in
set_option maxHeartbeats 3200000 in
theorem call_text (kn : Nat) (h18 : 18 ≤ kn) (h20 : kn ≤ 20) (G : ByteArray) (hG : (G.size : Int) ≤ 3) (l : BT NodeV) (B g cap : Nat) (ws : List Value) (w : World) (hgs : 0 < w.heap.size)
    (s2 : w.cell? ⟨0, kn * 3 + 2, none⟩ = some (.string G)) (hg : g < w.heap.size) (hrow : RowAt w g ws) (hF : FormsAre B w l ws) (h1 : 1 ≤ ws.length) (h2 : ws.length ≤ 2) (hK : KidsSaid B w l) :
    Calls Tryz.prog 39 #[.agg #[.int .i64 (kn : Int), .slice (some ⟨g, 0, none⟩) ws.length cap]] w fun e w' => e = .returned (.string (G ++ ⟨#[40]⟩ ++ joinT (textsF l) ++ ⟨#[41]⟩)) ∧ Below w.heap.size w w' := by
  have hi1 : (0 : Int) ≤ kn := by omega
  have hi2 : (kn : Int) < 24 := by omega
  have hcl := hF.length
  have hl2 : cnt l ≤ 2 := by omega
  have hl1 : 1 ≤ cnt l := by omega
  have HK := hide hK
  have HF := hide hF
  have HR := hide hrow
  have HCL := hide hcl
  rw [hcl]
  clear hK hF hrow hcl h1 h2
  obtain ⟨i0, hi, hz0, hz1, hz2⟩ := info_parts infoStr
  go_enter Tryz.func39, Tryz.ntmps39
  go_wp2_with fail
  generalize hW1 : w.alloc (.cells #[.int .i64 (kn : Int), .slice (some ⟨g, 0, none⟩) (cnt l) cap] 86) = W1
  have hnb : w.heap.size < W1.heap.size := by subst hW1; simp
  have hbw : Below w.heap.size w W1 := by subst hW1; exact (Below.refl _ _).alloc (Nat.le_refl _) _
  have d0 : W1.cell? ⟨w.heap.size, 0, none⟩ = some (.int .i64 kn) := by subst hW1; exact World.cell?_alloc_at _ _ _ _ rfl
  have d2 : W1.cell? ⟨0, kn * 3 + 2, none⟩ = some (.string G) := (hbw.cell (by exact hgs)).trans s2
  have hgs1 : 0 < W1.heap.size := by omega
  have HBW := hide (And.intro hbw (Nat.le_of_lt hnb))
  clear hW1 hbw s2
  go_loopw [3, 9] (fun av i wr => ∃ (done todo : BT NodeV) (j : Nat), Hid (l = app done todo) ∧ Hid (j = cnt done) ∧ i = .int .i64 j ∧ Hid (StrRow W1.heap.size wr av (textsF done)) ∧ Below W1.heap.size W1 wr) (fun _ i _ => cnt l - (intOf i).toNat)
  case atStart => exact ⟨.nil, l, 0, rfl, rfl, rfl, hide ⟨rfl, .inl ⟨rfl, rfl⟩⟩, Below.refl _ _⟩
  case round =>
    obtain ⟨done, todo, j, hle, hj, rfl, hstr, hbel⟩ := hrel
    cases todo with
    | nil =>
      have he := unhide hle
      rw [app_nil] at he
      have hz : ¬ (j : Int) < (cnt l : Int) := by rw [unhide hj, he]; omega
      rw [← he] at hstr
      have hts := texts_len l
      have hsm := texts_small (unhide HK)
      obtain ⟨g', cap', rfl, hg', hcap', hcells⟩ := (unhide hstr).open (by omega)
      have HJ := hide (join_said _ g' cap' (textsF l) hg' hcap' (by omega) hsm hcells)
      have hJs : ((joinT (textsF l)).size : Int) ≤ 48002 := by
        have := join_len (textsF l) (by omega) hsm
        unfold joinT
        rw [size_lit]
        omega
      clear hcells hsm he hstr hg' hcap' hts
      generalize (textsF l).length = nl at *
      generalize hJe : joinT (textsF l) = J at *
      have HJe := hide hJe
      clear hJe
      have e0 := (hbel.cell (p := ⟨w.heap.size, 0, none⟩) hnb).trans d0
      have e2 := (hbel.cell (p := ⟨0, kn * 3 + 2, none⟩) hgs1).trans d2
      have hnr : w.heap.size < wr.heap.size := Nat.lt_of_lt_of_le hnb hbel.size
      have hsr : 0 < wr.heap.size := Nat.lt_of_lt_of_le hgs1 hbel.size
      have HB2 := hide hbel
      have ha0 : ¬ 9223372036854775807 < G.size + 1 := by omega
      have ha1 : ¬ 9223372036854775807 < G.size + 1 + J.size := by omega
      have ha2 : ¬ 9223372036854775807 < G.size + 1 + J.size + 1 := by omega
      clear hbel d0 d2
      go_wp2_with fail
      generalize w.heap.size = nb at hnr e0 ⊢
      have KEEP : ∀ w', Below wr.heap.size wr w' → (w'.cell? ⟨nb, 0, none⟩ = some (.int .i64 kn) ∧ w'.cell? ⟨0, kn * 3 + 2, none⟩ = some (.string G)) ∧ Below wr.heap.size wr w' := fun w' h => ⟨⟨(h.cell (by exact hnr)).trans e0, (h.cell (by exact hsr)).trans e2⟩, h⟩
      go_region_held3 (fun w' => (w'.cell? ⟨nb, 0, none⟩ = some (.int .i64 kn) ∧ w'.cell? ⟨0, kn * 3 + 2, none⟩ = some (.string G)) ∧ Below wr.heap.size wr w') ((refine KEEP _ ?_; first | assumption | exact below_dn (Below.refl _ _) 1))
        (first
          | (go_at_call 63; refine (unhide HJ _ (And.right (by assumption))).mono ?_; rintro e w5 ⟨rfl, hb5⟩))
      go_wp2_with fail
      go_ret
      have hB := (unhide HBW).1.trans ((unhide HB2).mono (unhide HBW).2)
      exact ⟨by rw [unhide HJe]; rfl, hB.trans (hb5.mono hB.size)⟩
    | node b' o' y m r =>
      have hbw' : Below w.heap.size w wr := (unhide HBW).1.trans (hbel.mono (unhide HBW).2)
      have hfr : FormsAre B wr (app done (.node b' o' y m r)) ws := by rw [← unhide hle]; exact (unhide HF).agree (Agree.of_below hbw')
      obtain ⟨hjl, ty, uy, us, hv, hfm, hny⟩ := hfr.next
      have HD := hide ((unhide HK y m (by rw [unhide hle]; exact inF_app y m done b' o' r)).2 wr _ us hbw' hfm hny)
      have hcell : wr.cell? ⟨g, j, none⟩ = some (.iface ty uy) := by
        rw [hbw'.cell (by exact hg), unhide hj, unhide HR _ hjl, hv]
      have hjc : (j : Int) < (cnt l : Int) := by rw [unhide hj, ← unhide HCL]; omega
      have hdl : (textsF done).length ≤ 2 := by rw [texts_len]; have := unhide HCL; omega
      have hle' := hide ((unhide hle).trans (app_snoc done b' o' y m r))
      have hj' := hide (show j + 1 = cnt (app done (.node b' o' y m .nil)) by rw [unhide hj, cnt_app]; rfl)
      have hsz1 := hbel.size
      have HB2 := hide hbel
      have HTS := hide (texts_snoc done b' o' y m)
      clear hfr hv hfm hny hjl hbw' hbel
      generalize bareT y m = T at *
      go_wp2_with (first
        | (go_at_call 17; refine (unhide HD).mono ?_; rintro e w2 ⟨rfl, hb2⟩; have hsz2 := hb2.size)
        | (at_builtin; refine wpList_append_own _ rfl _ _ 67 rfl W1.heap.size 9 i0 _ 1 16 Tryz.underlying67 hi hz0 hz1 hz2 rfl (by decide) u3 (textsF done).length ((textsF done).map .string) rfl (ownsRow_up (ownsRow_up (unhide hstr) hb2) ((Below.refl _ _).alloc (Nat.le_refl _) _)) ⟨w2.heap.size, 0, none⟩ 1 1 [.string T] rfl rfl (news_one w2 9 (.string T)) (one_str T) (by unfold maxLen; omega) (by omega) (by simp; omega) ?_; intro v3 w3 hown3 hgrow3 _))
      have hB3 := (((unhide HB2).trans (hb2.mono hsz1)).alloc (by omega) (.cells #[.string T] 9)).grown hgrow3 (by simp; omega) (ownBlock_ge (unhide hstr))
      have hS3 : StrRow W1.heap.size w3 v3 (textsF (app done (.node b' o' y m .nil))) := by
        unfold StrRow
        rw [unhide HTS]
        simpa using hown3
      have HS3 := hide hS3
      clear hown3 hgrow3 hS3
      go_roundw
      case rel => exact ⟨_, r, _, unhide hle', unhide hj', by go_num, HS3, hB3⟩
      case measure => simp [intOf]; omega

end Go.Proofs.YtkfhokeoooafnaaGreatDoor
