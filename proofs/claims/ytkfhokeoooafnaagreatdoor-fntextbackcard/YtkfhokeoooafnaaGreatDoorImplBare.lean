/-
  The program's bareText at every form of a tree, and TreeShow.
-/
import Derived.Test.YtkfhokeoooafnaaGreatDoorMerged29
namespace Go.Proofs.YtkfhokeoooafnaaGreatDoor
open Go.RowKit Go.Maps Go.Deep
set_option linter.unusedVariables false

def FBareSaid (x : NodeV) (l : BT NodeV) : Prop := ∀ (w : World) (B : Nat) (v : Value) (ws : List Value), FormsAre B w l ws → IsNode B w x ws v → ShapesIn w → Lib.TabIs Tryz.prog w "internal/strconv.uint64pow10" .u64 Lib.pow10Tab →
  (∀ n ∈ x :: fl l, ownB n = true) → (fl l).length + 1 ≤ 400 →
  Calls Tryz.prog 17 #[v] w fun e w' => e = .returned (.string (bareT x l)) ∧ Below w.heap.size w w'

theorem inF_sub {y : NodeV} {m l : BT NodeV} (h : InF y m l) : (∀ n ∈ y :: fl m, n ∈ fl l) ∧ (fl m).length + 1 ≤ (fl l).length := by
  induction l with
  | nil => exact h.elim
  | node b o x k r _ ih =>
    rcases h with ⟨rfl, rfl⟩ | h
    · refine ⟨fun n hn => ?_, by simp only [fl, List.length_cons, List.length_append]; omega⟩
      simp only [List.mem_cons] at hn
      simp only [fl, List.mem_cons, List.mem_append]
      rcases hn with h | h
      · exact .inl h
      · exact .inr (.inl h)
    · obtain ⟨h1, h2⟩ := ih h
      refine ⟨fun n hn => ?_, by simp only [fl, List.length_cons, List.length_append]; omega⟩
      simp only [fl, List.mem_cons, List.mem_append]
      exact .inr (.inr (h1 n hn))
theorem kid_text {B : Nat} {w : World} {l : BT NodeV} (hK : KidsSaid B w l) {y : NodeV} {m : BT NodeV} {us : List Value} {v : Value} (hi : InF y m l) (hf : FormsAre B w m us) (hn : IsNode B w y us v) : ∀ W, Below w.heap.size w W → TextSaid W v (bareT y m) := by
  intro W hW w' hw'
  have hb : Below w.heap.size w w' := hW.trans (hw'.mono hW.size)
  refine ((hK y m hi).2 w' v us hb (hf.agree (Agree.of_below hb)) (hn.agree (Agree.of_below hb))).mono ?_
  rintro e w'' ⟨rfl, h⟩
  exact ⟨rfl, hw'.trans (h.mono hw'.size)⟩
theorem at_wrap (y : NodeV) (kn : Nat) (hk : y.kind = kn) (least : Int) (T : ByteArray) : atT (levelN (kn : Nat)) least T = wrapT least y T := by
  unfold atT wrapT
  rw [hk]
theorem kid_textAt {B : Nat} {w : World} {l : BT NodeV} (hK : KidsSaid B w l) (hsh : ShapesIn w) {y : NodeV} {m : BT NodeV} {us : List Value} {v : Value} (hi : InF y m l) (hf : FormsAre B w m us) (hn : IsNode B w y us v) (least : Int) : ∀ W, Below w.heap.size w W → TextAtSaid W v least (wrapT least y (bareT y m)) := by
  intro W hW
  have hT := kid_text hK hi hf hn W hW
  have hs : ((bareT y m).size : Int) ≤ 24000 := by have := (hK y m hi).1; omega
  have hshW := hsh.below hW (Nat.le_refl _)
  have hif := hf.iface
  clear hK hsh hi hf
  rcases hn with ⟨hk, rfl, rfl⟩ | ⟨hk, rfl, rfl⟩ | ⟨a, hk, rfl, rfl⟩ | ⟨a, b, hk, rfl, rfl⟩ | ⟨g, cap, hk, hwl, hBg, hgw, hrow, rfl⟩ | ⟨a, b, c, hk, rfl, rfl⟩ | ⟨a, b, hk, rfl, rfl⟩ | ⟨a, b, c, hk, rfl, rfl⟩
  · rw [← at_wrap y 1 (by rw [hk]; rfl)]
    exact textAt_num _ least W hshW _ hs hT
  · rw [← at_wrap y 2 (by rw [hk]; rfl)]
    exact textAt_name _ least W hshW _ hs hT
  · obtain ⟨t0, u0, rfl⟩ := hif a (by simp)
    obtain ⟨kn, hkn⟩ := Int.eq_ofNat_of_zero_le (show 0 ≤ y.kind by omega)
    rw [← at_wrap y kn hkn]
    rw [hkn] at hT ⊢
    exact textAt_ahead kn (by omega) (by omega) t0 u0 least W hshW _ hs hT
  · obtain ⟨t0, u0, rfl⟩ := hif a (by simp)
    obtain ⟨t1, u1, rfl⟩ := hif b (by simp)
    obtain ⟨kn, hkn⟩ := Int.eq_ofNat_of_zero_le (show 0 ≤ y.kind by omega)
    rw [← at_wrap y kn hkn]
    rw [hkn] at hT ⊢
    exact textAt_sign kn (by omega) (by omega) t0 t1 u0 u1 least W hshW _ hs hT
  · obtain ⟨kn, hkn⟩ := Int.eq_ofNat_of_zero_le (show 0 ≤ y.kind by omega)
    rw [← at_wrap y kn hkn]
    rw [hkn] at hT ⊢
    exact textAt_call kn (by omega) (by omega) _ _ _ least W hshW _ hs hT
  · obtain ⟨t0, u0, rfl⟩ := hif a (by simp)
    obtain ⟨t1, u1, rfl⟩ := hif b (by simp)
    obtain ⟨t2, u2, rfl⟩ := hif c (by simp)
    rw [← at_wrap y 21 (by rw [hk]; rfl)]
    exact textAt_if t0 t1 t2 u0 u1 u2 least W hshW _ hs hT
  · obtain ⟨t0, u0, rfl⟩ := hif a (by simp)
    obtain ⟨t1, u1, rfl⟩ := hif b (by simp)
    rw [← at_wrap y 22 (by rw [hk]; rfl)]
    exact textAt_let _ t0 t1 u0 u1 least W hshW _ hs hT
  · obtain ⟨t0, u0, rfl⟩ := hif a (by simp)
    obtain ⟨t1, u1, rfl⟩ := hif b (by simp)
    obtain ⟨t2, u2, rfl⟩ := hif c (by simp)
    rw [← at_wrap y 23 (by rw [hk]; rfl)]
    exact textAt_rep _ t0 t1 t2 u0 u1 u2 least W hshW _ hs hT
theorem KidsSaid.up {B : Nat} {w W : World} {l : BT NodeV} (h : KidsSaid B w l) (hW : Below w.heap.size w W) : KidsSaid B W l := fun y m hi =>
  ⟨(h y m hi).1, fun W' v us hW' hf hn => (h y m hi).2 W' v us (hW.trans (hW'.mono hW.size)) hf hn⟩
theorem join_one (s : ByteArray) : joinT [s] = s := by
  apply ByteArray.ext
  simp [joinT, Lib.join, List.intercalate]
theorem join_two (s t : ByteArray) : joinT [s, t] = s ++ ⟨#[44, 32]⟩ ++ t := by
  apply ByteArray.ext
  simp [joinT, Lib.join, List.intercalate]

theorem fbare_one (x : NodeV) (l : BT NodeV) (ih : ∀ y m, InF y m l → FBareSaid y m) : FBareSaid x l := by
  intro w B v ws hF hn hsh htab hown hlen
  have hK : KidsSaid B w l := fun y m hi => by
    obtain ⟨h1, h2⟩ := inF_sub hi
    have hown' : ∀ n ∈ y :: fl m, ownB n = true := fun n hn => hown n (List.mem_cons_of_mem _ (h1 n hn))
    refine ⟨?_, fun W v us hW hf hn => ih y m hi W B v us hf hn (hsh.below hW (Nat.le_refl _)) (tab_below htab hW (Nat.le_refl _)) hown' (by omega)⟩
    have := bare_size y m (fun n hn => by have := own_bounds (hown' n hn); exact ⟨this.1, this.2.2⟩)
    omega
  obtain ⟨hs16, hn0, hn1⟩ := own_bounds (hown x (by simp))
  have hs : (x.name.size : Int) ≤ 16 := by omega
  have hcl := hF.length
  rcases hn with ⟨hk, rfl, rfl⟩ | ⟨hk, rfl, rfl⟩ | ⟨a, hk, rfl, rfl⟩ | ⟨a, b, hk, rfl, rfl⟩ | ⟨g, cap, hk, hwl, hBg, hgw, hrow, rfl⟩ | ⟨a, b, c, hk, rfl, rfl⟩ | ⟨a, b, hk, rfl, rfl⟩ | ⟨a, b, c, hk, rfl, rfl⟩
  · obtain rfl := cnt_zero (l := l) (by simpa using hcl.symm)
    refine (bt_num x.num hn0 hn1 w htab).mono ?_
    rintro e w' ⟨rfl, h⟩
    refine ⟨?_, h⟩
    show _ = Ending.returned (.string (textN x []))
    simp only [textN]
    rw [if_pos hk]
  · obtain rfl := cnt_zero (l := l) (by simpa using hcl.symm)
    refine (bt_name x.name w).mono ?_
    rintro e w' ⟨rfl, h⟩
    refine ⟨?_, h⟩
    show _ = Ending.returned (.string (textN x []))
    simp only [textN]
    rw [if_neg (by omega)]
  · obtain ⟨b1, o1, y, m, rfl⟩ := cnt_one (l := l) (by simpa using hcl.symm)
    obtain ⟨v0, rest, us, e0, hf0, hn0', hr⟩ := hF
    obtain ⟨rfl, rfl⟩ := List.cons.inj e0
    obtain ⟨t0, u0, rfl⟩ := hn0'.iface
    have hY := kid_textAt hK hsh (.inl ⟨rfl, rfl⟩) hf0 hn0' 6
    have hsz : ((wrapT 6 y (bareT y m)).size : Int) ≤ 24002 := by
      have h1 := (hK y m (.inl ⟨rfl, rfl⟩)).1
      have h2 := wrap_size 6 y (bareT y m)
      omega
    refine (bt_ahead x.kind hk t0 u0 w _ hsz hY).mono ?_
    rintro e w' ⟨rfl, h⟩
    refine ⟨?_, h⟩
    show _ = Ending.returned (.string (textN x [(y, bareT y m)]))
    simp only [textN]
    rcases hk with hk | hk
    · rw [if_pos hk, if_pos hk]
    · rw [if_neg (by omega), if_neg (by omega), if_pos hk]
  · obtain ⟨b1, o1, y, m, b2, o2, z, m2, rfl⟩ := cnt_two (l := l) (by simpa using hcl.symm)
    obtain ⟨v0, rest, us, e0, hf0, hn0', hr⟩ := hF
    obtain ⟨rfl, rfl⟩ := List.cons.inj e0
    obtain ⟨v1, rest1, us1, e1, hf1, hn1', hr1⟩ := hr
    obtain ⟨rfl, rfl⟩ := List.cons.inj e1
    obtain ⟨t0, u0, rfl⟩ := hn0'.iface
    obtain ⟨t1, u1, rfl⟩ := hn1'.iface
    obtain ⟨kn, hkn⟩ := Int.eq_ofNat_of_zero_le (show 0 ≤ x.kind by omega)
    have iY : InF y m (.node b1 o1 y m (.node b2 o2 z m2 .nil)) := .inl ⟨rfl, rfl⟩
    have iZ : InF z m2 (.node b1 o1 y m (.node b2 o2 z m2 .nil)) := .inr (.inl ⟨rfl, rfl⟩)
    have hsY : ∀ lv, ((wrapT lv y (bareT y m)).size : Int) ≤ 24002 := fun lv => by
      have h1 := (hK y m iY).1
      have h2 := wrap_size lv y (bareT y m)
      omega
    have hsZ : ∀ lv, ((wrapT lv z (bareT z m2)).size : Int) ≤ 24002 := fun lv => by
      have h1 := (hK z m2 iZ).1
      have h2 := wrap_size lv z (bareT z m2)
      omega
    have hg : ((signN (kn : Int)).size : Int) ≤ 3 := by have := sign_size (kn : Int); omega
    have hT : bareT x (.node b1 o1 y m (.node b2 o2 z m2 .nil)) = wrapT (firstN kn) y (bareT y m) ++ ⟨#[32]⟩ ++ signN kn ++ ⟨#[32]⟩ ++ wrapT (levelN kn + 1) z (bareT z m2) := by
      show textN x [(y, bareT y m), (z, bareT z m2)] = _
      simp only [textN]
      rw [if_neg (by omega), if_neg (by omega), if_neg (by omega), hkn]
    rw [hkn]
    refine (bt_sign (kn : Int) t0 t1 u0 u1 w (bareT x (.node b1 o1 y m (.node b2 o2 z m2 .nil))) fun W hW => ?_)
    have hshW := hsh.below hW (Nat.le_refl _)
    have hup : ∀ {W'}, Below W.heap.size W W' → Below w.heap.size w W' := fun h => hW.trans (h.mono hW.size)
    by_cases hcmp : 10 ≤ (kn : Int) ∧ (kn : Int) ≤ 15
    · have h3 := level_cmp hcmp
      have hf : firstN kn = 4 := by unfold firstN; rw [if_pos h3]
      have hl1 := hshW.level kn (by omega) (by omega)
      rw [h3] at hl1
      rw [hT, hf, h3]
      exact sign_text_cmp kn (by omega) (by omega) _ _ t0 t1 u0 u1 W hshW.1 (hshW.kids kn (by omega) (by omega)) hl1 (hshW.sign kn (by omega) (by omega)) _ _ (hsY 4) (hsZ 4) hg
        (fun W' h => kid_textAt hK hsh iY hf0 hn0' 4 W' (hup h)) (fun W' h => kid_textAt hK hsh iZ hf1 hn1' 4 W' (hup h))
    · have h3 := level_not_cmp (k := (kn : Int)) (by omega) (by omega) hcmp
      have hf : firstN kn = levelN kn := by unfold firstN; rw [if_neg h3]
      rw [hT, hf]
      exact sign_text_bin kn (by omega) (by omega) _ _ (levelN kn) (level_lo _) (level_hi _) h3 t0 t1 u0 u1 W hshW.1 (hshW.kids kn (by omega) (by omega)) (hshW.level kn (by omega) (by omega)) (hshW.sign kn (by omega) (by omega)) _ _ (hsY _) (hsZ _) hg
        (fun W' h => kid_textAt hK hsh iY hf0 hn0' _ W' (hup h)) (fun W' h => kid_textAt hK hsh iZ hf1 hn1' _ W' (hup h))
  · obtain ⟨kn, hkn⟩ := Int.eq_ofNat_of_zero_le (show 0 ≤ x.kind by omega)
    have hw12 : ws.length = 1 ∨ ws.length = 2 := by
      rcases (show x.kind = 18 ∨ x.kind = 19 ∨ x.kind = 20 by omega) with h | h | h <;> rw [h] at hwl <;> simp [arity] at hwl <;> omega
    have hcall : ∀ G : ByteArray, (G.size : Int) ≤ 3 → (∀ W, Below w.heap.size w W → W.cell? ⟨0, kn * 3 + 2, none⟩ = some (.string G)) → G ++ ⟨#[40]⟩ ++ joinT (textsF l) ++ ⟨#[41]⟩ = bareT x l →
        Calls Tryz.prog 17 #[.iface 86 (.agg #[.int .i64 (kn : Int), .slice (some ⟨g, 0, none⟩) ws.length cap])] w fun e w' => e = .returned (.string (bareT x l)) ∧ Below w.heap.size w w' := by
      intro G hG hcell hR
      refine bt_call (kn : Int) _ _ _ w (bareT x l) fun W hW => ?_
      rw [← hR]
      exact call_text kn (by omega) (by omega) G hG l B g cap ws W (Nat.lt_of_lt_of_le hsh.1 hW.size) (hcell W hW) (Nat.lt_of_lt_of_le hgw hW.size) (hrow.agree (Agree.of_below (B := B) hW) hBg hgw) (hF.agree (Agree.of_below hW)) (by omega) (by omega) (hK.up hW)
    have hsg : ∀ W, Below w.heap.size w W → ∀ k (h : k < shapesL.length), W.cell? ⟨0, k * 3 + 2, none⟩ = some (.string shapesL[k].2.2) := fun W hW k h => ((hsh.below hW (Nat.le_refl _)).2 k h).2.2
    rw [hkn]
    rcases (show kn = 18 ∨ kn = 19 ∨ kn = 20 by omega) with rfl | rfl | rfl
    · have hc : cnt l = 2 := by rw [← hcl]; rw [hkn] at hwl; simp [arity] at hwl; omega
      obtain ⟨b1, o1, y, m, b2, o2, z, m2, rfl⟩ := cnt_two hc
      refine hcall ⟨#[109, 105, 110]⟩ (by decide) (fun W hW => hsg W hW 18 (by decide)) ?_
      show _ = textN x [(y, bareT y m), (z, bareT z m2)]
      rw [show textsF (.node b1 o1 y m (.node b2 o2 z m2 .nil)) = [bareT y m, bareT z m2] from rfl, join_two]
      simp only [textN]
      rw [if_pos (by omega)]
      apply ByteArray.ext
      simp
    · have hc : cnt l = 2 := by rw [← hcl]; rw [hkn] at hwl; simp [arity] at hwl; omega
      obtain ⟨b1, o1, y, m, b2, o2, z, m2, rfl⟩ := cnt_two hc
      refine hcall ⟨#[109, 97, 120]⟩ (by decide) (fun W hW => hsg W hW 19 (by decide)) ?_
      show _ = textN x [(y, bareT y m), (z, bareT z m2)]
      rw [show textsF (.node b1 o1 y m (.node b2 o2 z m2 .nil)) = [bareT y m, bareT z m2] from rfl, join_two]
      simp only [textN]
      rw [if_neg (by omega), if_pos (by omega)]
      apply ByteArray.ext
      simp
    · have hc : cnt l = 1 := by rw [← hcl]; rw [hkn] at hwl; simp [arity] at hwl; omega
      obtain ⟨b1, o1, y, m, rfl⟩ := cnt_one hc
      refine hcall ⟨#[97, 98, 115]⟩ (by decide) (fun W hW => hsg W hW 20 (by decide)) ?_
      show _ = textN x [(y, bareT y m)]
      rw [show textsF (.node b1 o1 y m .nil) = [bareT y m] from rfl, join_one]
      simp only [textN]
      rw [if_neg (by omega), if_neg (by omega)]
      apply ByteArray.ext
      simp
  · obtain ⟨b1, o1, y, m, b2, o2, z, m2, b3, o3, u, m3, rfl⟩ := cnt_three (l := l) (by simpa using hcl.symm)
    obtain ⟨v0, rest, us, e0, hf0, hn0', hr⟩ := hF
    obtain ⟨rfl, rfl⟩ := List.cons.inj e0
    obtain ⟨v1, rest1, us1, e1, hf1, hn1', hr1⟩ := hr
    obtain ⟨rfl, rfl⟩ := List.cons.inj e1
    obtain ⟨v2, rest2, us2, e2, hf2, hn2', hr2⟩ := hr1
    obtain ⟨rfl, rfl⟩ := List.cons.inj e2
    obtain ⟨t0, u0, rfl⟩ := hn0'.iface
    obtain ⟨t1, u1, rfl⟩ := hn1'.iface
    obtain ⟨t2, u2, rfl⟩ := hn2'.iface
    have s0 := (hK y m (.inl ⟨rfl, rfl⟩)).1
    have s1 := (hK z m2 (.inr (.inl ⟨rfl, rfl⟩))).1
    have s2 := (hK u m3 (.inr (.inr (.inl ⟨rfl, rfl⟩)))).1
    refine (bt_if t0 t1 t2 u0 u1 u2 w _ _ _ (by omega) (by omega) (by omega) (kid_text hK (.inl ⟨rfl, rfl⟩) hf0 hn0') (kid_text hK (.inr (.inl ⟨rfl, rfl⟩)) hf1 hn1') (kid_text hK (.inr (.inr (.inl ⟨rfl, rfl⟩))) hf2 hn2')).mono ?_
    rintro e w' ⟨rfl, h⟩
    refine ⟨?_, h⟩
    show _ = Ending.returned (.string (textN x [(y, bareT y m), (z, bareT z m2), (u, bareT u m3)]))
    simp only [textN]
    rw [if_pos hk]
  · obtain ⟨b1, o1, y, m, b2, o2, z, m2, rfl⟩ := cnt_two (l := l) (by simpa using hcl.symm)
    obtain ⟨v0, rest, us, e0, hf0, hn0', hr⟩ := hF
    obtain ⟨rfl, rfl⟩ := List.cons.inj e0
    obtain ⟨v1, rest1, us1, e1, hf1, hn1', hr1⟩ := hr
    obtain ⟨rfl, rfl⟩ := List.cons.inj e1
    obtain ⟨t0, u0, rfl⟩ := hn0'.iface
    obtain ⟨t1, u1, rfl⟩ := hn1'.iface
    have s0 := (hK y m (.inl ⟨rfl, rfl⟩)).1
    have s1 := (hK z m2 (.inr (.inl ⟨rfl, rfl⟩))).1
    refine (bt_let x.name t0 t1 u0 u1 w _ _ hs (by omega) (by omega) (kid_text hK (.inl ⟨rfl, rfl⟩) hf0 hn0') (kid_text hK (.inr (.inl ⟨rfl, rfl⟩)) hf1 hn1')).mono ?_
    rintro e w' ⟨rfl, h⟩
    refine ⟨?_, h⟩
    show _ = Ending.returned (.string (textN x [(y, bareT y m), (z, bareT z m2)]))
    simp only [textN]
    rw [if_neg (by omega), if_neg (by omega), if_pos hk]
  · obtain ⟨b1, o1, y, m, b2, o2, z, m2, b3, o3, u, m3, rfl⟩ := cnt_three (l := l) (by simpa using hcl.symm)
    obtain ⟨v0, rest, us, e0, hf0, hn0', hr⟩ := hF
    obtain ⟨rfl, rfl⟩ := List.cons.inj e0
    obtain ⟨v1, rest1, us1, e1, hf1, hn1', hr1⟩ := hr
    obtain ⟨rfl, rfl⟩ := List.cons.inj e1
    obtain ⟨v2, rest2, us2, e2, hf2, hn2', hr2⟩ := hr1
    obtain ⟨rfl, rfl⟩ := List.cons.inj e2
    obtain ⟨t0, u0, rfl⟩ := hn0'.iface
    obtain ⟨t1, u1, rfl⟩ := hn1'.iface
    obtain ⟨t2, u2, rfl⟩ := hn2'.iface
    have s0 := (hK y m (.inl ⟨rfl, rfl⟩)).1
    have s1 := (hK z m2 (.inr (.inl ⟨rfl, rfl⟩))).1
    have s2 := (hK u m3 (.inr (.inr (.inl ⟨rfl, rfl⟩)))).1
    refine (bt_rep x.name t0 t1 t2 u0 u1 u2 w _ _ _ hs (by omega) (by omega) (by omega) (kid_text hK (.inl ⟨rfl, rfl⟩) hf0 hn0') (kid_text hK (.inr (.inl ⟨rfl, rfl⟩)) hf1 hn1') (kid_text hK (.inr (.inr (.inl ⟨rfl, rfl⟩))) hf2 hn2')).mono ?_
    rintro e w' ⟨rfl, h⟩
    refine ⟨?_, h⟩
    show _ = Ending.returned (.string (textN x [(y, bareT y m), (z, bareT z m2), (u, bareT u m3)]))
    simp only [textN]
    rw [if_neg (by omega)]

theorem fbare_all (f : BT NodeV) : ∀ y m, InF y m f → FBareSaid y m := by
  induction f with
  | nil => intro y m h; exact h.elim
  | node b o x l r ihl ihr =>
    intro y m h
    rcases h with ⟨rfl, rfl⟩ | h
    · exact fbare_one y m ihl
    · exact ihr y m h
theorem fbare_any (x : NodeV) (l : BT NodeV) : FBareSaid x l := fbare_one x l (fbare_all l)

set_option maxHeartbeats 1600000 in
theorem implShow_any (w : World) (b off cap : Nat) (ns : List NodeV) (hl : ns.length ≤ 1048576) (hc : NodesAt w b off ns) (hb : b < w.heap.size) (hs : NamesOk ns) (hsh : ShapesIn w) (htab : Lib.TabIs Tryz.prog w "internal/strconv.uint64pow10" .u64 Lib.pow10Tab) :
    Calls Tryz.prog 6 #[.slice (some ⟨b, off, none⟩) ns.length cap] w fun e w' => RetShow ns e ∧ Below w.heap.size w w' := by
  have HC := hide hc
  have HSH := hide hsh
  have HTB := hide htab
  clear hc hsh htab
  go_enter Tryz.func6, Tryz.ntmps6
  go_wp2_with fail
  refine (treeOf_any w b off cap ns hl (unhide HC) hb hs (unhide HSH)).mono ?_
  rintro e w1 ⟨⟨x, l, v, ws, hok, rfl, hfs, hnode⟩ | ⟨hno, rfl⟩, hb1⟩
  · have HOK := hide hok
    have hlen : (fl l).length + 1 ≤ 400 := by
      have h1 := hok.size
      rw [hok.eq] at h1
      simpa using h1
    have HT := hide (fbare_any x l w1 _ v ws hfs hnode ((unhide HSH).below hb1 (Nat.le_refl _)) (tab_below (unhide HTB) hb1 (Nat.le_refl _)) (fun n hn => hok.own n (by rw [hok.eq]; exact hn)) hlen)
    obtain ⟨tv, uv, rfl⟩ := hnode.iface
    clear hnode hok hfs
    go_wp2_with (first
      | (go_at_call 17; refine (unhide HT).mono ?_; rintro e w4 ⟨rfl, hb4⟩))
    go_ret
    exact ⟨.inl ⟨x, l, unhide HOK, rfl⟩, hb1.trans (hb4.mono hb1.size)⟩
  · have hf := hide hno
    clear hno
    go_wp2_with fail
    go_ret
    exact ⟨.inr ⟨unhide hf, rfl⟩, hb1⟩

end Go.Proofs.YtkfhokeoooafnaaGreatDoor
