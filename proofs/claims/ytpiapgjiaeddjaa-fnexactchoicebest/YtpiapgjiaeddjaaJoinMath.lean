/-
  The join of two stamps: the two ways to make it come to the same.
-/
import Derived.Test.YtpiapgjiaeddjaaMerged26
set_option linter.unusedVariables false
namespace Go.Proofs.Ytpiapgjiaeddjaa
open Go.RowKit Go.Maps Go.Deep

/-- a mark put where it belongs -/
def ins : List MarkV → MarkV → List MarkV
  | [], m => [m]
  | x :: xs, m => if lessS x.a0 m.a0 then x :: ins xs m else if x.a0 = m.a0 then m :: xs else m :: x :: xs
theorem set_past (m : MarkV) : ∀ (ns : List MarkV) (o : List MarkV), (∀ x ∈ ns, x.a0 ≠ m.a0) → ns.foldl (setStep m) (o, true) = (o ++ ns, true)
  | [], o, _ => by simp
  | x :: xs, o, h => by
    have e : setStep m (o, true) x = (o ++ [x], true) := by
      unfold setStep
      dsimp only
      rw [if_neg (h x (by simp))]
      simp
    rw [List.foldl_cons, e, set_past m xs _ (fun y hy => h y (by simp [hy]))]
    simp
theorem set_ins (m : MarkV) : ∀ (ns : List MarkV) (o : List MarkV), AscM ns → (if (ns.foldl (setStep m) (o, false)).2 then (ns.foldl (setStep m) (o, false)).1 else (ns.foldl (setStep m) (o, false)).1 ++ [m]) = o ++ ins ns m
  | [], o, _ => by simp [ins]
  | x :: xs, o, h => by
    rw [List.foldl_cons]
    cases hl : lessS x.a0 m.a0
    · by_cases he : x.a0 = m.a0
      · have e : setStep m (o, false) x = (o ++ [m], true) := by
          unfold setStep
          dsimp only
          rw [if_pos he, hl]
          simp
        have ei : ins (x :: xs) m = m :: xs := by unfold ins; rw [hl, if_neg (by simp), if_pos he]
        rw [e, set_past m xs _ (fun y hy => by have := less_ne (h.1 y hy); rw [he] at this; exact fun e => this e.symm), ei]
        simp
      · have e : setStep m (o, false) x = (o ++ [m] ++ [x], true) := by
          unfold setStep
          dsimp only
          rw [if_neg he, hl]
          simp
        have hmx : lessS m.a0 x.a0 = true := by
          cases hmx : lessS m.a0 x.a0
          · exact absurd (less_tri hl hmx) he
          · rfl
        rw [e, set_past m xs _ (fun y hy e => by have := less_ne (less_trans hmx (h.1 y hy)); exact this e.symm)]
        simp [ins, hl, he]
    · have he : x.a0 ≠ m.a0 := less_ne hl
      have e : setStep m (o, false) x = (o ++ [x], false) := by
        unfold setStep
        dsimp only
        rw [if_neg he, hl]
        simp
      rw [e, set_ins m xs _ h.2]
      simp [ins, hl]
theorem setF_ins {ns : List MarkV} (h : AscM ns) (m : MarkV) : setF ns m = ins ns m := by
  have := set_ins m ns [] h
  rw [List.nil_append] at this
  exact this
theorem ins_mem {ns : List MarkV} {m y : MarkV} (hy : y ∈ ins ns m) : y = m ∨ y ∈ ns := by
  induction ns with
  | nil => simpa [ins] using hy
  | cons x xs ih =>
    unfold ins at hy
    split at hy
    · rcases List.mem_cons.1 hy with rfl | hy
      · right; simp
      · rcases ih hy with h | h
        · left; exact h
        · right; simp [h]
    · split at hy
      · rcases List.mem_cons.1 hy with rfl | hy
        · left; rfl
        · right; simp [hy]
      · rcases List.mem_cons.1 hy with rfl | hy
        · left; rfl
        · right; exact hy
theorem ins_asc {ns : List MarkV} (h : AscM ns) (m : MarkV) : AscM (ins ns m) := by
  induction ns with
  | nil => exact ⟨by simp, trivial⟩
  | cons x xs ih =>
    unfold ins
    cases hl : lessS x.a0 m.a0
    · by_cases he : x.a0 = m.a0
      · simp only [he, if_true, Bool.false_eq_true, if_false]
        exact ⟨fun y hy => by rw [← he]; exact h.1 y hy, h.2⟩
      · have hmx : lessS m.a0 x.a0 = true := by
          cases hmx : lessS m.a0 x.a0
          · exact absurd (less_tri hl hmx) he
          · rfl
        simp only [he, Bool.false_eq_true, if_false]
        refine ⟨fun y hy => ?_, h⟩
        rcases List.mem_cons.1 hy with rfl | hy
        · exact hmx
        · exact less_trans hmx (h.1 y hy)
    · simp only [if_true]
      refine ⟨fun y hy => ?_, ih h.2⟩
      rcases ins_mem hy with rfl | hy
      · exact hl
      · exact h.1 y hy
theorem ins_get {ns : List MarkV} (h : AscM ns) (m : MarkV) (s : ByteArray) : getV (ins ns m) s = if m.a0 = s then m.a1 else getV ns s := by
  induction ns with
  | nil => simp [ins, getV]
  | cons x xs ih =>
    unfold ins
    cases hl : lessS x.a0 m.a0
    · by_cases he : x.a0 = m.a0
      · simp only [he, if_true, Bool.false_eq_true, if_false, getV]
        split <;> rfl
      · simp only [he, Bool.false_eq_true, if_false, getV]
    · have hne := less_ne hl
      simp only [if_true, getV, ih h.2]
      by_cases e1 : x.a0 = s
      · have : ¬ m.a0 = s := fun e => hne (e1.trans e.symm)
        simp [e1, this]
      · simp [e1]
theorem ins_len (ns : List MarkV) (m : MarkV) : (ins ns m).length ≤ ns.length + 1 := by
  induction ns with
  | nil => simp [ins]
  | cons x xs ih =>
    unfold ins
    split
    · simp; omega
    · split <;> simp
theorem ins_end {ns : List MarkV} {m : MarkV} (h : ∀ x ∈ ns, lessS x.a0 m.a0 = true) : ins ns m = ns ++ [m] := by
  induction ns with
  | nil => rfl
  | cons x xs ih =>
    unfold ins
    rw [if_pos (h x (by simp)), ih (fun y hy => h y (by simp [hy]))]
    rfl
def PosM (ns : List MarkV) : Prop := ∀ x ∈ ns, 1 ≤ x.a1
theorem getV_nonneg {ns : List MarkV} (h : PosM ns) (s : ByteArray) : 0 ≤ getV ns s := by
  induction ns with
  | nil => simp [getV]
  | cons x xs ih =>
    unfold getV
    split
    · have := h x (by simp); omega
    · exact ih (fun y hy => h y (by simp [hy]))
theorem getV_pos {ns : List MarkV} (ha : AscM ns) (hp : PosM ns) {s : ByteArray} (h : srcIn s ns) : 1 ≤ getV ns s := by
  obtain ⟨x, hx, rfl⟩ := h
  rw [getV_mem ha hx]
  exact hp x hx
/-- ascending marks are told by their versions -/
theorem marks_ext : ∀ (xs ys : List MarkV), AscM xs → AscM ys → PosM xs → PosM ys → (∀ s, getV xs s = getV ys s) → xs = ys
  | [], [], _, _, _, _, _ => rfl
  | [], y :: ys, _, _, _, hp, h => by
    have h1 := h y.a0
    have h2 := hp y (by simp)
    simp [getV] at h1
    omega
  | x :: xs, [], _, _, hp, _, h => by
    have h1 := h x.a0
    have h2 := hp x (by simp)
    simp [getV] at h1
    omega
  | x :: xs, y :: ys, ha, hb, hp, hq, h => by
    have hx1 := hp x (by simp)
    have hy1 := hq y (by simp)
    have e0 : x.a0 = y.a0 := by
      cases hl : lessS x.a0 y.a0
      · cases hr : lessS y.a0 x.a0
        · exact less_tri hl hr
        · exfalso
          have h1 := h y.a0
          have h2 : getV (x :: xs) y.a0 = 0 := getV_none fun z hz => by
            rcases List.mem_cons.1 hz with rfl | hz
            · exact fun e => less_ne hr e.symm
            · exact fun e => less_ne (less_trans hr (ha.1 z hz)) e.symm
          rw [h2] at h1
          simp [getV] at h1
          omega
      · exfalso
        have h1 := h x.a0
        have h2 : getV (y :: ys) x.a0 = 0 := getV_none fun z hz => by
          rcases List.mem_cons.1 hz with rfl | hz
          · exact fun e => less_ne hl e.symm
          · exact fun e => less_ne (less_trans hl (hb.1 z hz)) e.symm
        rw [h2] at h1
        simp [getV] at h1
        omega
    have e1 : x.a1 = y.a1 := by
      have h1 := h x.a0
      simpa [getV, e0] using h1
    have e2 : xs = ys := by
      refine marks_ext xs ys ha.2 hb.2 (fun z hz => hp z (by simp [hz])) (fun z hz => hq z (by simp [hz])) fun s => ?_
      by_cases e : x.a0 = s
      · have h1 : getV xs s = 0 := getV_none fun z hz e' => less_ne (ha.1 z hz) (e.trans e'.symm)
        have h2 : getV ys s = 0 := getV_none fun z hz e' => less_ne (hb.1 z hz) (e0.symm.trans (e.trans e'.symm))
        rw [h1, h2]
      · have h1 := h s
        rwa [getV_tail e, getV_tail (fun e' => e (e0.trans e'))] at h1
    obtain ⟨x0, x1⟩ := x
    obtain ⟨y0, y1⟩ := y
    simp only at e0 e1
    subst e0 e1 e2
    rfl
def joinStep (out : List MarkV) (y : MarkV) : List MarkV := if getV out y.a0 < y.a1 then setF out y else out
def joinA (xa : List MarkV) : List MarkV := xa.foldl setF []
def joinG (xa xb : List MarkV) : List MarkV := xb.foldl joinStep xa
theorem joinA_snoc (xs : List MarkV) (x : MarkV) : joinA (xs ++ [x]) = setF (joinA xs) x := by simp [joinA]
theorem asc_snoc : ∀ {xs : List MarkV} {x : MarkV}, AscM (xs ++ [x]) → AscM xs ∧ ∀ y ∈ xs, lessS y.a0 x.a0 = true
  | [], x, _ => ⟨trivial, by simp⟩
  | z :: zs, x, h => by
    obtain ⟨h1, h2⟩ := asc_snoc (xs := zs) h.2
    refine ⟨⟨fun y hy => h.1 y (by simp [hy]), h1⟩, fun y hy => ?_⟩
    rcases List.mem_cons.1 hy with rfl | hy
    · exact h.1 x (by simp)
    · exact h2 y hy
theorem asc_take {xs : List MarkV} (h : AscM xs) (k : Nat) : AscM (xs.take k) := by
  induction xs generalizing k with
  | nil => simpa using h
  | cons x xs ih =>
    cases k with
    | zero => simp; trivial
    | succ k =>
      rw [List.take_succ_cons]
      exact ⟨fun y hy => h.1 y (List.mem_of_mem_take hy), ih h.2 k⟩
/-- of a stamp's own marks its join is the stamp -/
theorem joinA_take {xa : List MarkV} (h : AscM xa) : ∀ k, k ≤ xa.length → joinA (xa.take k) = xa.take k := by
  intro k
  induction k with
  | zero => intro _; simp [joinA]
  | succ k ih =>
    intro hk
    have hlt : k < xa.length := by omega
    have ha := asc_take h (k + 1)
    rw [List.take_succ_eq_append_getElem hlt] at ha ⊢
    obtain ⟨h1, h2⟩ := asc_snoc ha
    rw [joinA_snoc, ih (by omega), setF_ins h1, ins_end h2]
theorem join_inv {out ys : List MarkV} (hy : PosM ys) (ho : AscM out) (hp : PosM out) : AscM (joinG out ys) ∧ PosM (joinG out ys) ∧ (joinG out ys).length ≤ out.length + ys.length := by
  induction ys generalizing out with
  | nil => exact ⟨ho, hp, by simp [joinG]⟩
  | cons y ys ih =>
    unfold joinG
    rw [List.foldl_cons]
    have hy1 := hy y (by simp)
    have hys : PosM ys := fun z hz => hy z (by simp [hz])
    unfold joinStep
    split
    · rw [setF_ins ho]
      obtain ⟨a, b, c⟩ := ih (out := ins out y) hys (ins_asc ho y) (fun z hz => by
        rcases ins_mem hz with rfl | hz
        · exact hy1
        · exact hp z hz)
      refine ⟨a, b, ?_⟩
      have := ins_len out y
      simp only [joinG] at c
      simp only [List.length_cons]
      unfold joinStep at c
      omega
    · obtain ⟨a, b, c⟩ := ih (out := out) hys ho hp
      refine ⟨a, b, ?_⟩
      simp only [joinG] at c
      simp only [List.length_cons]
      unfold joinStep at c
      omega
theorem join_get {out ys : List MarkV} (hy : PosM ys) (ha : AscM ys) (ho : AscM out) (hp : PosM out) (s : ByteArray) : getV (joinG out ys) s = if getV out s < getV ys s then getV ys s else getV out s := by
  induction ys generalizing out with
  | nil =>
    have := getV_nonneg hp s
    show getV out s = if getV out s < 0 then (0 : Int) else getV out s
    rw [if_neg (by omega)]
  | cons y ys ih =>
    have hys : PosM ys := fun z hz => hy z (by simp [hz])
    have hy1 := hy y (by simp)
    have hstep : joinG out (y :: ys) = joinG (joinStep out y) ys := by simp [joinG]
    rw [hstep]
    by_cases hlt : getV out y.a0 < y.a1
    · have e : joinStep out y = ins out y := by unfold joinStep; rw [if_pos hlt, setF_ins ho]
      rw [e, ih hys ha.2 (ins_asc ho y) (fun z hz => by
        rcases ins_mem hz with rfl | hz
        · exact hy1
        · exact hp z hz), ins_get ho]
      by_cases es : y.a0 = s
      · subst es
        have h0 : getV ys y.a0 = 0 := getV_none fun z hz e' => less_ne (ha.1 z hz) e'.symm
        simp only [if_true, h0, getV]
        rw [if_neg (by omega), if_pos hlt]
      · simp only [if_neg es, getV_tail es]
    · have e : joinStep out y = out := by unfold joinStep; rw [if_neg hlt]
      rw [e, ih hys ha.2 ho hp]
      by_cases es : y.a0 = s
      · subst es
        have h0 : getV ys y.a0 = 0 := getV_none fun z hz e' => less_ne (ha.1 z hz) e'.symm
        have h1 := getV_nonneg hp y.a0
        simp only [h0, getV, if_true]
        rw [if_neg (by omega), if_neg hlt]
      · simp only [getV_tail es]
/-- the later mark of a pair -/
def maxP (p : MarkV × MarkV) : MarkV := if p.1.a1 < p.2.a1 then p.2 else p.1
def joinL (xa xb : List MarkV) : List MarkV := (sideL xa xb).map maxP
theorem maxP_src (xa xb : List MarkV) (s : ByteArray) : (maxP (pairOf xa xb s)).a0 = s := by unfold maxP pairOf; dsimp only; split <;> rfl
theorem maxP_ver (xa xb : List MarkV) (s : ByteArray) : (maxP (pairOf xa xb s)).a1 = if getV xa s < getV xb s then getV xb s else getV xa s := by unfold maxP pairOf; dsimp only; split <;> rfl
theorem joinL_src {xa xb : List MarkV} (ha : AscM xa) (hb : AscM xb) {z : MarkV} (hz : z ∈ joinL xa xb) : ∃ s, (srcIn s xa ∨ srcIn s xb) ∧ z = maxP (pairOf xa xb s) := by
  obtain ⟨p, hp, rfl⟩ := List.mem_map.1 hz
  obtain ⟨s, hs, rfl⟩ := (side_mem xa xb ha hb p).1 hp
  exact ⟨s, hs, rfl⟩
theorem side_asc (xa xb : List MarkV) : AscM xa → AscM xb → AscM ((sideL xa xb).map maxP) := by
  fun_induction sideL xa xb with
  | case1 => intro _ _; trivial
  | case2 x xs ih =>
    intro ha hb
    refine ⟨fun z hz => ?_, ih ha.2 hb⟩
    obtain ⟨s, hs, rfl⟩ := joinL_src ha.2 hb hz
    rw [maxP_src]
    have e : (maxP (x, ⟨x.a0, 0⟩)).a0 = x.a0 := by unfold maxP; dsimp only; split <;> rfl
    rw [e]
    exact srcIn_above ha.1 (hs.resolve_right (by simp [srcIn]))
  | case3 y ys ih =>
    intro ha hb
    refine ⟨fun z hz => ?_, ih ha hb.2⟩
    obtain ⟨s, hs, rfl⟩ := joinL_src ha hb.2 hz
    rw [maxP_src]
    have e : (maxP (⟨y.a0, 0⟩, y)).a0 = y.a0 := by unfold maxP; dsimp only; split <;> rfl
    rw [e]
    exact srcIn_above hb.1 (hs.resolve_left (by simp [srcIn]))
  | case4 x xs y ys hl ih =>
    intro ha hb
    refine ⟨fun z hz => ?_, ih ha.2 hb⟩
    obtain ⟨s, hs, rfl⟩ := joinL_src ha.2 hb hz
    rw [maxP_src]
    have e : (maxP (x, ⟨x.a0, 0⟩)).a0 = x.a0 := by unfold maxP; dsimp only; split <;> rfl
    rw [e]
    rcases hs with hs | hs
    · exact srcIn_above ha.1 hs
    · rcases srcIn_cons.1 hs with rfl | hs
      · exact hl
      · exact less_trans hl (srcIn_above hb.1 hs)
  | case5 x xs y ys hl hr ih =>
    intro ha hb
    refine ⟨fun z hz => ?_, ih ha hb.2⟩
    obtain ⟨s, hs, rfl⟩ := joinL_src ha hb.2 hz
    rw [maxP_src]
    have e : (maxP (⟨y.a0, 0⟩, y)).a0 = y.a0 := by unfold maxP; dsimp only; split <;> rfl
    rw [e]
    rcases hs with hs | hs
    · rcases srcIn_cons.1 hs with rfl | hs
      · exact hr
      · exact less_trans hr (srcIn_above ha.1 hs)
    · exact srcIn_above hb.1 hs
  | case6 x xs y ys hl hr ih =>
    intro ha hb
    have exy : x.a0 = y.a0 := less_tri (by simpa using hl) (by simpa using hr)
    refine ⟨fun z hz => ?_, ih ha.2 hb.2⟩
    obtain ⟨s, hs, rfl⟩ := joinL_src ha.2 hb.2 hz
    rw [maxP_src]
    have e : (maxP (x, y)).a0 = x.a0 := by unfold maxP; dsimp only; split <;> simp [exy]
    rw [e]
    rcases hs with hs | hs
    · exact srcIn_above ha.1 hs
    · rw [exy]; exact srcIn_above hb.1 hs
theorem join_same {xa xb : List MarkV} (ha : mstampB xa = true) (hb : mstampB xb = true) : joinG xa xb = joinL xa xb := by
  have aa := asc_of_stamp ha
  have ab := asc_of_stamp hb
  have pa : PosM xa := pos_of_stamp ha
  have pb : PosM xb := pos_of_stamp hb
  have al : AscM (joinL xa xb) := side_asc xa xb aa ab
  have pl : PosM (joinL xa xb) := fun z hz => by
    obtain ⟨s, hs, rfl⟩ := joinL_src aa ab hz
    rw [maxP_ver]
    split
    · have := getV_nonneg pa s; omega
    · rcases hs with hs | hs
      · exact getV_pos aa pa hs
      · have := getV_pos ab pb hs; omega
  obtain ⟨ag, pg, _⟩ := join_inv pb aa pa
  refine marks_ext _ _ ag al pg pl fun s => ?_
  rw [join_get pb ab aa pa]
  by_cases h : srcIn s xa ∨ srcIn s xb
  · have hm : maxP (pairOf xa xb s) ∈ joinL xa xb := List.mem_map.2 ⟨_, (side_mem xa xb aa ab _).2 ⟨s, h, rfl⟩, rfl⟩
    have := getV_mem al hm
    rw [maxP_src, maxP_ver] at this
    exact this.symm
  · have h1 : getV xa s = 0 := getV_not fun e => h (.inl e)
    have h2 : getV xb s = 0 := getV_not fun e => h (.inr e)
    have h3 : getV (joinL xa xb) s = 0 := getV_none fun z hz e => by
      obtain ⟨s', hs, rfl⟩ := joinL_src aa ab hz
      rw [maxP_src] at e
      subst e
      exact h hs
    rw [h1, h2, h3]
    rfl
end Go.Proofs.Ytpiapgjiaeddjaa
