/-
  The join of two stamps: the two ways to make it come to the same.
-/
/-
  StampJoin of the specification.
-/
/-
  What a round of the program's StampJoin leaves behind; append at a step of a region that draws its order, within a round.
-/
import Derived.Test.YtknkdbfgfcgkiaaGreatDoorJoinSet
import Derived.Test.YtknkdbfgfcgkiaaGreatDoorMerged15
import Derived.Test.YtknkdbfgfcgkiaaGreatDoorMerged18
import Derived.Test.YtknkdbfgfcgkiaaGreatDoorMerged10
import Derived.Maps.AppendAt
set_option linter.unusedVariables false
namespace Go.Proofs.YtknkdbfgfcgkiaaGreatDoor
open Go.RowKit Go.Maps Go.Deep

/-- a mark put where it belongs -/
def ins : List MarkV → MarkV → List MarkV
 | [], m => [m]
 | x :: xs, m => if lessS x.a0 m.a0 then x :: ins xs m else if x.a0 = m.a0 then m :: xs else m :: x :: xs
theorem set_past (m : MarkV) : ∀ (ns : List MarkV) (o : List MarkV), (∀ x ∈ ns, x.a0 ≠ m.a0) → ns.foldl (setStep m) (o, true) = (o ++ ns, true)
 | [], o, _ => by simp
 | x :: xs, o, h => by
  have e : setStep m (o, true) x = (o ++ [x], true) := by
   unfold setStep
   dsimp only
   rw [if_neg (h x (by simp))]
   simp
  rw [List.foldl_cons, e, set_past m xs _ (fun y hy => h y (by simp [hy]))]
  simp
theorem set_ins (m : MarkV) : ∀ (ns : List MarkV) (o : List MarkV), AscM ns → (if (ns.foldl (setStep m) (o, false)).2 then (ns.foldl (setStep m) (o, false)).1 else (ns.foldl (setStep m) (o, false)).1 ++ [m]) = o ++ ins ns m
 | [], o, _ => by simp [ins]
 | x :: xs, o, h => by
  rw [List.foldl_cons]
  cases hl : lessS x.a0 m.a0
  ·by_cases he : x.a0 = m.a0
   ·have e : setStep m (o, false) x = (o ++ [m], true) := by
     unfold setStep
     dsimp only
     rw [if_pos he, hl]
     simp
    have ei : ins (x :: xs) m = m :: xs := by unfold ins; rw [hl, if_neg (by simp), if_pos he]
    rw [e, set_past m xs _ (fun y hy => by have := less_ne (h.1 y hy); rw [he] at this; exact fun e => this e.symm), ei]
    simp
   ·have e : setStep m (o, false) x = (o ++ [m] ++ [x], true) := by
     unfold setStep
     dsimp only
     rw [if_neg he, hl]
     simp
    have hmx : lessS m.a0 x.a0 = true := by
     cases hmx : lessS m.a0 x.a0
     ·exact absurd (less_tri hl hmx) he
     ·rfl
    rw [e, set_past m xs _ (fun y hy e => by have := less_ne (less_trans hmx (h.1 y hy)); exact this e.symm)]
    simp [ins, hl, he]
  ·have he : x.a0 ≠ m.a0 := less_ne hl
   have e : setStep m (o, false) x = (o ++ [x], false) := by
    unfold setStep
    dsimp only
    rw [if_neg he, hl]
    simp
   rw [e, set_ins m xs _ h.2]
   simp [ins, hl]
theorem setF_ins {ns : List MarkV} (h : AscM ns) (m : MarkV) : setF ns m = ins ns m := by
 have := set_ins m ns [] h
 rw [List.nil_append] at this
 exact this
theorem ins_mem {ns : List MarkV} {m y : MarkV} (hy : y ∈ ins ns m) : y = m ∨ y ∈ ns := by
 induction ns with
 | nil => simpa [ins] using hy
 | cons x xs ih =>
  unfold ins at hy
  split at hy
  ·rcases List.mem_cons.1 hy with rfl | hy
   ·right; simp
   ·rcases ih hy with h | h
    ·left; exact h
    ·right; simp [h]
  ·split at hy
   ·rcases List.mem_cons.1 hy with rfl | hy
    ·left; rfl
    ·right; simp [hy]
   ·rcases List.mem_cons.1 hy with rfl | hy
    ·left; rfl
    ·right; exact hy
theorem ins_asc {ns : List MarkV} (h : AscM ns) (m : MarkV) : AscM (ins ns m) := by
 induction ns with
 | nil => exact ⟨by simp, trivial⟩
 | cons x xs ih =>
  unfold ins
  cases hl : lessS x.a0 m.a0
  ·by_cases he : x.a0 = m.a0
   ·simp only [he, if_true, Bool.false_eq_true, if_false]
    exact ⟨fun y hy => by rw [← he]; exact h.1 y hy, h.2⟩
   ·have hmx : lessS m.a0 x.a0 = true := by
     cases hmx : lessS m.a0 x.a0
     ·exact absurd (less_tri hl hmx) he
     ·rfl
    simp only [he, Bool.false_eq_true, if_false]
    refine ⟨fun y hy => ?_, h⟩
    rcases List.mem_cons.1 hy with rfl | hy
    ·exact hmx
    ·exact less_trans hmx (h.1 y hy)
  ·simp only [if_true]
   refine ⟨fun y hy => ?_, ih h.2⟩
   rcases ins_mem hy with rfl | hy
   ·exact hl
   ·exact h.1 y hy
theorem ins_get {ns : List MarkV} (h : AscM ns) (m : MarkV) (s : ByteArray) : getV (ins ns m) s = if m.a0 = s then m.a1 else getV ns s := by
 induction ns with
 | nil => simp [ins, getV]
 | cons x xs ih =>
  unfold ins
  cases hl : lessS x.a0 m.a0
  ·by_cases he : x.a0 = m.a0
   ·simp only [he, if_true, Bool.false_eq_true, if_false, getV]
    split <;> rfl
   ·simp only [he, Bool.false_eq_true, if_false, getV]
  ·have hne := less_ne hl
   simp only [if_true, getV, ih h.2]
   by_cases e1 : x.a0 = s
   ·have : ¬ m.a0 = s := fun e => hne (e1.trans e.symm)
    simp [e1, this]
   ·simp [e1]
theorem ins_len (ns : List MarkV) (m : MarkV) : (ins ns m).length ≤ ns.length + 1 := by
 induction ns with
 | nil => simp [ins]
 | cons x xs ih =>
  unfold ins
  split
  ·simp; omega
  ·split <;> simp
theorem ins_end {ns : List MarkV} {m : MarkV} (h : ∀ x ∈ ns, lessS x.a0 m.a0 = true) : ins ns m = ns ++ [m] := by
 induction ns with
 | nil => rfl
 | cons x xs ih =>
  unfold ins
  rw [if_pos (h x (by simp)), ih (fun y hy => h y (by simp [hy]))]
  rfl
def PosM (ns : List MarkV) : Prop := ∀ x ∈ ns, 1 ≤ x.a1
theorem getV_nonneg {ns : List MarkV} (h : PosM ns) (s : ByteArray) : 0 ≤ getV ns s := by
 induction ns with
 | nil => simp [getV]
 | cons x xs ih =>
  unfold getV
  split
  ·have := h x (by simp); omega
  ·exact ih (fun y hy => h y (by simp [hy]))
theorem getV_pos {ns : List MarkV} (ha : AscM ns) (hp : PosM ns) {s : ByteArray} (h : srcIn s ns) : 1 ≤ getV ns s := by
 obtain ⟨x, hx, rfl⟩ := h
 rw [getV_mem ha hx]
 exact hp x hx
/-- ascending marks are told by their versions -/
theorem marks_ext : ∀ (xs ys : List MarkV), AscM xs → AscM ys → PosM xs → PosM ys → (∀ s, getV xs s = getV ys s) → xs = ys
 | [], [], _, _, _, _, _ => rfl
 | [], y :: ys, _, _, _, hp, h => by
  have h1 := h y.a0
  have h2 := hp y (by simp)
  simp [getV] at h1
  omega
 | x :: xs, [], _, _, hp, _, h => by
  have h1 := h x.a0
  have h2 := hp x (by simp)
  simp [getV] at h1
  omega
 | x :: xs, y :: ys, ha, hb, hp, hq, h => by
  have hx1 := hp x (by simp)
  have hy1 := hq y (by simp)
  have e0 : x.a0 = y.a0 := by
   cases hl : lessS x.a0 y.a0
   ·cases hr : lessS y.a0 x.a0
    ·exact less_tri hl hr
    ·exfalso
     have h1 := h y.a0
     have h2 : getV (x :: xs) y.a0 = 0 := getV_none fun z hz => by
      rcases List.mem_cons.1 hz with rfl | hz
      ·exact fun e => less_ne hr e.symm
      ·exact fun e => less_ne (less_trans hr (ha.1 z hz)) e.symm
     rw [h2] at h1
     simp [getV] at h1
     omega
   ·exfalso
    have h1 := h x.a0
    have h2 : getV (y :: ys) x.a0 = 0 := getV_none fun z hz => by
     rcases List.mem_cons.1 hz with rfl | hz
     ·exact fun e => less_ne hl e.symm
     ·exact fun e => less_ne (less_trans hl (hb.1 z hz)) e.symm
    rw [h2] at h1
    simp [getV] at h1
    omega
  have e1 : x.a1 = y.a1 := by
   have h1 := h x.a0
   simpa [getV, e0] using h1
  have e2 : xs = ys := by
   refine marks_ext xs ys ha.2 hb.2 (fun z hz => hp z (by simp [hz])) (fun z hz => hq z (by simp [hz])) fun s => ?_
   by_cases e : x.a0 = s
   ·have h1 : getV xs s = 0 := getV_none fun z hz e' => less_ne (ha.1 z hz) (e.trans e'.symm)
    have h2 : getV ys s = 0 := getV_none fun z hz e' => less_ne (hb.1 z hz) (e0.symm.trans (e.trans e'.symm))
    rw [h1, h2]
   ·have h1 := h s
    rwa [getV_tail e, getV_tail (fun e' => e (e0.trans e'))] at h1
  obtain ⟨x0, x1⟩ := x
  obtain ⟨y0, y1⟩ := y
  simp only at e0 e1
  subst e0 e1 e2
  rfl
def joinStep (out : List MarkV) (y : MarkV) : List MarkV := if getV out y.a0 < y.a1 then setF out y else out
def joinA (xa : List MarkV) : List MarkV := xa.foldl setF []
def joinG (xa xb : List MarkV) : List MarkV := xb.foldl joinStep xa
theorem joinA_snoc (xs : List MarkV) (x : MarkV) : joinA (xs ++ [x]) = setF (joinA xs) x := by simp [joinA]
theorem asc_snoc : ∀ {xs : List MarkV} {x : MarkV}, AscM (xs ++ [x]) → AscM xs ∧ ∀ y ∈ xs, lessS y.a0 x.a0 = true
 | [], x, _ => ⟨trivial, by simp⟩
 | z :: zs, x, h => by
  obtain ⟨h1, h2⟩ := asc_snoc (xs := zs) h.2
  refine ⟨⟨fun y hy => h.1 y (by simp [hy]), h1⟩, fun y hy => ?_⟩
  rcases List.mem_cons.1 hy with rfl | hy
  ·exact h.1 x (by simp)
  ·exact h2 y hy
theorem asc_take {xs : List MarkV} (h : AscM xs) (k : Nat) : AscM (xs.take k) := by
 induction xs generalizing k with
 | nil => simpa using h
 | cons x xs ih =>
  cases k with
  | zero => simp; trivial
  | succ k =>
   rw [List.take_succ_cons]
   exact ⟨fun y hy => h.1 y (List.mem_of_mem_take hy), ih h.2 k⟩
/-- of a stamp's own marks its join is the stamp -/
theorem joinA_take {xa : List MarkV} (h : AscM xa) : ∀ k, k ≤ xa.length → joinA (xa.take k) = xa.take k := by
 intro k
 induction k with
 | zero => intro _; simp [joinA]
 | succ k ih =>
  intro hk
  have hlt : k < xa.length := by omega
  have ha := asc_take h (k + 1)
  rw [List.take_succ_eq_append_getElem hlt] at ha ⊢
  obtain ⟨h1, h2⟩ := asc_snoc ha
  rw [joinA_snoc, ih (by omega), setF_ins h1, ins_end h2]
theorem join_inv {out ys : List MarkV} (hy : PosM ys) (ho : AscM out) (hp : PosM out) : AscM (joinG out ys) ∧ PosM (joinG out ys) ∧ (joinG out ys).length ≤ out.length + ys.length := by
 induction ys generalizing out with
 | nil => exact ⟨ho, hp, by simp [joinG]⟩
 | cons y ys ih =>
  unfold joinG
  rw [List.foldl_cons]
  have hy1 := hy y (by simp)
  have hys : PosM ys := fun z hz => hy z (by simp [hz])
  unfold joinStep
  split
  ·rw [setF_ins ho]
   obtain ⟨a, b, c⟩ := ih (out := ins out y) hys (ins_asc ho y) (fun z hz => by
    rcases ins_mem hz with rfl | hz
    ·exact hy1
    ·exact hp z hz)
   refine ⟨a, b, ?_⟩
   have := ins_len out y
   simp only [joinG] at c
   simp only [List.length_cons]
   unfold joinStep at c
   omega
  ·obtain ⟨a, b, c⟩ := ih (out := out) hys ho hp
   refine ⟨a, b, ?_⟩
   simp only [joinG] at c
   simp only [List.length_cons]
   unfold joinStep at c
   omega
theorem join_get {out ys : List MarkV} (hy : PosM ys) (ha : AscM ys) (ho : AscM out) (hp : PosM out) (s : ByteArray) : getV (joinG out ys) s = if getV out s < getV ys s then getV ys s else getV out s := by
 induction ys generalizing out with
 | nil =>
  have := getV_nonneg hp s
  show getV out s = if getV out s < 0 then (0 : Int) else getV out s
  rw [if_neg (by omega)]
 | cons y ys ih =>
  have hys : PosM ys := fun z hz => hy z (by simp [hz])
  have hy1 := hy y (by simp)
  have hstep : joinG out (y :: ys) = joinG (joinStep out y) ys := by simp [joinG]
  rw [hstep]
  by_cases hlt : getV out y.a0 < y.a1
  ·have e : joinStep out y = ins out y := by unfold joinStep; rw [if_pos hlt, setF_ins ho]
   rw [e, ih hys ha.2 (ins_asc ho y) (fun z hz => by
    rcases ins_mem hz with rfl | hz
    ·exact hy1
    ·exact hp z hz), ins_get ho]
   by_cases es : y.a0 = s
   ·subst es
    have h0 : getV ys y.a0 = 0 := getV_none fun z hz e' => less_ne (ha.1 z hz) e'.symm
    simp only [if_true, h0, getV]
    rw [if_neg (by omega), if_pos hlt]
   ·simp only [if_neg es, getV_tail es]
  ·have e : joinStep out y = out := by unfold joinStep; rw [if_neg hlt]
   rw [e, ih hys ha.2 ho hp]
   by_cases es : y.a0 = s
   ·subst es
    have h0 : getV ys y.a0 = 0 := getV_none fun z hz e' => less_ne (ha.1 z hz) e'.symm
    have h1 := getV_nonneg hp y.a0
    simp only [h0, getV, if_true]
    rw [if_neg (by omega), if_neg hlt]
   ·simp only [getV_tail es]
/-- the later mark of a pair -/
def maxP (p : MarkV × MarkV) : MarkV := if p.1.a1 < p.2.a1 then p.2 else p.1
def joinL (xa xb : List MarkV) : List MarkV := (sideL xa xb).map maxP
theorem maxP_src (xa xb : List MarkV) (s : ByteArray) : (maxP (pairOf xa xb s)).a0 = s := by unfold maxP pairOf; dsimp only; split <;> rfl
theorem maxP_ver (xa xb : List MarkV) (s : ByteArray) : (maxP (pairOf xa xb s)).a1 = if getV xa s < getV xb s then getV xb s else getV xa s := by unfold maxP pairOf; dsimp only; split <;> rfl
theorem joinL_src {xa xb : List MarkV} (ha : AscM xa) (hb : AscM xb) {z : MarkV} (hz : z ∈ joinL xa xb) : ∃ s, (srcIn s xa ∨ srcIn s xb) ∧ z = maxP (pairOf xa xb s) := by
 obtain ⟨p, hp, rfl⟩ := List.mem_map.1 hz
 obtain ⟨s, hs, rfl⟩ := (side_mem xa xb ha hb p).1 hp
 exact ⟨s, hs, rfl⟩
theorem side_asc (xa xb : List MarkV) : AscM xa → AscM xb → AscM ((sideL xa xb).map maxP) := by
 fun_induction sideL xa xb with
 | case1 => intro _ _; trivial
 | case2 x xs ih =>
  intro ha hb
  refine ⟨fun z hz => ?_, ih ha.2 hb⟩
  obtain ⟨s, hs, rfl⟩ := joinL_src ha.2 hb hz
  rw [maxP_src]
  have e : (maxP (x, ⟨x.a0, 0⟩)).a0 = x.a0 := by unfold maxP; dsimp only; split <;> rfl
  rw [e]
  exact srcIn_above ha.1 (hs.resolve_right (by simp [srcIn]))
 | case3 y ys ih =>
  intro ha hb
  refine ⟨fun z hz => ?_, ih ha hb.2⟩
  obtain ⟨s, hs, rfl⟩ := joinL_src ha hb.2 hz
  rw [maxP_src]
  have e : (maxP (⟨y.a0, 0⟩, y)).a0 = y.a0 := by unfold maxP; dsimp only; split <;> rfl
  rw [e]
  exact srcIn_above hb.1 (hs.resolve_left (by simp [srcIn]))
 | case4 x xs y ys hl ih =>
  intro ha hb
  refine ⟨fun z hz => ?_, ih ha.2 hb⟩
  obtain ⟨s, hs, rfl⟩ := joinL_src ha.2 hb hz
  rw [maxP_src]
  have e : (maxP (x, ⟨x.a0, 0⟩)).a0 = x.a0 := by unfold maxP; dsimp only; split <;> rfl
  rw [e]
  rcases hs with hs | hs
  ·exact srcIn_above ha.1 hs
  ·rcases srcIn_cons.1 hs with rfl | hs
   ·exact hl
   ·exact less_trans hl (srcIn_above hb.1 hs)
 | case5 x xs y ys hl hr ih =>
  intro ha hb
  refine ⟨fun z hz => ?_, ih ha hb.2⟩
  obtain ⟨s, hs, rfl⟩ := joinL_src ha hb.2 hz
  rw [maxP_src]
  have e : (maxP (⟨y.a0, 0⟩, y)).a0 = y.a0 := by unfold maxP; dsimp only; split <;> rfl
  rw [e]
  rcases hs with hs | hs
  ·rcases srcIn_cons.1 hs with rfl | hs
   ·exact hr
   ·exact less_trans hr (srcIn_above ha.1 hs)
  ·exact srcIn_above hb.1 hs
 | case6 x xs y ys hl hr ih =>
  intro ha hb
  have exy : x.a0 = y.a0 := less_tri (by simpa using hl) (by simpa using hr)
  refine ⟨fun z hz => ?_, ih ha.2 hb.2⟩
  obtain ⟨s, hs, rfl⟩ := joinL_src ha.2 hb.2 hz
  rw [maxP_src]
  have e : (maxP (x, y)).a0 = x.a0 := by unfold maxP; dsimp only; split <;> simp [exy]
  rw [e]
  rcases hs with hs | hs
  ·exact srcIn_above ha.1 hs
  ·rw [exy]; exact srcIn_above hb.1 hs
theorem join_same {xa xb : List MarkV} (ha : mstampB xa = true) (hb : mstampB xb = true) : joinG xa xb = joinL xa xb := by
 have aa := asc_of_stamp ha
 have ab := asc_of_stamp hb
 have pa : PosM xa := pos_of_stamp ha
 have pb : PosM xb := pos_of_stamp hb
 have al : AscM (joinL xa xb) := side_asc xa xb aa ab
 have pl : PosM (joinL xa xb) := fun z hz => by
  obtain ⟨s, hs, rfl⟩ := joinL_src aa ab hz
  rw [maxP_ver]
  split
  ·have := getV_nonneg pa s; omega
  ·rcases hs with hs | hs
   ·exact getV_pos aa pa hs
   ·have := getV_pos ab pb hs; omega
 obtain ⟨ag, pg, _⟩ := join_inv pb aa pa
 refine marks_ext _ _ ag al pg pl fun s => ?_
 rw [join_get pb ab aa pa]
 by_cases h : srcIn s xa ∨ srcIn s xb
 ·have hm : maxP (pairOf xa xb s) ∈ joinL xa xb := List.mem_map.2 ⟨_, (side_mem xa xb aa ab _).2 ⟨s, h, rfl⟩, rfl⟩
  have := getV_mem al hm
  rw [maxP_src, maxP_ver] at this
  exact this.symm
 ·have h1 : getV xa s = 0 := getV_not fun e => h (.inl e)
  have h2 : getV xb s = 0 := getV_not fun e => h (.inr e)
  have h3 : getV (joinL xa xb) s = 0 := getV_none fun z hz e => by
   obtain ⟨s', hs, rfl⟩ := joinL_src aa ab hz
   rw [maxP_src] at e
   subst e
   exact h hs
  rw [h1, h2, h3]
  rfl
end Go.Proofs.YtknkdbfgfcgkiaaGreatDoor

set_option linter.unusedVariables false
namespace Go.Proofs.YtknkdbfgfcgkiaaGreatDoor
open Go.RowKit Go.Maps Go.Deep

def joinOkB (xa xb : List MarkV) : Bool := mstampB xa && mstampB xb && decide ((joinL xa xb).length ≤ 12)
def joinV (xa xb : List MarkV) : List MarkV := if joinOkB xa xb then joinL xa xb else []
def RetJoin (xa xb : List MarkV) (w : World) (e : Ending) (w' : World) : Prop := ∃ v, e = .returned (.tuple #[v, .bool (joinOkB xa xb)]) ∧ Hid (MkRow w.heap.size w' v (joinV xa xb)) ∧ Below w.heap.size w w'
theorem stamp_len12 {ns : List MarkV} (h : mstampB ns = true) : ns.length ≤ 12 := by
 simp [mstampB] at h
 exact h.1
theorem set_take {xa : List MarkV} (h : AscM xa) (k : Nat) (hk : k < xa.length) : setF (xa.take k) xa[k] = xa.take (k + 1) := by
 have h1 := joinA_take h k (by omega)
 have h2 := joinA_take h (k + 1) (by omega)
 rw [List.take_succ_eq_append_getElem hk, joinA_snoc, h1] at h2
 rw [List.take_succ_eq_append_getElem hk]
 exact h2
theorem joinG_take (xa xb : List MarkV) (k : Nat) (hk : k < xb.length) : joinG xa (xb.take (k + 1)) = joinStep (joinG xa (xb.take k)) xb[k] := by
 unfold joinG
 rw [List.take_succ_eq_append_getElem hk, List.foldl_append]
 rfl
theorem joinG_len {xa xb : List MarkV} (ha : mstampB xa = true) (hb : mstampB xb = true) (k : Nat) : (joinG xa (xb.take k)).length ≤ 24 := by
 have h1 := stamp_len12 ha
 have h2 := stamp_len12 hb
 obtain ⟨_, _, h⟩ := join_inv (out := xa) (ys := xb.take k) (fun z hz => pos_of_stamp hb z (List.mem_of_mem_take hz)) (asc_of_stamp ha) (pos_of_stamp ha)
 have : (xb.take k).length ≤ xb.length := by simp; omega
 omega
theorem l13Get_rd (ns : List MarkV) (v : Value) (s : ByteArray) (w : World) (hl : (ns.length : Int) ≤ 1048576) (h : MarkSRd w v ns) : Calls Tryz.prog 85 #[v, .string s] w fun e w' => e = .returned (.int .i64 (getV ns s)) ∧ Below w.heap.size w w' := by
 obtain ⟨a, c, rfl, h⟩ := h
 rcases h with rfl | ⟨b, off, rfl, hb, hc⟩
 ·refine (l13Get_none w a c s).mono ?_
  rintro e w' ⟨rfl, rfl⟩
  exact ⟨rfl, Below.refl _ _⟩
 ·refine (l13Get_row w b off c ns s hl hc).mono ?_
  rintro e w' ⟨rfl, rfl⟩
  exact ⟨rfl, Below.refl _ _⟩
set_option maxRecDepth 20000 in
set_option maxHeartbeats 6400000 in
theorem specJoin_yes (a b : Option Addr) (ca cb : Nat) (xa xb : List MarkV) (w : World) (hsa : SmallMarkS xa) (hsb : SmallMarkS xb) (oa : mstampB xa = true) (ob : mstampB xb = true) (hA : MarkIn w a xa) (hB : MarkIn w b xb) :
  Calls Tryz.prog 61 #[.slice a xa.length ca, .slice b xb.length cb] w fun e w' => RetJoin xa xb w e w' := by
 have HO1 := hide (fun W (bb : Below w.heap.size w W) => specStampOk_any xa (.slice a xa.length ca) W hsa ⟨a, ca, rfl, hA.below bb⟩)
 have HO2 := hide (fun W (bb : Below w.heap.size w W) => specStampOk_any xb (.slice b xb.length cb) W hsb ⟨b, cb, rfl, hB.below bb⟩)
 have OA := hide oa
 have OB := hide ob
 have HA := hide hA
 have HB := hide hB
 have hla := stamp_len12 oa
 have hlb := stamp_len12 ob
 rw [oa] at HO1
 rw [ob] at HO2
 clear hA hB hsa hsb oa ob
 go_enter Tryz.func61, Tryz.ntmps61
 go_wp2_with fail
 refine (unhide HO1 _ (Below.refl _ _)).mono ?_
 rintro e w1 ⟨rfl, b1⟩
 have B1 := hide b1
 clear b1
 go_wp2_with fail
 refine (unhide HO2 _ (unhide B1)).mono ?_
 rintro e w2 ⟨rfl, b2⟩
 have B2 := hide ((unhide B1).trans (b2.mono (unhide B1).size))
 clear b2
 go_wp2_with fail
 go_loopw [6, 7] (fun v i wr => ∃ k : Nat, k ≤ xa.length ∧ i = .int .i64 k ∧ Hid (MkRow w.heap.size wr v (xa.take k)) ∧ Hid (Below w.heap.size w wr)) (fun _ i _ => xa.length - (intOf i).toNat)
 case atStart => exact ⟨0, Nat.zero_le _, rfl, by simp; exact MkRow.nil _ _, B2⟩
 case round =>
  obtain ⟨k, hk, rfl, HR, HBr⟩ := hrel
  by_cases hlt : k < xa.length
  ·have HAr := hide ((unhide HA).below (unhide HBr))
   rcases unhide HA with rfl | ⟨ba, oa, rfl, hba, hca⟩
   ·simp at hlt
   obtain ⟨c0, c1⟩ := hca.below (unhide HBr) hba k hlt
   have HS := hide (l13Set_any (xa.take k) _ xa[k] wr (by simp; omega) (unhide HR).rd)
   rw [set_take (asc_of_stamp (unhide OA)) k hlt] at HS
   obtain ⟨av, cv, rfl⟩ := (unhide HR).slice
   clear hca HAr HR
   generalize xa[k].a0 = x0 at *
   generalize xa[k].a1 = x1 at *
   generalize (xa.take k).length = nl at *
   go_wp2_with fail
   refine (unhide HS).mono ?_
   rintro e w3 ⟨v3, rfl, R3, b3⟩
   have B3 := hide ((unhide HBr).trans (b3.mono (unhide HBr).size))
   have R3' := hide ((unhide R3).mono (unhide HBr).size)
   clear b3 R3 c0 c1
   go_wp2_with fail
   go_roundw
   case rel => exact ⟨k + 1, by omega, by go_num, R3', B3⟩
   case measure => simp [intOf]; omega
  ·obtain rfl : k = xa.length := by omega
   rw [List.take_length] at HR
   clear hlt hk HO1 HO2
   go_wp2_with fail
   go_loopw [6, 8] (fun v i wr => ∃ (k : Nat) (out : List MarkV), k ≤ xb.length ∧ i = .int .i64 k ∧ Hid (out = joinG xa (xb.take k)) ∧ Hid (MkRow w.heap.size wr v out) ∧ Hid (Below w.heap.size w wr)) (fun _ i _ => xb.length - (intOf i).toNat)
   case atStart => exact ⟨0, xa, Nat.zero_le _, rfl, hide (by simp [joinG]), HR, HBr⟩
   case round =>
    obtain ⟨k, out, hk, rfl, HOU, HR2, HBr2⟩ := hrel
    have hlo : (out.length : Int) ≤ 24 := by have := joinG_len (unhide OA) (unhide OB) k; rw [← unhide HOU] at this; omega
    obtain ⟨av, cv, hv⟩ := (unhide HR2).slice
    subst hv
    by_cases hlt : k < xb.length
    ·rcases unhide HB with rfl | ⟨bb, ob, rfl, hbb, hcb⟩
     ·simp at hlt
     obtain ⟨c0, c1⟩ := hcb.below (unhide HBr2) hbb k hlt
     have HS := hide (fun (W : World) (bW : Below wr.heap.size wr W) => l13Set_any out (.slice av out.length cv) xb[k] W (by omega) ((unhide HR2).up bW).rd)
     have HG := hide (fun (x : LaterW wr) => l13Get_rd out (.slice av out.length cv) xb[k].a0 x.to (by omega) ((unhide HR2).up x.bel).rd)
     have HT := hide (joinG_take xa xb k hlt)
     rw [← unhide HOU] at HT
     unfold joinStep at HT
     obtain ⟨g, HGE⟩ : ∃ g, Hid (getV out xb[k].a0 = g) := ⟨_, hide rfl⟩
     rw [unhide HGE] at HG HT
     have HCB := hide hcb
     clear hcb HOU HGE
     generalize hm : xb[k] = m at *
     obtain ⟨x0, x1⟩ := m
     clear hm
     have r0 : ∀ x : LaterW wr, x.to.cell? ⟨bb, ob + k * 2, none⟩ = some (.string x0) := fun x => x.cell c0
     have r1 : ∀ x : LaterW wr, x.to.cell? ⟨bb, ob + k * 2 + 1, none⟩ = some (.int .i64 x1) := fun x => x.cell c1
     by_cases h1 : g < x1
     ·rw [if_pos h1] at HT
      go_wp2_with fail
      refine wp_region_later (by kernel_rfl) (by kernel_rfl) ?_
      repeat (go_big_quiet_step ((go_at_call 85; exact quiet_ret (unhide HG _))))
      refine wpQuiet_nil ?_
      rintro _ ⟨x, rfl⟩
      have d0 := r0 x
      have d1 := r1 x
      have HS2 := hide (unhide HS x.to x.bel)
      have B5 := hide ((unhide HBr2).trans (x.bel.mono (unhide HBr2).size))
      clear r0 r1 HG HS c0 c1
      obtain ⟨W5, bel5⟩ := x
      dsimp only at d0 d1 HS2 B5 ⊢
      clear bel5
      go_wp2_with fail
      refine (unhide HS2).mono ?_
      rintro e w6 ⟨v6, rfl, R6, b6⟩
      have B6 := hide ((unhide B5).trans (b6.mono (unhide B5).size))
      have R6' := hide ((unhide R6).mono (unhide B5).size)
      clear b6 R6 d0 d1
      go_wp2_with fail
      go_roundw
      case rel => exact ⟨k + 1, _, by omega, by go_num, hide (unhide HT).symm, R6', B6⟩
      case measure => simp [intOf]; omega
     ·rw [if_neg h1] at HT
      go_wp2_with fail
      refine wp_region_later (by kernel_rfl) (by kernel_rfl) ?_
      repeat (go_big_quiet_step ((go_at_call 85; exact quiet_ret (unhide HG _))))
      refine wpQuiet_nil ?_
      rintro _ ⟨x, rfl⟩
      have B5 := hide ((unhide HBr2).trans (x.bel.mono (unhide HBr2).size))
      have R5 := hide ((unhide HR2).up x.bel)
      clear r0 r1 HG HS c0 c1
      go_wp2_with fail
      go_roundw
      case rel => exact ⟨k + 1, _, by omega, by go_num, hide (unhide HT).symm, R5, B5⟩
      case measure => simp [intOf]; omega
    ·obtain rfl : k = xb.length := by omega
     rw [List.take_length] at HOU
     have HOL := hide ((unhide HOU).trans (join_same (unhide OA) (unhide OB)))
     by_cases h12 : (out.length : Int) ≤ 12
     ·have HE := hide (show joinOkB xa xb = true by unfold joinOkB; rw [unhide OA, unhide OB, ← unhide HOL]; simp; omega)
      have g12 : ¬ 12 < (out.length : Int) := by omega
      go_wp2_with fail
      refine bodyPost_ret (v := .tuple #[.slice av out.length cv, .bool true]) (by simp [results, Tryz.results61, go_sem]) rfl ?_
      exact ⟨_, by rw [unhide HE], hide (by unfold joinV; rw [unhide HE, if_pos rfl, ← unhide HOL]; exact unhide HR2), unhide HBr2⟩
     ·have HE := hide (show joinOkB xa xb = false by unfold joinOkB; rw [← unhide HOL]; simp; omega)
      have g12 : 12 < (out.length : Int) := by omega
      go_wp2_with fail
      refine bodyPost_ret (v := .tuple #[.slice none 0 0, .bool false]) (by simp [results, Tryz.results61, go_sem]) rfl ?_
      exact ⟨_, by rw [unhide HE], hide (by unfold joinV; rw [unhide HE, if_neg (by simp)]; exact MkRow.nil _ _), unhide HBr2⟩
end Go.Proofs.YtknkdbfgfcgkiaaGreatDoor

set_option linter.unusedVariables false
namespace Go.Proofs.YtknkdbfgfcgkiaaGreatDoor
open Go.RowKit Go.Maps Go.Deep Go.Shelf

theorem stepIn_markAppend {F : Fence} {n : Nat} {w : World} {ops : Array Oper} {o : Oper} {a : Act} {K : Act → World → Prop} {Q : Exit → Act → World → Prop} {E : Prop} (hgd : o.guard = none) (s x : Operand)
  (ho : o.op = .call { callee := .builtin .append, args := #[s, x], argTypes := #[34, 34] }) (B : Nat) (v : Value) (ns : List MarkV) (y : MarkV) (g : Nat) (hs : a.eval s = v) (hx : a.eval x = .slice (some ⟨g, 0, none⟩) 1 1)
  (hv : MkRow B w v ns) (c0 : w.cell? ⟨g, 0, none⟩ = some (.string y.a0)) (c1 : w.cell? ⟨g, 1, none⟩ = some (.int .i64 y.a1)) (hl : ns.length ≤ 1000000) (hB : B ≤ w.heap.size)
  (h : ∀ g' n' c w', MkRow B w' (.slice (some ⟨g', 0, none⟩) n' c) (ns ++ [y]) → w.grownBy w' v.ownBlock → K (a.put o.dst (.slice (some ⟨g', 0, none⟩) n' c)) w') :
  if Region.wanted o (yielded ops a.tmps) = true then Oper.wpIn F n Tryz.prog o a w K Q else E := by
 have hw : Region.wanted o (yielded ops a.tmps) = true := by simp [Region.wanted, hgd]
 rw [if_pos hw]
 obtain ⟨i0, hi, hz0, hz1, hz2⟩ := info_parts1 infoMk
 obtain ⟨g', cap, w', hrun, r1, r2, r3, r4⟩ := run_append_lies (P := Tryz.prog) (w := w) 34 o.type B 112 i0 _ 2 24 Tryz.underlying34 hi hz0 hz1 hz2 rfl (by decide) v ns.length (mkCells ns) hv ⟨g, 0, none⟩ 1 1 [.string y.a0, .int .i64 y.a1] rfl (news_mark c0 c1) (by intro u hu; simp at hu; rcases hu with rfl | rfl <;> rfl) (by decide) (by unfold maxLen; omega) (by omega) hB w.heap.size rfl
 unfold Oper.wpIn
 refine ⟨?_, ?_⟩
 ·simp [Oper.about, ho, resolve, Target.leads, Sem.run_pure]
 ·rw [Oper.semAt_plain F _ _ (by rw [ho]; intro c hc'; cases hc')]
  simp [execOp, ho, resolve, invoke, builtin, hs, hx, hrun, Result.andThen]
  refine h g' _ cap w' ?_ r2
  unfold MkRow
  rw [mkCells_snoc, List.length_append]
  exact r1
theorem side_small {xa xb : List MarkV} (hsa : SmallMarkS xa) (hsb : SmallMarkS xb) (oa : mstampB xa = true) (ob : mstampB xb = true) : ∀ p ∈ sideL xa xb, p.1.a0.size ≤ 1048576 ∧ p.2.a0.size ≤ 1048576 := by
 intro p hp
 obtain ⟨s, hs, rfl⟩ := (side_mem xa xb (asc_of_stamp oa) (asc_of_stamp ob) p).1 hp
 have : s.size ≤ 1048576 := by
  rcases hs with ⟨x, hx, rfl⟩ | ⟨x, hx, rfl⟩
  ·exact hsa.1.2 x hx
  ·exact hsb.1.2 x hx
 exact ⟨this, this⟩
def maxQ (x : MPair) : MarkV := maxP x.1
def JoinPost (w w2 : World) (pre : List MPair) (W W' : World) : Prop := KeepsFrom (w2.heap.size + 3) W W' ∧ Keep (w2.heap.size + 3) [w2.heap.size] W W' ∧
 (((∃ v, Boxed W' w2.heap.size 34 v ∧ W'.ownsRow (w2.heap.size + 3) 112 2 v (pre.map maxQ).length (mkCells (pre.map maxQ)) ∧ pre.length ≤ 12) ∧ Boxed W' w.heap.size 34 (.slice none 0 0)) ∧ Boxed W' (w.heap.size + 1) 4 (.bool false)) ∧ Below w.heap.size w W' ∧ w2.heap.size + 3 ≤ W'.heap.size
theorem join_leaf {w w2 W W1 w5 w6 : World} {pre : List MPair} {ns ns6 : List MarkV} {m : MarkV} {B : Nat} {v v6 : Value} {ob : Obj} (hz2 : w.heap.size + 2 ≤ w2.heap.size) (hz0 : w2.heap.size + 3 ≤ W.heap.size) (tB : Turn [B] W W1) (zB : W1.heap.size = W.heap.size) (kk : KeepsOthers W W1)
  (bJ : Boxed W1 w2.heap.size 34 v) (bR : Boxed W1 w.heap.size 34 (.slice none 0 0)) (bQ : Boxed W1 (w.heap.size + 1) 4 (.bool false)) (r2 : MkRow (w2.heap.size + 3) W1 v ns) (hBx : w2.heap.size + 3 ≤ B) (hB1 : Below w.heap.size w W)
  (b5 : Below W1.heap.size W1 w5) (hr6 : MkRow (w2.heap.size + 3) w6 v6 ns6) (hg6 : (w5.alloc ob).grownBy w6 v.ownBlock) (hns : pre.map maxQ = ns6) (h12 : pre.length ≤ 12) : JoinPost w w2 pre W (w6.setCell ⟨w2.heap.size, 0, none⟩ v6) := by
 have h5 := b5.size
 have h6 := hg6.size
 have hA : (w5.alloc ob).heap.size = w5.heap.size + 1 := by simp
 have hge := r2.ge
 have blk : ∀ k, k < W1.heap.size → v.ownBlock ≠ some k → w6.heap[k]? = W1.heap[k]? := fun k hk hv => by
  rw [hg6.block k (by omega) (fun e => hv e.symm), Below.heap_alloc _ _ _ (by omega), b5.block k hk]
 have bJ6 : Boxed w6 w2.heap.size 34 v := (blk _ bJ.lt (fun e => by have := hge _ e; omega)).trans bJ
 have bR6 : Boxed w6 w.heap.size 34 (.slice none 0 0) := (blk _ bR.lt (fun e => by have := hge _ e; omega)).trans bR
 have bQ6 : Boxed w6 (w.heap.size + 1) 4 (.bool false) := (blk _ bQ.lt (fun e => by have := hge _ e; omega)).trans bQ
 have k5 : KeepsOthers W1 w5 := KeepsOthers.of_grownBy (row := none) ⟨b5.os, b5.tape, b5.output, b5.size, fun k hk _ => b5.block k hk⟩ (fun r ob' e _ => by cases e)
 have r5 : MkRow (w2.heap.size + 3) (w5.alloc ob) v ns := (r2.up b5).up ((Below.refl _ _).alloc (Nat.le_refl _) ob)
 have k6 : KeepsOthers (w5.alloc ob) w6 := KeepsOthers.of_grownBy hg6 (fun r ob' e hob => by
  rcases r5.2 with ⟨rfl, _⟩ | ⟨g, cap, cur, rfl, _, hg, _⟩
  ·simp [Value.ownBlock] at e
  ·simp [Value.ownBlock] at e
   subst e
   rw [hg] at hob
   cases hob
   rfl)
 have bl6 : Below w.heap.size w w6 := ⟨by rw [hg6.os]; exact b5.os.trans (tB.os.trans hB1.os), by rw [hg6.tape]; exact b5.tape.trans (tB.tape.trans hB1.tape), by rw [hg6.output]; exact b5.output.trans (tB.output.trans hB1.output), by have := hB1.size; omega, fun k hk => by
  have hsz := hB1.size
  rw [blk k (by omega) (fun e => by have := hge _ e; omega), tB.block k (by omega) (by simp; omega), hB1.block k hk]⟩
 refine ⟨((((kk.trans k5).trans (KeepsOthers.alloc _ _)).trans k6).trans (KeepsOthers.setCell _ _ _)).from _, ?_, ⟨⟨⟨v6, bJ6.set v6, ?_, h12⟩, bR6.other (by omega) _⟩, bQ6.other (by omega) _⟩, bl6.setCell (p := ⟨w2.heap.size, 0, none⟩) (by show w.heap.size ≤ w2.heap.size; omega) _, by simp; omega⟩
 ·refine Keep.setCell ⟨by omega, fun k hk hS => ?_⟩ (by simp) _ _
  rw [blk k (by omega) (fun e => by have := hge _ e; omega), tB.block k (by omega) (by simp; omega)]
 ·rw [hns]
  exact hr6.keep (fun g hg => Below.heap_setCell w6 ⟨w2.heap.size, 0, none⟩ v6 g (fun e => by have := hr6.ge _ hg; simp only at e; omega))
end Go.Proofs.YtknkdbfgfcgkiaaGreatDoor
