/-
  How many choices agree: counted window by window.
-/
import Derived.Test.YtnijccmhajjdoaaChoiceI4
set_option linter.unusedVariables false
namespace Go.Proofs.Ytnijccmhajjdoaa
open Go.RowKit Go.Maps Go.Deep

/-- the choices of some windows that agree with what was chosen ahead of them -/
def cb : List (List ItemV) → List (List MarkV) → Nat
  | [], _ => 1
  | win :: rest, ss => (win.map (fun it => if agAll it.a1 ss then cb rest (ss ++ [it.a1]) else 0)).sum
/-- the choices that agree and begin so -/
def cs (ws : List (List ItemV)) : List (List ItemV) → List Int → Nat
  | [], ps => if agB ws ps then 1 else 0
  | win :: rest, ps => if agB ws ps then ((List.range win.length).map (fun (i : Nat) => cs ws rest (ps ++ [(i : Int)]))).sum else 0
theorem all_mem {l : List Nat} {f g : Nat → Bool} (h : ∀ a ∈ l, f a = g a) : l.all f = l.all g := by
  induction l with
  | nil => rfl
  | cons x xs ih => simp only [List.all_cons]; rw [h x (by simp), ih (fun a ha => h a (by simp [ha]))]
theorem stamp_old {ws : List (List ItemV)} {ps : List Int} {x : Int} {j : Nat} (h : j < ps.length) : stampAt ws (ps ++ [x]) j = stampAt ws ps j := by
  unfold stampAt
  simp only [List.getD_eq_getElem?_getD, List.getElem?_append_left h]
theorem stamp_new {ws : List (List ItemV)} {ps : List Int} {win : List ItemV} {i : Nat} (hw : ws[ps.length]? = some win) (hi : i < win.length) : stampAt ws (ps ++ [(i : Int)]) ps.length = win[i].a1 := by
  unfold stampAt
  simp only [List.getD_eq_getElem?_getD, hw, Option.getD_some, List.getElem?_append_right (Nat.le_refl _), Nat.sub_self, List.getElem?_cons_zero, Int.toNat_natCast, List.getElem?_eq_getElem hi, Option.map_some]
theorem sts_snoc {ws : List (List ItemV)} {ps : List Int} {win : List ItemV} {i : Nat} (hw : ws[ps.length]? = some win) (hi : i < win.length) : stsL ws (ps ++ [(i : Int)]) (ps.length + 1) = stsL ws ps ps.length ++ [win[i].a1] := by
  unfold stsL
  rw [List.range_succ, List.map_append, List.map_cons, List.map_nil, stamp_new hw hi]
  congr 1
  refine List.map_congr_left fun j hj => ?_
  exact stamp_old (List.mem_range.1 hj)
theorem ag_snoc {ws : List (List ItemV)} {ps : List Int} {win : List ItemV} {i : Nat} (hw : ws[ps.length]? = some win) (hi : i < win.length) : agB ws (ps ++ [(i : Int)]) = (agB ws ps && agAll win[i].a1 (stsL ws ps ps.length)) := by
  unfold agB
  rw [List.length_append, List.length_cons, List.length_nil, List.range_succ, List.all_append]
  have e1 : (List.range ps.length).all (fun i_1 => (List.range i_1).all (pairB ws (ps ++ [(i : Int)]) i_1)) = (List.range ps.length).all (fun i => (List.range i).all (pairB ws ps i)) := by
    refine all_mem fun a ha => ?_
    have ha' := List.mem_range.1 ha
    refine all_mem fun b hb => ?_
    have hb' := List.mem_range.1 hb
    unfold pairB
    rw [stamp_old ha', stamp_old (by omega)]
  have e2 : [ps.length].all (fun i_1 => (List.range i_1).all (pairB ws (ps ++ [(i : Int)]) i_1)) = agAll win[i].a1 (stsL ws ps ps.length) := by
    simp only [List.all_cons, List.all_nil, Bool.and_true]
    unfold agAll stsL
    rw [List.all_map]
    refine all_mem fun b hb => ?_
    have hb' := List.mem_range.1 hb
    unfold pairB
    rw [stamp_new hw hi, stamp_old hb']
    rfl
  rw [e1, e2]
theorem cs_cb (ws : List (List ItemV)) : ∀ (rest : List (List ItemV)) (ps : List Int), rest = ws.drop ps.length → cs ws rest ps = if agB ws ps then cb rest (stsL ws ps ps.length) else 0
  | [], ps, _ => by simp [cs, cb]
  | win :: rest, ps, h => by
    unfold cs
    cases hag : agB ws ps
    · simp
    · simp only [if_true]
      have hw : ws[ps.length]? = some win := by
        have := congrArg List.head? h
        simpa using this.symm
      have hr : rest = ws.drop (ps.length + 1) := by
        have := congrArg List.tail h
        simpa using this
      unfold cb
      congr 1
      refine List.ext_getElem (by simp) fun i h1 h2 => ?_
      have hi : i < win.length := by simpa using h1
      simp only [List.getElem_map, List.getElem_range]
      rw [cs_cb ws rest (ps ++ [(i : Int)]) (by rw [List.length_append]; exact hr), ag_snoc hw hi, hag, Bool.true_and, List.length_append, List.length_cons, List.length_nil, sts_snoc hw hi]
theorem sum_le4 (l : List Nat) (b : Nat) (h : ∀ x ∈ l, x ≤ b) : l.sum ≤ l.length * b := by
  induction l with
  | nil => simp
  | cons x xs ih =>
    have h1 := h x (by simp)
    have h2 := ih (fun y hy => h y (by simp [hy]))
    simp only [List.sum_cons, List.length_cons, Nat.add_mul, Nat.one_mul]
    omega
theorem cb_le : ∀ (ws : List (List ItemV)) (ss : List (List MarkV)), (∀ x ∈ ws, x.length ≤ 4) → cb ws ss ≤ 4 ^ ws.length
  | [], _, _ => by simp [cb]
  | win :: rest, ss, h => by
    unfold cb
    have h1 := sum_le4 (win.map (fun it => if agAll it.a1 ss then cb rest (ss ++ [it.a1]) else 0)) (4 ^ rest.length) (fun x hx => by
      obtain ⟨it, _, rfl⟩ := List.mem_map.1 hx
      split
      · exact cb_le rest _ (fun y hy => h y (by simp [hy]))
      · exact Nat.zero_le _)
    have h2 := h win (by simp)
    rw [List.length_map] at h1
    calc _ ≤ win.length * 4 ^ rest.length := h1
      _ ≤ 4 * 4 ^ rest.length := Nat.mul_le_mul_right _ h2
      _ = 4 ^ (win :: rest).length := by rw [List.length_cons, Nat.pow_succ, Nat.mul_comm]
def cbTo (win : List ItemV) (rest : List (List ItemV)) (ss : List (List MarkV)) (k : Nat) : Nat := ((win.take k).map (fun it => if agAll it.a1 ss then cb rest (ss ++ [it.a1]) else 0)).sum
theorem cbTo_step (win : List ItemV) (rest : List (List ItemV)) (ss : List (List MarkV)) (k : Nat) (h : k < win.length) : cbTo win rest ss (k + 1) = cbTo win rest ss k + (if agAll win[k].a1 ss then cb rest (ss ++ [win[k].a1]) else 0) := by
  unfold cbTo
  rw [List.take_succ_eq_append_getElem h, List.map_append, List.sum_append]
  simp
theorem cbTo_all (win : List ItemV) (rest : List (List ItemV)) (ss : List (List MarkV)) : cbTo win rest ss win.length = cb (win :: rest) ss := by
  unfold cbTo
  rw [List.take_length, cb]
end Go.Proofs.Ytnijccmhajjdoaa
