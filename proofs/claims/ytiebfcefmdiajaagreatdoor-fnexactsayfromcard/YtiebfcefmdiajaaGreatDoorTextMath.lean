/-
  The text of a stamp as a value.
-/
import Derived.Test.YtiebfcefmdiajaaGreatDoorStampMath
import Derived.Test.YtiebfcefmdiajaaGreatDoorDec13
import Derived.Lib.Join
set_option linter.unusedVariables false
namespace Go.Proofs.YtiebfcefmdiajaaGreatDoor
open Go.RowKit Go.Maps Go.Deep

/-- a mark's text -/
def markT (x : MarkV) : ByteArray := x.a0 ++ ⟨#[58]⟩ ++ itoaB x.a1
/-- texts with a blank between two -/
def joinB (ts : List ByteArray) : ByteArray := ⟨(Lib.join (ts.map (·.data.toList)) (⟨#[32]⟩ : ByteArray).data.toList).toArray⟩
def stampT (ns : List MarkV) : ByteArray := joinB (ns.map markT)
def textOut (ns : List MarkV) : ByteArray := if mstampB ns then (if ns.length = 0 then ⟨#[45]⟩ else stampT ns) else ⟨#[]⟩
theorem joinB_one (t : ByteArray) : joinB [t] = t := by
  unfold joinB
  rw [show [t].map (·.data.toList) = [t.data.toList] from rfl, Lib.join_one]
theorem joinB_snoc (ts : List ByteArray) (t : ByteArray) (h : ts ≠ []) : joinB (ts ++ [t]) = joinB ts ++ ⟨#[32]⟩ ++ t := by
  cases ts with
  | nil => exact absurd rfl h
  | cons a r =>
    unfold joinB
    apply ByteArray.ext
    apply Array.ext'
    simp [Lib.join_cons, Lib.joinTail]
theorem lens_le (r : List ByteArray) (N : Nat) (h : ∀ t ∈ r, t.size ≤ N) : Lib.lens (r.map (·.data.toList)) ≤ r.length * N := by
  induction r with
  | nil => simp [Lib.lens]
  | cons t r ih =>
    have ht := h t (by simp)
    have hi := ih (fun u hu => h u (by simp [hu]))
    have e : t.data.toList.length = t.size := Array.length_toList
    simp only [Lib.lens, List.map_cons, List.sum_cons, List.length_cons, Nat.add_mul] at hi ⊢
    omega
theorem joinB_len (ts : List ByteArray) (N : Nat) (h : ∀ t ∈ ts, t.size ≤ N) : (joinB ts).size ≤ ts.length * (N + 1) := by
  cases ts with
  | nil => simp [joinB, Lib.join, ByteArray.size]
  | cons t r =>
    have ht := h t (by simp)
    have hi := lens_le r N (fun u hu => h u (by simp [hu]))
    have e : t.data.toList.length = t.size := Array.length_toList
    unfold joinB
    rw [size_lit, List.map_cons, Lib.join_cons, List.length_append, Lib.joinTail_length, e, List.length_map]
    have e1 : (⟨#[32]⟩ : ByteArray).data.toList.length = 1 := rfl
    rw [e1, List.length_cons, Nat.add_mul, Nat.mul_add]
    omega
theorem mark_good {ns : List MarkV} (h : mstampB ns = true) : ns.length ≤ 12 ∧ ∀ x ∈ ns, x.a0.size ≤ 8 ∧ 1 ≤ x.a1 ∧ x.a1 ≤ 1099511627776 := by
  simp only [mstampB, Bool.and_eq_true, decide_eq_true_eq] at h
  refine ⟨h.1, fun x hx => ?_⟩
  obtain ⟨i, hi, rfl⟩ := List.getElem_of_mem hx
  have := (h.2 i hi hi).1
  simp only [markB, plainB, Bool.and_eq_true, decide_eq_true_eq] at this
  exact ⟨this.1.1.1.2, this.1.2, this.2⟩
theorem markT_size {x : MarkV} (h : x.a0.size ≤ 8 ∧ 1 ≤ x.a1 ∧ x.a1 ≤ 1099511627776) : (markT x).size ≤ 29 := by
  have := itoaB_size x.a1 (by omega) (by omega)
  have e : (⟨#[58]⟩ : ByteArray).size = 1 := rfl
  simp only [markT, ByteArray.size_append, e]
  omega
/-- the text of the first k marks -/
def textTo (ns : List MarkV) (k : Nat) : ByteArray := joinB ((ns.take k).map markT)
theorem textTo_zero (ns : List MarkV) : textTo ns 0 = ⟨#[]⟩ := rfl
theorem textTo_all (ns : List MarkV) : textTo ns ns.length = stampT ns := by unfold textTo stampT; rw [List.take_length]
theorem take_snoc (ns : List MarkV) (k : Nat) (h : k < ns.length) : (ns.take (k + 1)).map markT = (ns.take k).map markT ++ [markT ns[k]] := by
  rw [List.take_add_one, List.getElem?_eq_getElem h]
  simp only [Option.toList, List.map_append, List.map_cons, List.map_nil]
theorem textTo_first (ns : List MarkV) (h : 0 < ns.length) : textTo ns 1 = ⟨#[]⟩ ++ ns[0].a0 ++ ⟨#[58]⟩ ++ itoaB ns[0].a1 := by
  unfold textTo
  rw [take_snoc ns 0 h]
  simp only [List.take_zero, List.map_nil, List.nil_append, joinB_one, markT]
  apply ByteArray.ext
  simp
theorem textTo_next (ns : List MarkV) (k : Nat) (h : k < ns.length) (h0 : 0 < k) : textTo ns (k + 1) = textTo ns k ++ ⟨#[32]⟩ ++ ns[k].a0 ++ ⟨#[58]⟩ ++ itoaB ns[k].a1 := by
  unfold textTo
  rw [take_snoc ns k h, joinB_snoc _ _ (by
    intro e
    have := congrArg List.length e
    rw [List.length_map, List.length_take] at this
    simp only [List.length_nil] at this
    omega)]
  simp only [markT]
  apply ByteArray.ext
  simp
theorem textTo_size {ns : List MarkV} (h : mstampB ns = true) (k : Nat) : (textTo ns k).size ≤ 360 := by
  obtain ⟨h12, hx⟩ := mark_good h
  have := joinB_len ((ns.take k).map markT) 29 (fun t ht => by
    obtain ⟨x, hx', rfl⟩ := List.mem_map.1 ht
    exact markT_size (hx x (List.mem_of_mem_take hx')))
  have hl : ((ns.take k).map markT).length ≤ 12 := by simp; omega
  unfold textTo
  have : ((ns.take k).map markT).length * (29 + 1) ≤ 12 * 30 := Nat.mul_le_mul hl (Nat.le_refl _)
  omega
end Go.Proofs.YtiebfcefmdiajaaGreatDoor
