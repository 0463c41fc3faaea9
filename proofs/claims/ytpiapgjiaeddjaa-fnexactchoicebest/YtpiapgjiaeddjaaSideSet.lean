/-
  Which pairs come of two stamps: for each source the versions of both.
-/
import Derived.Test.YtpiapgjiaeddjaaMerged4
import Derived.Test.YtpiapgjiaeddjaaMerged10
set_option linter.unusedVariables false
namespace Go.Proofs.Ytpiapgjiaeddjaa
open Go.RowKit Go.Maps Go.Deep

theorem bytesLess_trans : ∀ (x y z : List UInt8), Op.bytesLess x y = true → Op.bytesLess y z = true → Op.bytesLess x z = true
  | [], y, [], h1, h2 => by cases y <;> simp [Op.bytesLess] at h1 h2
  | [], y, _ :: _, h1, h2 => by simp [Op.bytesLess]
  | _ :: _, [], _, h1, h2 => by simp [Op.bytesLess] at h1
  | a :: x, b :: y, [], h1, h2 => by simp [Op.bytesLess] at h2
  | a :: x, b :: y, c :: z, h1, h2 => by
    have ih := bytesLess_trans x y z
    simp [Op.bytesLess, UInt8.lt_iff_toNat_lt, ← UInt8.toNat_inj] at h1 h2 ⊢
    by_cases e1 : a.toNat < b.toNat
    · by_cases e2 : b.toNat < c.toNat
      · left; omega
      · have := h2.resolve_left e2
        left; omega
    · have h3 := h1.resolve_left e1
      by_cases e2 : b.toNat < c.toNat
      · left; omega
      · have h4 := h2.resolve_left e2
        right; exact ⟨by omega, ih h3.2 h4.2⟩
theorem bytesLess_irrefl : ∀ x : List UInt8, Op.bytesLess x x = false
  | [] => by simp [Op.bytesLess]
  | a :: x => by simp [Op.bytesLess, bytesLess_irrefl x]
theorem less_trans {a b c : ByteArray} (h1 : lessS a b = true) (h2 : lessS b c = true) : lessS a c = true := bytesLess_trans _ _ _ h1 h2
theorem less_irrefl (a : ByteArray) : lessS a a = false := bytesLess_irrefl _
theorem less_ne {a b : ByteArray} (h : lessS a b = true) : a ≠ b := fun e => by subst e; rw [less_irrefl] at h; cases h
theorem less_asymm {a b : ByteArray} (h : lessS a b = true) : lessS b a = false := by
  cases hb : lessS b a
  · rfl
  · have := less_trans h hb
    rw [less_irrefl] at this
    cases this
theorem less_tri {a b : ByteArray} (h1 : lessS a b = false) (h2 : lessS b a = false) : a = b := by
  have := less_other a.toList b.toList
  unfold lessS at h1 h2
  rw [h1, h2, Bool.false_or, str_same] at this
  simpa using this
/-- sources ascend -/
def AscM : List MarkV → Prop
  | [] => True
  | x :: xs => (∀ y ∈ xs, lessS x.a0 y.a0 = true) ∧ AscM xs
theorem asc_of_adj : ∀ (ns : List MarkV), (∀ i (h : i + 1 < ns.length), lessS (ns[i]).a0 (ns[i + 1]).a0 = true) → AscM ns
  | [], _ => trivial
  | [x], _ => ⟨by simp, trivial⟩
  | x :: y :: zs, h => by
    have ih := asc_of_adj (y :: zs) (fun i hi => by have := h (i + 1) (by simpa using hi); simpa using this)
    have h0 := h 0 (by simp)
    simp at h0
    refine ⟨fun z hz => ?_, ih⟩
    rcases List.mem_cons.1 hz with rfl | hz
    · exact h0
    · exact less_trans h0 (ih.1 z hz)
theorem asc_of_stamp {ns : List MarkV} (h : mstampB ns = true) : AscM ns := by
  simp only [mstampB, Bool.and_eq_true, decide_eq_true_eq] at h
  refine asc_of_adj ns fun i hi => ?_
  have := (h.2 (i + 1) hi hi).2 (by omega)
  simpa using this
theorem pos_of_stamp {ns : List MarkV} (h : mstampB ns = true) : ∀ x ∈ ns, 1 ≤ x.a1 := by
  simp only [mstampB, Bool.and_eq_true, decide_eq_true_eq] at h
  intro x hx
  obtain ⟨i, hi, rfl⟩ := List.getElem_of_mem hx
  have := (h.2 i hi hi).1
  simp only [markB, Bool.and_eq_true, decide_eq_true_eq] at this
  exact this.1.2
theorem getV_none {ns : List MarkV} {s : ByteArray} (h : ∀ x ∈ ns, x.a0 ≠ s) : getV ns s = 0 := getV_miss ns s fun j hj => h _ (List.getElem_mem hj)
theorem getV_mem {ns : List MarkV} (h : AscM ns) {x : MarkV} (hx : x ∈ ns) : getV ns x.a0 = x.a1 := by
  induction ns with
  | nil => simp at hx
  | cons y ys ih =>
    rcases List.mem_cons.1 hx with rfl | hx
    · simp [getV]
    · have := less_ne (h.1 x hx)
      simp only [getV, if_neg this]
      exact ih h.2 hx
theorem getV_tail {x : MarkV} {xs : List MarkV} {s : ByteArray} (h : x.a0 ≠ s) : getV (x :: xs) s = getV xs s := by simp [getV, h]
def srcIn (s : ByteArray) (ns : List MarkV) : Prop := ∃ x ∈ ns, x.a0 = s
theorem srcIn_cons {s : ByteArray} {x : MarkV} {xs : List MarkV} : srcIn s (x :: xs) ↔ x.a0 = s ∨ srcIn s xs := by simp [srcIn]
theorem srcIn_above {x : MarkV} {xs : List MarkV} {s : ByteArray} (h : ∀ y ∈ xs, lessS x.a0 y.a0 = true) (hs : srcIn s xs) : lessS x.a0 s = true := by
  obtain ⟨y, hy, rfl⟩ := hs
  exact h y hy
theorem getV_not {ns : List MarkV} {s : ByteArray} (h : ¬ srcIn s ns) : getV ns s = 0 := getV_none fun x hx e => h ⟨x, hx, e⟩
/-- the pair of a source -/
def pairOf (xa xb : List MarkV) (s : ByteArray) : MarkV × MarkV := (⟨s, getV xa s⟩, ⟨s, getV xb s⟩)
theorem side_mem (xa xb : List MarkV) : AscM xa → AscM xb → ∀ p, p ∈ sideL xa xb ↔ ∃ s, (srcIn s xa ∨ srcIn s xb) ∧ p = pairOf xa xb s := by
  fun_induction sideL xa xb with
  | case1 => intro _ _ p; simp [srcIn]
  | case2 x xs ih =>
    intro ha hb p
    have ih := ih ha.2 hb p
    rw [List.mem_cons, ih]
    constructor
    · rintro (rfl | ⟨s, hs, rfl⟩)
      · exact ⟨x.a0, .inl (srcIn_cons.2 (.inl rfl)), by simp [pairOf, getV]⟩
      · have hs' : srcIn s xs := hs.resolve_right (by simp [srcIn])
        have hl := srcIn_above ha.1 hs'
        exact ⟨s, .inl (srcIn_cons.2 (.inr hs')), by simp [pairOf, getV_tail (less_ne hl)]⟩
    · rintro ⟨s, hs, rfl⟩
      have hs' := hs.resolve_right (by simp [srcIn])
      rcases srcIn_cons.1 hs' with rfl | hs'
      · left; simp [pairOf, getV]
      · right
        have hl := srcIn_above ha.1 hs'
        exact ⟨s, .inl hs', by simp [pairOf, getV_tail (less_ne hl)]⟩
  | case3 y ys ih =>
    intro ha hb p
    have ih := ih ha hb.2 p
    rw [List.mem_cons, ih]
    constructor
    · rintro (rfl | ⟨s, hs, rfl⟩)
      · exact ⟨y.a0, .inr (srcIn_cons.2 (.inl rfl)), by simp [pairOf, getV]⟩
      · have hs' : srcIn s ys := hs.resolve_left (by simp [srcIn])
        have hl := srcIn_above hb.1 hs'
        exact ⟨s, .inr (srcIn_cons.2 (.inr hs')), by simp [pairOf, getV_tail (less_ne hl)]⟩
    · rintro ⟨s, hs, rfl⟩
      have hs' := hs.resolve_left (by simp [srcIn])
      rcases srcIn_cons.1 hs' with rfl | hs'
      · left; simp [pairOf, getV]
      · right
        have hl := srcIn_above hb.1 hs'
        exact ⟨s, .inr hs', by simp [pairOf, getV_tail (less_ne hl)]⟩
  | case4 x xs y ys hl ih =>
    intro ha hb p
    have ih := ih ha.2 hb p
    have key : ∀ s, srcIn s xs ∨ srcIn s (y :: ys) → lessS x.a0 s = true := by
      rintro s (hs | hs)
      · exact srcIn_above ha.1 hs
      · rcases srcIn_cons.1 hs with rfl | hs
        · exact hl
        · exact less_trans hl (srcIn_above hb.1 hs)
    have hx0 : getV (y :: ys) x.a0 = 0 := getV_not fun h => by have := key _ (.inr h); rw [less_irrefl] at this; cases this
    rw [List.mem_cons, ih]
    constructor
    · rintro (rfl | ⟨s, hs, rfl⟩)
      · exact ⟨x.a0, .inl (srcIn_cons.2 (.inl rfl)), by simp only [pairOf, hx0]; simp [getV]⟩
      · exact ⟨s, hs.elim (fun h => .inl (srcIn_cons.2 (.inr h))) .inr, by simp only [pairOf, getV_tail (less_ne (key s hs))]⟩
    · rintro ⟨s, hs, rfl⟩
      by_cases e : x.a0 = s
      · subst e
        left; simp only [pairOf, hx0]; simp [getV]
      · right
        have hs' : srcIn s xs ∨ srcIn s (y :: ys) := hs.elim (fun h => .inl ((srcIn_cons.1 h).resolve_left e)) .inr
        exact ⟨s, hs', by simp only [pairOf, getV_tail e]⟩
  | case5 x xs y ys hl hr ih =>
    intro ha hb p
    have ih := ih ha hb.2 p
    have key : ∀ s, srcIn s (x :: xs) ∨ srcIn s ys → lessS y.a0 s = true := by
      rintro s (hs | hs)
      · rcases srcIn_cons.1 hs with rfl | hs
        · exact hr
        · exact less_trans hr (srcIn_above ha.1 hs)
      · exact srcIn_above hb.1 hs
    have hx0 : getV (x :: xs) y.a0 = 0 := getV_not fun h => by have := key _ (.inl h); rw [less_irrefl] at this; cases this
    rw [List.mem_cons, ih]
    constructor
    · rintro (rfl | ⟨s, hs, rfl⟩)
      · exact ⟨y.a0, .inr (srcIn_cons.2 (.inl rfl)), by simp only [pairOf, hx0]; simp [getV]⟩
      · exact ⟨s, hs.elim .inl (fun h => .inr (srcIn_cons.2 (.inr h))), by simp only [pairOf, getV_tail (less_ne (key s hs))]⟩
    · rintro ⟨s, hs, rfl⟩
      by_cases e : y.a0 = s
      · subst e
        left; simp only [pairOf, hx0]; simp [getV]
      · right
        have hs' : srcIn s (x :: xs) ∨ srcIn s ys := hs.elim .inl (fun h => .inr ((srcIn_cons.1 h).resolve_left e))
        exact ⟨s, hs', by simp only [pairOf, getV_tail e]⟩
  | case6 x xs y ys hl hr ih =>
    intro ha hb p
    have ih := ih ha.2 hb.2 p
    have exy : x.a0 = y.a0 := less_tri (by simpa using hl) (by simpa using hr)
    have key : ∀ s, srcIn s xs ∨ srcIn s ys → lessS x.a0 s = true := by
      rintro s (hs | hs)
      · exact srcIn_above ha.1 hs
      · rw [exy]; exact srcIn_above hb.1 hs
    have hpair : pairOf (x :: xs) (y :: ys) x.a0 = (x, y) := by
      obtain ⟨x0, x1⟩ := x
      obtain ⟨y0, y1⟩ := y
      simp only at exy
      subst exy
      simp [pairOf, getV]
    rw [List.mem_cons, ih]
    constructor
    · rintro (rfl | ⟨s, hs, rfl⟩)
      · exact ⟨x.a0, .inl (srcIn_cons.2 (.inl rfl)), hpair.symm⟩
      · have hk := key s hs
        have hk2 := hk
        rw [exy] at hk2
        exact ⟨s, hs.elim (fun h => .inl (srcIn_cons.2 (.inr h))) (fun h => .inr (srcIn_cons.2 (.inr h))), by simp only [pairOf, getV_tail (less_ne hk), getV_tail (less_ne hk2)]⟩
    · rintro ⟨s, hs, rfl⟩
      by_cases e : x.a0 = s
      · subst e
        left
        exact hpair
      · right
        have e2 : y.a0 ≠ s := fun h => e (exy.trans h)
        have hs' : srcIn s xs ∨ srcIn s ys := hs.elim (fun h => .inl ((srcIn_cons.1 h).resolve_left e)) (fun h => .inr ((srcIn_cons.1 h).resolve_left e2))
        exact ⟨s, hs', by simp only [pairOf, getV_tail e, getV_tail e2]⟩
end Go.Proofs.Ytpiapgjiaeddjaa
