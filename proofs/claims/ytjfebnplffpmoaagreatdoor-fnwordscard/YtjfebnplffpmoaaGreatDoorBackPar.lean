/-
  What is read stays read with more fuel; the rules of reading, one by one. Mathematics alone.
-/
import Derived.Test.YtjfebnplffpmoaaGreatDoorReadM
set_option linter.unusedVariables false
namespace Go.Proofs.YtjfebnplffpmoaaGreatDoor
open Go.RowKit Go.Maps Go.Deep

theorem then_mono {r r' : PRes} {F F' : TreeV → Nat → PRes} (h : r.then F ≠ .out) (hr : r ≠ .out → r' = r) (hF : ∀ t k, F t k ≠ .out → F' t k = F t k) : r'.then F' = r.then F := by
  cases r with
  | out => exact absurd rfl h
  | bad k => rw [hr (by simp)]; rfl
  | ok t k => rw [hr (by simp)]; exact hF t k h
theorem must_mono {ws : List WordV} {s : ByteArray} {n : Nat} {F F' : Nat → PRes} (h : must ws s n F ≠ .out) (hF : ∀ k, F k ≠ .out → F' k = F k) : must ws s n F' = must ws s n F := by
  unfold must at h ⊢
  split
  · rename_i e; rw [if_pos e] at h; exact hF _ h
  · rfl
theorem name_mono {ws : List WordV} {n : Nat} {F F' : ByteArray → Nat → PRes} (h : mustName ws n F ≠ .out) (hF : ∀ s k, F s k ≠ .out → F' s k = F s k) : mustName ws n F' = mustName ws n F := by
  unfold mustName at h ⊢
  split
  · rename_i x hx
    rw [hx] at h
    simp only at h
    split
    · rename_i e; rw [if_pos e] at h; exact hF _ _ h
    · rfl
  · rfl
theorem parse_mono (ws : List WordV) : ∀ f m n, parse ws f m n ≠ .out → parse ws (f + 1) m n = parse ws f m n := by
  intro f
  induction f with
  | zero => intro m n h; exact absurd rfl h
  | succ f ih =>
    intro m n h
    cases m with
    | expr =>
      rw [parse.eq_2] at h
      rw [parse.eq_2 _ n (f + 1), parse.eq_2 _ n f]
      split
      · rename_i e
        rw [if_pos e] at h
        exact then_mono h (ih _ _) fun a n1 h => must_mono h fun n2 h => then_mono h (ih _ _) fun b n3 h => must_mono h fun n4 h => then_mono h (ih _ _) fun c n5 h => rfl
      rename_i e1
      rw [if_neg e1] at h
      split
      · rename_i e
        rw [if_pos e] at h
        exact name_mono h fun nm n1 h => must_mono h fun n2 h => then_mono h (ih _ _) fun a n3 h => must_mono h fun n4 h => then_mono h (ih _ _) fun b n5 h => rfl
      rename_i e2
      rw [if_neg e2] at h
      split
      · rename_i e
        rw [if_pos e] at h
        exact then_mono h (ih _ _) fun a n1 h => must_mono h fun n2 h => name_mono h fun nm n3 h => must_mono h fun n4 h => then_mono h (ih _ _) fun b n5 h => must_mono h fun n6 h => then_mono h (ih _ _) fun c n7 h => rfl
      rename_i e3
      rw [if_neg e3] at h
      exact ih _ _ h
    | level lv =>
      rw [parse.eq_3] at h
      have E : ∀ g, parse ws (g + 1) (.level lv) n = if 5 < lv then parse ws g .ahead n else (parse ws g (.level (lv + 1)) n).then fun a n1 => parse ws g (.loop lv a) n1 := fun g => by rw [parse]
      rw [E, E]
      split
      · rename_i e; rw [if_pos e] at h; exact ih _ _ h
      · rename_i e; rw [if_neg e] at h; exact then_mono h (ih _ _) fun a n1 h => ih _ _ h
    | loop lv a =>
      rw [parse.eq_4] at h
      have E : ∀ g, parse ws (g + 1) (.loop lv a) n = if kindL lv (txt ws n) = 0 then .ok a n else (parse ws g (.level (lv + 1)) (n + 1)).then fun b n1 => if lv = 3 then .ok (node2 (kindL lv (txt ws n)) ⟨#[]⟩ a b) n1 else parse ws g (.loop lv (node2 (kindL lv (txt ws n)) ⟨#[]⟩ a b)) n1 := fun g => by rw [parse]
      rw [E, E]
      split
      · rfl
      · rename_i e
        rw [if_neg e] at h
        refine then_mono h (ih _ _) fun b n1 h => ?_
        split
        · rfl
        · rename_i e3; rw [if_neg e3] at h; exact ih _ _ h
    | ahead =>
      rw [parse.eq_5] at h
      rw [parse.eq_5 _ n (f + 1), parse.eq_5 _ n f]
      split
      · rename_i e; rw [if_pos e] at h; exact then_mono h (ih _ _) fun a n1 h => rfl
      rename_i e1
      rw [if_neg e1] at h
      split
      · rename_i e; rw [if_pos e] at h; exact then_mono h (ih _ _) fun a n1 h => rfl
      rename_i e2
      rw [if_neg e2] at h
      exact ih _ _ h
    | atom =>
      rw [parse.eq_6] at h
      rw [parse.eq_6 _ n (f + 1), parse.eq_6 _ n f]
      split
      · rfl
      · rename_i w hw
        rw [hw] at h
        simp only at h
        split
        · rfl
        rename_i e1
        rw [if_neg e1] at h
        split
        · rfl
        rename_i e2
        rw [if_neg e2] at h
        split
        · rename_i e
          rw [if_pos e] at h
          exact must_mono h fun n1 h => then_mono h (ih _ _) fun a n2 h => must_mono h fun n3 h => then_mono h (ih _ _) fun b n4 h => must_mono h fun n5 h => rfl
        rename_i e3
        rw [if_neg e3] at h
        split
        · rename_i e
          rw [if_pos e] at h
          exact must_mono h fun n1 h => then_mono h (ih _ _) fun a n2 h => must_mono h fun n3 h => rfl
        rename_i e4
        rw [if_neg e4] at h
        split
        · rename_i e
          rw [if_pos e] at h
          exact then_mono h (ih _ _) fun a n2 h => must_mono h fun n3 h => rfl
        · rfl
/-- it is read, with fuel enough -/
def Ok (ws : List WordV) (m : Mode) (n : Nat) (t : TreeV) (k : Nat) : Prop := ∃ f, ∀ g, f ≤ g → parse ws g m n = .ok t k
theorem Ok.of {ws : List WordV} {f n k : Nat} {m : Mode} {t : TreeV} (h : parse ws f m n = .ok t k) : Ok ws m n t k := by
  refine ⟨f, fun g hg => ?_⟩
  obtain ⟨d, rfl⟩ : ∃ d, g = f + d := ⟨g - f, by omega⟩
  clear hg
  induction d with
  | zero => exact h
  | succ d ih => rw [← Nat.add_assoc, parse_mono ws _ m n (by rw [ih]; simp), ih]
theorem ok_thenB {t : TreeV} {k : Nat} {f : TreeV → Nat → PRes} : (PRes.ok t k).then f = f t k := rfl
theorem must_ok {ws : List WordV} {s : ByteArray} {n : Nat} {F : Nat → PRes} (h : txt ws n = s) : must ws s n F = F (n + 1) := if_pos h
theorem name_ok {ws : List WordV} {n : Nat} {F : ByteArray → Nat → PRes} {x : WordV} (h : ws[n]? = some x) (hk : x.a0 = 2) : mustName ws n F = F x.a1 (n + 1) := by
  unfold mustName
  rw [h]
  exact if_pos hk
theorem ok_if {ws : List WordV} {n n1 n3 n5 : Nat} {a b c : TreeV} (h0 : txt ws n = kIf) (ha : Ok ws .expr (n + 1) a n1) (h1 : txt ws n1 = kThen) (hb : Ok ws .expr (n1 + 1) b n3) (h2 : txt ws n3 = kElse) (hc : Ok ws .expr (n3 + 1) c n5) : Ok ws .expr n (node3 21 ⟨#[]⟩ a b c) n5 := by
  obtain ⟨f1, ha⟩ := ha
  obtain ⟨f2, hb⟩ := hb
  obtain ⟨f3, hc⟩ := hc
  refine Ok.of (f := f1 + f2 + f3 + 1) ?_
  rw [parse, if_pos h0, ha _ (by omega), ok_thenB, must_ok h1, hb _ (by omega), ok_thenB, must_ok h2, hc _ (by omega)]
  rfl
theorem ok_let {ws : List WordV} {n n3 n5 : Nat} {x : WordV} {a b : TreeV} (h0 : txt ws n = kLet) (hx : ws[n + 1]? = some x) (hk : x.a0 = 2) (h1 : txt ws (n + 1 + 1) = sEq) (ha : Ok ws .expr (n + 1 + 1 + 1) a n3) (h2 : txt ws n3 = kIn) (hb : Ok ws .expr (n3 + 1) b n5) : Ok ws .expr n (node2 22 x.a1 a b) n5 := by
  obtain ⟨f1, ha⟩ := ha
  obtain ⟨f2, hb⟩ := hb
  refine Ok.of (f := f1 + f2 + 1) ?_
  rw [parse, if_neg (by rw [h0]; decide), if_pos h0, name_ok hx hk, must_ok h1, ha _ (by omega), ok_thenB, must_ok h2, hb _ (by omega)]
  rfl
theorem ok_rep {ws : List WordV} {n n1 n5 n7 : Nat} {x : WordV} {a b c : TreeV} (h0 : txt ws n = kRep) (ha : Ok ws .expr (n + 1) a n1) (h1 : txt ws n1 = kAs) (hx : ws[n1 + 1]? = some x) (hk : x.a0 = 2) (h2 : txt ws (n1 + 1 + 1) = kFrom) (hb : Ok ws .expr (n1 + 1 + 1 + 1) b n5) (h3 : txt ws n5 = kBy) (hc : Ok ws .expr (n5 + 1) c n7) : Ok ws .expr n (node3 23 x.a1 a b c) n7 := by
  obtain ⟨f1, ha⟩ := ha
  obtain ⟨f2, hb⟩ := hb
  obtain ⟨f3, hc⟩ := hc
  refine Ok.of (f := f1 + f2 + f3 + 1) ?_
  rw [parse, if_neg (by rw [h0]; decide), if_neg (by rw [h0]; decide), if_pos h0, ha _ (by omega), ok_thenB, must_ok h1, name_ok hx hk, must_ok h2, hb _ (by omega), ok_thenB, must_ok h3, hc _ (by omega)]
  rfl
theorem ok_lev {ws : List WordV} {n k : Nat} {t : TreeV} (h1 : txt ws n ≠ kIf) (h2 : txt ws n ≠ kLet) (h3 : txt ws n ≠ kRep) (h : Ok ws (.level 1) n t k) : Ok ws .expr n t k := by
  obtain ⟨f, h⟩ := h
  exact Ok.of (f := f + 1) (by rw [parse, if_neg h1, if_neg h2, if_neg h3, h _ (Nat.le_refl _)])
theorem ok_down {ws : List WordV} {lv n n1 k : Nat} {a t : TreeV} (hl : lv ≤ 5) (ha : Ok ws (.level (lv + 1)) n a n1) (h : Ok ws (.loop lv a) n1 t k) : Ok ws (.level lv) n t k := by
  obtain ⟨f1, ha⟩ := ha
  obtain ⟨f2, h⟩ := h
  refine Ok.of (f := f1 + f2 + 1) ?_
  rw [parse, if_neg (by omega), ha _ (by omega)]
  exact h _ (by omega)
theorem ok_six {ws : List WordV} {n k : Nat} {t : TreeV} (h : Ok ws .ahead n t k) : Ok ws (.level 6) n t k := by
  obtain ⟨f, h⟩ := h
  exact Ok.of (f := f + 1) (by rw [parse, if_pos (by omega), h _ (Nat.le_refl _)])
theorem loop_stop {ws : List WordV} {lv n : Nat} {a : TreeV} (h : kindL lv (txt ws n) = 0) : Ok ws (.loop lv a) n a n := Ok.of (f := 1) (by rw [parse, if_pos h])
theorem loop_go {ws : List WordV} {lv n n1 k : Nat} {kd : Int} {a b t : TreeV} (h3 : lv ≠ 3) (hk : kindL lv (txt ws n) = kd) (h0 : kd ≠ 0) (hb : Ok ws (.level (lv + 1)) (n + 1) b n1) (h : Ok ws (.loop lv (node2 kd ⟨#[]⟩ a b)) n1 t k) : Ok ws (.loop lv a) n t k := by
  obtain ⟨f1, hb⟩ := hb
  obtain ⟨f2, h⟩ := h
  refine Ok.of (f := f1 + f2 + 1) ?_
  rw [parse, hk, if_neg h0, hb _ (by omega), ok_thenB, if_neg h3]
  exact h _ (by omega)
theorem loop_cmp {ws : List WordV} {n n1 : Nat} {kd : Int} {a b : TreeV} (hk : kindL 3 (txt ws n) = kd) (h0 : kd ≠ 0) (hb : Ok ws (.level 4) (n + 1) b n1) : Ok ws (.loop 3 a) n (node2 kd ⟨#[]⟩ a b) n1 := by
  obtain ⟨f1, hb⟩ := hb
  refine Ok.of (f := f1 + 1) ?_
  rw [parse, hk, if_neg h0, hb _ (by omega)]
  rfl
theorem ok_neg {ws : List WordV} {n k : Nat} {a : TreeV} (h0 : txt ws n = sSub) (h : Ok ws .ahead (n + 1) a k) : Ok ws .ahead n (node1 3 a) k := by
  obtain ⟨f, h⟩ := h
  exact Ok.of (f := f + 1) (by rw [parse, if_pos h0, h _ (Nat.le_refl _)]; rfl)
theorem ok_not {ws : List WordV} {n k : Nat} {a : TreeV} (h0 : txt ws n = kNot) (h : Ok ws .ahead (n + 1) a k) : Ok ws .ahead n (node1 4 a) k := by
  obtain ⟨f, h⟩ := h
  exact Ok.of (f := f + 1) (by rw [parse, if_neg (by rw [h0]; decide), if_pos h0, h _ (Nat.le_refl _)]; rfl)
theorem ok_atom {ws : List WordV} {n k : Nat} {t : TreeV} (h1 : txt ws n ≠ sSub) (h2 : txt ws n ≠ kNot) (h : Ok ws .atom n t k) : Ok ws .ahead n t k := by
  obtain ⟨f, h⟩ := h
  exact Ok.of (f := f + 1) (by rw [parse, if_neg h1, if_neg h2, h _ (Nat.le_refl _)])
theorem ok_num {ws : List WordV} {n : Nat} {x : WordV} (h : ws[n]? = some x) (hk : x.a0 = 1) : Ok ws .atom n (node0 1 (numTextV x.a1) ⟨#[]⟩) (n + 1) := Ok.of (f := 1) (by rw [parse, h]; exact if_pos hk)
theorem ok_name {ws : List WordV} {n : Nat} {x : WordV} (h : ws[n]? = some x) (hk : x.a0 = 2) : Ok ws .atom n (node0 2 0 x.a1) (n + 1) := Ok.of (f := 1) (by rw [parse, h]; simp only; rw [if_neg (by omega), if_pos hk])
theorem ok_pair {ws : List WordV} {n n2 n4 : Nat} {x : WordV} {a b : TreeV} (h : ws[n]? = some x) (hk : 3 ≤ x.a0) (hm : x.a1 = kMin ∨ x.a1 = kMax) (h1 : txt ws (n + 1) = sOpen) (ha : Ok ws .expr (n + 1 + 1) a n2) (h2 : txt ws n2 = sComma) (hb : Ok ws .expr (n2 + 1) b n4) (h3 : txt ws n4 = sShut) : Ok ws .atom n (node2 (if x.a1 = kMin then 18 else 19) ⟨#[]⟩ a b) (n4 + 1) := by
  obtain ⟨f1, ha⟩ := ha
  obtain ⟨f2, hb⟩ := hb
  refine Ok.of (f := f1 + f2 + 1) ?_
  rw [parse, h]
  simp only
  rw [if_neg (by omega), if_neg (by omega), if_pos hm, must_ok h1, ha _ (by omega), ok_thenB, must_ok h2, hb _ (by omega), ok_thenB, must_ok h3]
theorem ok_abs {ws : List WordV} {n n2 : Nat} {x : WordV} {a : TreeV} (h : ws[n]? = some x) (hk : 3 ≤ x.a0) (hm : x.a1 = kAbs) (h1 : txt ws (n + 1) = sOpen) (ha : Ok ws .expr (n + 1 + 1) a n2) (h3 : txt ws n2 = sShut) : Ok ws .atom n (node1 20 a) (n2 + 1) := by
  obtain ⟨f1, ha⟩ := ha
  refine Ok.of (f := f1 + 1) ?_
  rw [parse, h]
  simp only
  rw [if_neg (by omega), if_neg (by omega), if_neg (by rw [hm]; decide), if_pos hm, must_ok h1, ha _ (by omega), ok_thenB, must_ok h3]
theorem ok_open {ws : List WordV} {n n2 : Nat} {x : WordV} {a : TreeV} (h : ws[n]? = some x) (hk : 3 ≤ x.a0) (hm : x.a1 = sOpen) (ha : Ok ws .expr (n + 1) a n2) (h3 : txt ws n2 = sShut) : Ok ws .atom n a (n2 + 1) := by
  obtain ⟨f1, ha⟩ := ha
  refine Ok.of (f := f1 + 1) ?_
  rw [parse, h]
  simp only
  rw [if_neg (by omega), if_neg (by omega), if_neg (by rw [hm]; decide), if_neg (by rw [hm]; decide), if_pos hm, ha _ (by omega), ok_thenB, must_ok h3]
/-- with fuel that is enough for the words it is read so -/
theorem Ok.enough {ws : List WordV} {f n k : Nat} {t : TreeV} (hn : n ≤ ws.length) (hf : needF (ws.length - n) .expr < f) (h : Ok ws .expr n t k) : parse ws f .expr n = .ok t k := by
  obtain ⟨g, h⟩ := h
  have hne : parse ws f .expr n ≠ .out := by
    have := parse_good ws f .expr n hn trivial hf
    intro e; rw [e] at this; exact this
  have key : ∀ d, parse ws (f + d) .expr n = parse ws f .expr n := by
    intro d
    induction d with
    | zero => rfl
    | succ d ih => rw [← Nat.add_assoc, parse_mono ws _ .expr n (by rw [ih]; exact hne), ih]
  rw [← key g]
  exact h _ (by omega)
end Go.Proofs.YtjfebnplffpmoaaGreatDoor
