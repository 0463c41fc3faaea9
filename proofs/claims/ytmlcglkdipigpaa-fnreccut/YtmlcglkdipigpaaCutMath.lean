/-
  A record that is cut short, or of which one byte is turned, is not read: the mathematics.
-/
import Derived.Test.YtmlcglkdipigpaaRecMath
set_option linter.unusedVariables false
namespace Go.Proofs.Ytmlcglkdipigpaa
open Go.RowKit Go.Maps Go.Deep

theorem sum_apart (ys : List UInt8) : ∀ (s t : Int), 0 ≤ s → s < 65521 → 0 ≤ t → t < 65521 → s ≠ t → ys.foldl sumStep s ≠ ys.foldl sumStep t := by
  induction ys with
  | nil => exact fun s t _ _ _ _ h => h
  | cons c cs ih =>
    intro s t h0 h1 h2 h3 h
    refine ih _ _ (by unfold sumStep; omega) (by unfold sumStep; omega) (by unfold sumStep; omega) (by unfold sumStep; omega) ?_
    unfold sumStep
    generalize (c.toNat : Int) = x
    intro e
    apply h
    omega
theorem sum_turned (xs ys : List UInt8) (a b : UInt8) (h : a ≠ b) : recSum (xs ++ a :: ys) ≠ recSum (xs ++ b :: ys) := by
  unfold recSum
  rw [List.foldl_append, List.foldl_append, List.foldl_cons, List.foldl_cons]
  obtain ⟨h0, h1⟩ := recSum_go xs 1 (by omega)
  generalize xs.foldl sumStep 1 = s at *
  have ha := a.toNat_lt
  have hb := b.toNat_lt
  have hne : a.toNat ≠ b.toNat := fun e => h (UInt8.toNat.inj e)
  refine sum_apart ys _ _ (by unfold sumStep; omega) (by unfold sumStep; omega) (by unfold sumStep; omega) (by unfold sumStep; omega) ?_
  unfold sumStep
  omega
theorem set_split (xs : List UInt8) (k : Nat) (h : k < xs.length) (c : UInt8) : xs.set k c = xs.take k ++ c :: xs.drop (k + 1) ∧ xs = xs.take k ++ xs[k] :: xs.drop (k + 1) := by
  constructor
  · rw [List.set_eq_take_append_cons_drop, if_pos h]
  · rw [← List.drop_eq_getElem_cons h, List.take_append_drop]
theorem sum_set (xs : List UInt8) (k : Nat) (h : k < xs.length) (c : UInt8) (hc : c ≠ xs[k]) : recSum (xs.set k c) ≠ recSum xs := by
  obtain ⟨h1, h2⟩ := set_split xs k h c
  rw [h1]
  intro e
  rw [h2] at e
  have hx : (xs.take k ++ xs[k] :: xs.drop (k + 1)).take k = xs.take k := by rw [← h2]
  have hd : (xs.take k ++ xs[k] :: xs.drop (k + 1)).drop (k + 1) = xs.drop (k + 1) := by rw [← h2]
  rw [hx, hd] at e
  exact sum_turned _ _ _ _ hc e
theorem beL2_inj {s t : Int} (h0 : 0 ≤ s) (h1 : s < 65521) (h2 : 0 ≤ t) (h3 : t < 65521) (h : beL s 2 = beL t 2) : s = t := by
  rw [sum_bytes s h0 h1, sum_bytes t h2 h3] at h
  simp only [List.cons.injEq, and_true] at h
  have e1 : ((beB (s / 256) 0).toNat : Int) = ((beB (t / 256) 0).toNat : Int) := by rw [h.1]
  have e2 : ((beB (s % 256) 0).toNat : Int) = ((beB (t % 256) 0).toNat : Int) := by rw [h.2]
  rw [beB_small _ (by omega) (by omega), beB_small _ (by omega) (by omega)] at e1
  rw [beB_small _ (by omega) (by omega), beB_small _ (by omega) (by omega)] at e2
  omega
theorem cut_none {r : RecV} (hf : RecFit r) (hb : recOkB r = true) {k : Nat} (hk : k < (recAll r).length) {o : Option (RecV × Nat)} (h : IsRead ((recAll r).take k) o) : o = none := by
  cases o with
  | none => rfl
  | some p =>
    exfalso
    obtain ⟨r', n⟩ := p
    obtain ⟨h1, h2, h3, more, h4⟩ := h
    have e : recAll r = recAll r' ++ (more ++ (recAll r).drop k) := by
      rw [← List.append_assoc, ← h4, List.take_append_drop]
    have i1 : IsRead (recAll r) (some (r', n)) := ⟨h1, h2, h3, _, e⟩
    have i2 : IsRead (recAll r) (some (r, (recAll r).length)) := ⟨hf, hb, rfl, [], by simp⟩
    have q := isRead_same i1 i2
    simp only [Option.some.injEq, Prod.mk.injEq] at q
    have hl := congrArg List.length h4
    rw [q.1] at hl
    simp at hl
    omega
theorem beB_inj {x y : Int} (h0 : 0 ≤ x) (h1 : x < 256) (h2 : 0 ≤ y) (h3 : y < 256) (h : beB x 0 = beB y 0) : x = y := by
  have e : ((beB x 0).toNat : Int) = ((beB y 0).toNat : Int) := by rw [h]
  rw [beB_small _ h0 h1, beB_small _ h2 h3] at e
  exact e
theorem tail_len_eq {r r' : RecV} (hk : r'.kind = r.kind) (ht : r.kind = 1 → r'.text.size = r.text.size) : (recTail r').length = (recTail r).length := by
  unfold recTail
  rw [hk]
  by_cases h1 : r.kind = 1
  · simp [h1, ht h1]
  · by_cases h3 : r.kind = 3 ∨ r.kind = 4
    · simp [h1, h3, beL_length]
    · simp [h1, h3]
theorem text_at (r : RecV) (h1 : r.kind = 1) (more : List UInt8) : (recAll r ++ more)[2 + r.name.size]? = some (beB r.text.size 0) := by
  have e : recAll r ++ more = ([beB r.kind 0, beB r.name.size 0] ++ r.name.data.toList) ++ (beB r.text.size 0 :: (r.text.data.toList ++ (beL (recSum (recBody r)) 2 ++ more))) := by
    have : recTail r = beB r.text.size 0 :: r.text.data.toList := by unfold recTail; rw [if_pos h1]
    rw [recAll, show recBody r = [beB r.kind 0, beB r.name.size 0] ++ r.name.data.toList ++ recTail r from rfl, this]
    simp
  have hl : ([beB r.kind 0, beB r.name.size 0] ++ r.name.data.toList).length = 2 + r.name.size := by
    rw [List.length_append, bytes_len]
    rfl
  rw [e, List.getElem?_append_right (by omega), hl, Nat.sub_self]
  rfl
theorem body_at (r : RecV) : ∃ rest, recAll r = beB r.kind 0 :: beB r.name.size 0 :: (r.name.data.toList ++ rest) ∧ rest = recTail r ++ beL (recSum (recBody r)) 2 := ⟨_, by unfold recAll recBody; simp, rfl⟩
theorem turn_none {r : RecV} (hf : RecFit r) (hb : recOkB r = true) {k : Nat} (h2 : 2 ≤ k) (hk : k < (recAll r).length) (hkt : ¬ (r.kind = 1 ∧ k = 2 + r.name.size)) {c : UInt8} (hc : c ≠ (recAll r)[k]) {o : Option (RecV × Nat)} (h : IsRead ((recAll r).set k c) o) : o = none := by
  cases o with
  | none => rfl
  | some p =>
    exfalso
    obtain ⟨r', n⟩ := p
    obtain ⟨f', b', -, more, e⟩ := h
    obtain ⟨n8, t8, k8⟩ := ok_sizes hb
    obtain ⟨n8', t8', k8'⟩ := ok_sizes b'
    have hget : ∀ i, i ≠ k → ((recAll r).set k c)[i]? = (recAll r)[i]? := fun i hi => List.getElem?_set_ne (fun q => hi q.symm)
    have g0 := hget 0 (by omega)
    have g1 := hget 1 (by omega)
    rw [e] at g0 g1
    have ek : r'.kind = r.kind := by
      have : beB r'.kind 0 = beB r.kind 0 := by simpa [recAll, recBody] using g0
      exact beB_inj (by omega) (by omega) (by omega) (by omega) this
    have en : r'.name.size = r.name.size := by
      have : beB r'.name.size 0 = beB r.name.size 0 := by simpa [recAll, recBody] using g1
      have := beB_inj (by omega) (by omega) (by omega) (by omega) this
      omega
    have et : r.kind = 1 → r'.text.size = r.text.size := fun h1 => by
      have g2 := hget (2 + r.name.size) (fun q => hkt ⟨h1, q.symm⟩)
      rw [e] at g2
      have x1 := text_at r h1 []
      rw [List.append_nil] at x1
      have x2 := text_at r' (ek.trans h1) more
      rw [en] at x2
      rw [x1, x2] at g2
      have := beB_inj (by omega) (by omega) (by omega) (by omega) (Option.some.inj g2)
      omega
    have ebl : (recBody r').length = (recBody r).length := by
      unfold recBody
      simp only [List.length_append, List.length_cons, List.length_nil, bytes_len, en, tail_len_eq ek et]
    have eal : (recAll r').length = (recAll r).length := by
      unfold recAll
      simp [ebl, beL_length]
    have hmore : more = [] := by
      have := congrArg List.length e
      simp at this
      exact List.eq_nil_of_length_eq_zero (by omega)
    subst hmore
    rw [List.append_nil] at e
    by_cases hkb : k < (recBody r).length
    · have e' := e
      unfold recAll at e'
      rw [List.set_append, if_pos hkb] at e'
      obtain ⟨e1, e2⟩ := List.append_inj e' (by simp [ebl])
      obtain ⟨s0, s1⟩ := recSum_range (recBody r)
      obtain ⟨s2, s3⟩ := recSum_range (recBody r')
      have es := beL2_inj s0 s1 s2 s3 e2
      rw [← e1] at es
      refine sum_set (recBody r) k hkb c ?_ es.symm
      intro q
      apply hc
      have ea : (recAll r)[k]? = some (recBody r)[k] := by
        unfold recAll
        rw [List.getElem?_append_left hkb, List.getElem?_eq_getElem hkb]
      rw [List.getElem?_eq_getElem hk] at ea
      rw [q]
      exact (Option.some.inj ea).symm
    · have e' := e
      unfold recAll at e'
      rw [List.set_append, if_neg hkb] at e'
      obtain ⟨e1, e2⟩ := List.append_inj e' (by simp [ebl])
      have ea : recAll r' = recAll r := by unfold recAll; rw [← e1]
      rw [ea] at e
      have : ((recAll r).set k c)[k]? = (recAll r)[k]? := by rw [e]
      rw [List.getElem?_set_self hk, List.getElem?_eq_getElem hk] at this
      exact hc (Option.some.inj this)
end Go.Proofs.Ytmlcglkdipigpaa
