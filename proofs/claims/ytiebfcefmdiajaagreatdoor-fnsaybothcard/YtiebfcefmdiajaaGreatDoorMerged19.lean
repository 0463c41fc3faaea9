/-
  A word read from bytes: field by field; what is left; that what was read is what would be written.
-/
/-
  The sum of a word: a byte that is turned moves it.
-/
import Derived.Test.YtiebfcefmdiajaaGreatDoorMerged11
import Derived.Test.YtiebfcefmdiajaaGreatDoorMerged12
import Derived.Test.YtiebfcefmdiajaaGreatDoorMerged7
set_option linter.unusedVariables false
namespace Go.Proofs.YtiebfcefmdiajaaGreatDoor
open Go.RowKit Go.Maps Go.Deep

def rdN (n : Nat) (r : List UInt8) : Option (Int × List UInt8) := if n ≤ r.length then some (numL (r.take n), r.drop n) else none
def rdB (n : Nat) (r : List UInt8) : Option (ByteArray × List UInt8) := if n ≤ r.length then some (⟨(r.take n).toArray⟩, r.drop n) else none
def rdT (r : List UInt8) : Option (ByteArray × List UInt8) := (rdN 1 r).bind fun q => rdB q.1.toNat q.2
def rdV (r : List UInt8) : Option (VerV × List UInt8) := (rdT r).bind fun q => (rdN 6 q.2).bind fun p => some (⟨q.1, p.1⟩, p.2)
def rdVs : Nat → List UInt8 → Option (List VerV × List UInt8)
  | 0, r => some ([], r)
  | k + 1, r => (rdVs k r).bind fun q => (rdV q.2).bind fun p => some (q.1 ++ [p.1], p.2)
def rdTail (kind : Int) (r : List UInt8) : Option ((Int × List VerV) × List UInt8) :=
  if kind = 2 then (rdN 8 r).bind fun q => (rdN 1 q.2).bind fun p => (rdVs p.1.toNat p.2).bind fun t => some ((q.1, t.1), t.2) else some ((0, []), r)
def rdSay (bs : List UInt8) : Option (SayV × List UInt8) :=
  (rdN 1 bs).bind fun k => (rdN 1 k.2).bind fun f => (rdN 1 f.2).bind fun t => (rdT t.2).bind fun nm => (rdTail k.1 nm.2).bind fun q => some (⟨k.1, f.1, t.1, nm.1, q.1.1, q.1.2⟩, q.2)
theorem rdN_some {n : Nat} {r : List UInt8} {x : Int} {r' : List UInt8} (h : rdN n r = some (x, r')) : n ≤ r.length ∧ x = numL (r.take n) ∧ r' = r.drop n := by
  unfold rdN at h
  split at h
  · rename_i hn
    simp only [Option.some.injEq, Prod.mk.injEq] at h
    exact ⟨hn, h.1.symm, h.2.symm⟩
  · cases h
theorem rdN_back {n : Nat} {r : List UInt8} {x : Int} {r' : List UInt8} (h8 : n ≤ 8) (h : rdN n r = some (x, r')) : r = beL x n ++ r' := by
  obtain ⟨h1, rfl, rfl⟩ := rdN_some h
  have hl : (r.take n).length = n := by simp; omega
  have := beL_numL (r.take n) (by omega)
  rw [hl] at this
  rw [this, List.take_append_drop]
theorem beL_one (x : Int) : beL x 1 = [beB x 0] := by
  rw [beL_snoc]
  rfl
theorem rdN_byte {r : List UInt8} {x : Int} {r' : List UInt8} (h : rdN 1 r = some (x, r')) : 0 ≤ x ∧ x ≤ 255 ∧ r = beB x 0 :: r' := by
  have hb := rdN_back (by omega) h
  rw [beL_one] at hb
  obtain ⟨h1, rfl, rfl⟩ := rdN_some h
  obtain ⟨c, t, rfl⟩ : ∃ c t, r = c :: t := by cases r with
    | nil => simp at h1
    | cons c t => exact ⟨c, t, rfl⟩
  have e : numL ((c :: t).take 1) = (c.toNat : Int) := by simpa using numL_byte c
  have := c.toNat_lt
  refine ⟨by rw [e]; omega, by rw [e]; omega, by simpa using hb⟩
theorem rdB_some {n : Nat} {r : List UInt8} {s : ByteArray} {r' : List UInt8} (h : rdB n r = some (s, r')) : n ≤ r.length ∧ s = ⟨(r.take n).toArray⟩ ∧ r' = r.drop n := by
  unfold rdB at h
  split at h
  · rename_i hn
    simp only [Option.some.injEq, Prod.mk.injEq] at h
    exact ⟨hn, h.1.symm, h.2.symm⟩
  · cases h
theorem rdT_back {r : List UInt8} {s : ByteArray} {r' : List UInt8} (h : rdT r = some (s, r')) : r = nameBytes s ++ r' ∧ s.size ≤ 255 := by
  unfold rdT at h
  cases h1 : rdN 1 r with
  | none => rw [h1] at h; cases h
  | some q =>
    obtain ⟨k, r1⟩ := q
    rw [h1] at h
    simp only [Option.bind_some] at h
    obtain ⟨k0, k1, rfl⟩ := rdN_byte h1
    obtain ⟨h2, rfl, rfl⟩ := rdB_some h
    have hs : (⟨(r1.take k.toNat).toArray⟩ : ByteArray).size = k.toNat := by simp [ByteArray.size]; omega
    refine ⟨?_, by omega⟩
    unfold nameBytes
    rw [hs, show ((k.toNat : Nat) : Int) = k by omega]
    simp
theorem rdV_back {r : List UInt8} {v : VerV} {r' : List UInt8} (h : rdV r = some (v, r')) : r = verBytes v ++ r' ∧ v.a0.size ≤ 255 ∧ (-9223372036854775808 ≤ v.a1 ∧ v.a1 ≤ 9223372036854775807) := by
  unfold rdV at h
  cases h1 : rdT r with
  | none => rw [h1] at h; cases h
  | some q =>
    obtain ⟨s, r1⟩ := q
    rw [h1] at h
    simp only [Option.bind_some] at h
    cases h2 : rdN 6 r1 with
    | none => rw [h2] at h; cases h
    | some p =>
      obtain ⟨x, r2⟩ := p
      rw [h2] at h
      simp only [Option.bind_some, Option.some.injEq, Prod.mk.injEq] at h
      obtain ⟨rfl, rfl⟩ := h
      obtain ⟨e1, e2⟩ := rdT_back h1
      have e3 := rdN_back (by omega) h2
      refine ⟨?_, e2, ?_⟩
      · rw [e1, e3]
        simp [verBytes]
      · obtain ⟨_, rfl, _⟩ := rdN_some h2
        exact numL_range _
theorem rdVs_back : ∀ (k : Nat) (r : List UInt8) (vs : List VerV) (r' : List UInt8), rdVs k r = some (vs, r') → r = stampBytes vs ++ r' ∧ vs.length = k ∧ ∀ x ∈ vs, x.a0.size ≤ 255 ∧ (-9223372036854775808 ≤ x.a1 ∧ x.a1 ≤ 9223372036854775807) := by
  intro k
  induction k with
  | zero =>
    intro r vs r' h
    simp only [rdVs, Option.some.injEq, Prod.mk.injEq] at h
    obtain ⟨rfl, rfl⟩ := h
    exact ⟨by simp [stampBytes], rfl, by simp⟩
  | succ k ih =>
    intro r vs r' h
    rw [rdVs] at h
    cases h1 : rdVs k r with
    | none => rw [h1] at h; cases h
    | some q =>
      obtain ⟨us, r1⟩ := q
      rw [h1] at h
      simp only [Option.bind_some] at h
      cases h2 : rdV r1 with
      | none => rw [h2] at h; cases h
      | some p =>
        obtain ⟨v, r2⟩ := p
        rw [h2] at h
        simp only [Option.bind_some, Option.some.injEq, Prod.mk.injEq] at h
        obtain ⟨rfl, rfl⟩ := h
        obtain ⟨e1, e2, e3⟩ := ih r us r1 h1
        obtain ⟨g1, g2⟩ := rdV_back h2
        refine ⟨?_, by simp [e2], ?_⟩
        · rw [e1, g1]
          simp [stampBytes]
        · intro x hx
          rcases List.mem_append.1 hx with hx | hx
          · exact e3 x hx
          · simp at hx
            subst hx
            exact g2
theorem rdVs_none {k n : Nat} {r : List UInt8} (h : rdVs k r = none) (hkn : k ≤ n) : rdVs n r = none := by
  induction n with
  | zero => obtain rfl : k = 0 := by omega
            exact h
  | succ n ih =>
    by_cases e : k = n + 1
    · subst e; exact h
    · rw [rdVs, ih (by omega)]
      rfl
theorem rdSay_back {bs : List UInt8} {s : SayV} {rest : List UInt8} (h : rdSay bs = some (s, rest)) : bs = sayBody s ++ rest ∧ s.name.size ≤ 255 ∧ s.stamp.length ≤ 255 ∧ (∀ x ∈ s.stamp, x.a0.size ≤ 255 ∧ (-9223372036854775808 ≤ x.a1 ∧ x.a1 ≤ 9223372036854775807)) ∧ (0 ≤ s.kind ∧ s.kind ≤ 255) ∧ (0 ≤ s.src ∧ s.src ≤ 255) ∧ (0 ≤ s.dst ∧ s.dst ≤ 255) ∧ (-9223372036854775808 ≤ s.val ∧ s.val ≤ 9223372036854775807) := by
  unfold rdSay at h
  cases h1 : rdN 1 bs with
  | none => rw [h1] at h; cases h
  | some q1 =>
  obtain ⟨k, r1⟩ := q1
  rw [h1] at h
  simp only [Option.bind_some] at h
  cases h2 : rdN 1 r1 with
  | none => rw [h2] at h; cases h
  | some q2 =>
  obtain ⟨f, r2⟩ := q2
  rw [h2] at h
  simp only [Option.bind_some] at h
  cases h3 : rdN 1 r2 with
  | none => rw [h3] at h; cases h
  | some q3 =>
  obtain ⟨t, r3⟩ := q3
  rw [h3] at h
  simp only [Option.bind_some] at h
  cases h4 : rdT r3 with
  | none => rw [h4] at h; cases h
  | some q4 =>
  obtain ⟨nm, r4⟩ := q4
  rw [h4] at h
  simp only [Option.bind_some] at h
  cases h5 : rdTail k r4 with
  | none => rw [h5] at h; cases h
  | some q5 =>
  obtain ⟨⟨vl, st⟩, r5⟩ := q5
  rw [h5] at h
  simp only [Option.bind_some, Option.some.injEq, Prod.mk.injEq] at h
  obtain ⟨rfl, rfl⟩ := h
  obtain ⟨k0, k1, e1⟩ := rdN_byte h1
  obtain ⟨f0, f1, e2⟩ := rdN_byte h2
  obtain ⟨t0, t1, e3⟩ := rdN_byte h3
  obtain ⟨e4, n4⟩ := rdT_back h4
  unfold rdTail at h5
  by_cases k2 : k = 2
  · rw [if_pos k2] at h5
    cases h6 : rdN 8 r4 with
    | none => rw [h6] at h5; cases h5
    | some q6 =>
    obtain ⟨vl', r6⟩ := q6
    rw [h6] at h5
    simp only [Option.bind_some] at h5
    cases h7 : rdN 1 r6 with
    | none => rw [h7] at h5; cases h5
    | some q7 =>
    obtain ⟨n, r7⟩ := q7
    rw [h7] at h5
    simp only [Option.bind_some] at h5
    cases h8 : rdVs n.toNat r7 with
    | none => rw [h8] at h5; cases h5
    | some q8 =>
    obtain ⟨vs, r8⟩ := q8
    rw [h8] at h5
    simp only [Option.bind_some, Option.some.injEq, Prod.mk.injEq] at h5
    obtain ⟨⟨rfl, rfl⟩, rfl⟩ := h5
    have e6 := rdN_back (by omega) h6
    obtain ⟨n0, n1, e7⟩ := rdN_byte h7
    obtain ⟨e8, l8, a8⟩ := rdVs_back _ _ _ _ h8
    refine ⟨?_, n4, by show vs.length ≤ 255; omega, a8, ⟨k0, k1⟩, ⟨f0, f1⟩, ⟨t0, t1⟩, ?_⟩
    · rw [e1, e2, e3, e4, e6, e7, e8]
      unfold sayBody sayTail
      simp only [k2, if_true]
      rw [show ((vs.length : Nat) : Int) = n by omega]
      simp
    · obtain ⟨_, rfl, _⟩ := rdN_some h6
      exact numL_range _
  · rw [if_neg k2] at h5
    simp only [Option.some.injEq, Prod.mk.injEq] at h5
    obtain ⟨⟨rfl, rfl⟩, rfl⟩ := h5
    refine ⟨?_, n4, by simp, by simp, ⟨k0, k1⟩, ⟨f0, f1⟩, ⟨t0, t1⟩, by simp⟩
    rw [e1, e2, e3, e4]
    unfold sayBody sayTail
    simp [k2]
def rdSayOk (s : SayV) (rest : List UInt8) : Prop := sayOkB s = true ∧ rest = beL (saySum (sayBody s)) 2
def sayRd (bs : List UInt8) : Option SayV := if bs.length ≤ 260 then (rdSay bs).bind fun q => if sayOkB q.1 = true ∧ q.2 = beL (saySum (sayBody q.1)) 2 then some q.1 else none else none
def noSay : SayV := ⟨0, 0, 0, ⟨#[]⟩, 0, []⟩
theorem sayRd_long {bs : List UInt8} (h : 260 < bs.length) : sayRd bs = none := by unfold sayRd; rw [if_neg (by omega)]
theorem sayRd_none {bs : List UInt8} (h : rdSay bs = none) : sayRd bs = none := by
  unfold sayRd
  rw [h]
  split <;> rfl
theorem sayRd_no {bs : List UInt8} {s : SayV} {rest : List UInt8} (h : rdSay bs = some (s, rest)) (hn : ¬ rdSayOk s rest) : sayRd bs = none := by
  unfold sayRd
  rw [h]
  split
  · simp only [Option.bind_some]
    exact if_neg hn
  · rfl
theorem sayRd_yes {bs : List UInt8} {s : SayV} {rest : List UInt8} (hl : bs.length ≤ 260) (h : rdSay bs = some (s, rest)) (hy : rdSayOk s rest) : sayRd bs = some s := by
  unfold sayRd
  rw [if_pos hl, h]
  simp only [Option.bind_some]
  exact if_pos hy
/-- written again and held against the bytes -/
theorem rdSayOk_spec {bs : List UInt8} {s : SayV} {rest : List UInt8} (h : rdSay bs = some (s, rest)) : rdSayOk s rest ↔ (sayOkB s = true ∧ sayBytesL s = bs) := by
  have hb := (rdSay_back h).1
  unfold rdSayOk
  constructor
  · rintro ⟨h1, h2⟩
    refine ⟨h1, ?_⟩
    unfold sayBytesL
    rw [if_pos h1, hb, h2]
    rfl
  · rintro ⟨h1, h2⟩
    refine ⟨h1, ?_⟩
    unfold sayBytesL at h2
    rw [if_pos h1, hb] at h2
    unfold sayAll at h2
    exact (List.append_cancel_left h2).symm
/-- the sum read, and held against the sum reckoned -/
theorem rdSayOk_impl {s : SayV} {rest : List UInt8} : rdSayOk s rest ↔ (rest.length = 2 ∧ numL rest = saySum (sayBody s) ∧ sayOkB s = true) := by
  have hr := saySum_range (sayBody s)
  unfold rdSayOk
  constructor
  · rintro ⟨h1, rfl⟩
    exact ⟨beL_length _ _, numL_be2 _ hr.1 (by omega), h1⟩
  · rintro ⟨h1, h2, h3⟩
    refine ⟨h3, ?_⟩
    rw [← h2]
    have := beL_numL rest (by omega)
    rw [h1] at this
    exact this.symm
theorem rdSay_small {bs : List UInt8} {s : SayV} {rest : List UInt8} (h : rdSay bs = some (s, rest)) : SmallSay s := by
  obtain ⟨_, h1, h2, h3, h4, h5, h6, h7⟩ := rdSay_back h
  refine ⟨⟨by omega, by omega, fun x hx => by have := (h3 x hx).1; omega⟩, ⟨by unfold maxLen; omega, by unfold maxLen; omega, fun x hx => ⟨by have := (h3 x hx).1; unfold maxLen; omega, (h3 x hx).2⟩⟩, by omega, by omega, by omega, by omega⟩
end Go.Proofs.YtiebfcefmdiajaaGreatDoor

set_option linter.unusedVariables false
namespace Go.Proofs.YtiebfcefmdiajaaGreatDoor
open Go.RowKit Go.Maps Go.Deep

theorem sum7_apart (ys : List UInt8) : ∀ (s t : Int), 0 ≤ s → s < 65521 → 0 ≤ t → t < 65521 → s ≠ t → ys.foldl sumStep7 s ≠ ys.foldl sumStep7 t := by
  induction ys with
  | nil => exact fun s t _ _ _ _ h => h
  | cons c cs ih =>
    intro s t h0 h1 h2 h3 h
    refine ih _ _ (by unfold sumStep7; omega) (by unfold sumStep7; omega) (by unfold sumStep7; omega) (by unfold sumStep7; omega) ?_
    unfold sumStep7
    generalize (c.toNat : Int) = x
    intro e
    apply h
    omega
theorem sum7_turned (xs ys : List UInt8) (a b : UInt8) (h : a ≠ b) : saySum (xs ++ a :: ys) ≠ saySum (xs ++ b :: ys) := by
  unfold saySum
  rw [List.foldl_append, List.foldl_append, List.foldl_cons, List.foldl_cons]
  obtain ⟨h0, h1⟩ := saySum_go xs 7 (by omega)
  generalize xs.foldl sumStep7 7 = s at *
  have ha := a.toNat_lt
  have hb := b.toNat_lt
  have hne : a.toNat ≠ b.toNat := fun e => h (UInt8.toNat.inj e)
  refine sum7_apart ys _ _ (by unfold sumStep7; omega) (by unfold sumStep7; omega) (by unfold sumStep7; omega) (by unfold sumStep7; omega) ?_
  unfold sumStep7
  omega
theorem set_split7 (xs : List UInt8) (k : Nat) (h : k < xs.length) (c : UInt8) : xs.set k c = xs.take k ++ c :: xs.drop (k + 1) ∧ xs = xs.take k ++ xs[k] :: xs.drop (k + 1) := by
  constructor
  · rw [List.set_eq_take_append_cons_drop, if_pos h]
  · rw [← List.drop_eq_getElem_cons h, List.take_append_drop]
theorem sum7_set (xs : List UInt8) (k : Nat) (h : k < xs.length) (c : UInt8) (hc : c ≠ xs[k]) : saySum (xs.set k c) ≠ saySum xs := by
  obtain ⟨h1, h2⟩ := set_split7 xs k h c
  rw [h1]
  intro e
  rw [h2] at e
  have hx : (xs.take k ++ xs[k] :: xs.drop (k + 1)).take k = xs.take k := by rw [← h2]
  have hd : (xs.take k ++ xs[k] :: xs.drop (k + 1)).drop (k + 1) = xs.drop (k + 1) := by rw [← h2]
  rw [hx, hd] at e
  exact sum7_turned _ _ _ _ hc e
end Go.Proofs.YtiebfcefmdiajaaGreatDoor
