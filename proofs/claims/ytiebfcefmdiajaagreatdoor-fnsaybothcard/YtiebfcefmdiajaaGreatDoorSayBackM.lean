/-
  Words that are written and read back; words that are cut, lengthened or turned: the mathematics.
-/
import Derived.Test.YtiebfcefmdiajaaGreatDoorMerged19
set_option linter.unusedVariables false
namespace Go.Proofs.YtiebfcefmdiajaaGreatDoor
open Go.RowKit Go.Maps Go.Deep

theorem rdN_put (n : Nat) (x : Int) (r : List UInt8) (h : numL (beL x n) = x) : rdN n (beL x n ++ r) = some (x, r) := by
  have hl : (beL x n).length = n := beL_length x n
  unfold rdN
  rw [if_pos (by rw [List.length_append, hl]; omega), List.take_left' hl, List.drop_left' hl, h]
theorem rdN_put1 (x : Int) (r : List UInt8) (h0 : 0 ≤ x) (h1 : x ≤ 255) : rdN 1 (beB x 0 :: r) = some (x, r) := by
  have := rdN_put 1 x r (by rw [beL_one]; exact numL_be1 x h0 (by omega))
  rwa [beL_one] at this
theorem numL_be6 (x : Int) (h0 : 0 ≤ x) (h1 : x ≤ 1099511627776) : numL (beL x 6) = x := by
  rw [numL_val, val_beL]
  unfold wrap64
  omega
theorem rdT_put (s : ByteArray) (r : List UInt8) (h : s.size ≤ 255) : rdT (nameBytes s ++ r) = some (s, r) := by
  have hs : s.data.toList.length = s.size := Array.length_toList
  unfold rdT nameBytes
  rw [List.cons_append, rdN_put1 _ _ (by omega) (by omega)]
  simp only [Option.bind_some, Int.toNat_natCast]
  unfold rdB
  rw [if_pos (by rw [List.length_append, hs]; omega), List.take_left' hs, List.drop_left' hs]
theorem rdV_put (x : VerV) (r : List UInt8) (h : x.a0.size ≤ 255) (h0 : 0 ≤ x.a1) (h1 : x.a1 ≤ 1099511627776) : rdV (verBytes x ++ r) = some (x, r) := by
  unfold rdV verBytes
  rw [List.append_assoc, rdT_put _ _ h]
  simp only [Option.bind_some]
  rw [rdN_put 6 _ _ (numL_be6 _ h0 h1)]
  rfl
theorem stampBytes_snoc (vs : List VerV) (x : VerV) : stampBytes (vs ++ [x]) = stampBytes vs ++ verBytes x := by simp [stampBytes]
theorem rdVs_put : ∀ (k : Nat) (vs : List VerV) (r : List UInt8), vs.length = k → (∀ x ∈ vs, x.a0.size ≤ 255 ∧ 0 ≤ x.a1 ∧ x.a1 ≤ 1099511627776) → rdVs k (stampBytes vs ++ r) = some (vs, r) := by
  intro k
  induction k with
  | zero =>
    intro vs r h _
    rw [List.eq_nil_of_length_eq_zero h]
    rfl
  | succ k ih =>
    intro vs r h hv
    obtain ⟨zs, x, rfl⟩ : ∃ zs x, vs = zs ++ [x] := by
      have hne : vs ≠ [] := by rintro rfl; simp at h
      exact ⟨vs.dropLast, vs.getLast hne, (List.dropLast_concat_getLast hne).symm⟩
    have hx := hv x (by simp)
    unfold rdVs
    rw [stampBytes_snoc, List.append_assoc, ih zs _ (by simpa using h) (fun y hy => hv y (by simp [hy]))]
    simp only [Option.bind_some]
    rw [rdV_put x r hx.1 hx.2.1 hx.2.2]
    rfl
theorem rdSay_put {s : SayV} (h : SayGood s) (hv : -9223372036854775808 ≤ s.val ∧ s.val ≤ 9223372036854775807) (r : List UInt8) : rdSay (sayBody s ++ r) = some (s, r) := by
  obtain ⟨kind, src, dst, name, val, stamp⟩ := s
  have hn := plain_szB h.name
  have hk := h.kind
  have h1 := h.src
  have h2 := h.dst
  simp only at hn hk h1 h2 hv
  unfold rdSay sayBody
  simp only [List.append_assoc, List.cons_append, List.nil_append]
  rw [rdN_put1 kind _ (by omega) (by omega)]
  simp only [Option.bind_some]
  rw [rdN_put1 src _ (by omega) (by omega)]
  simp only [Option.bind_some]
  rw [rdN_put1 dst _ (by omega) (by omega)]
  simp only [Option.bind_some]
  rw [rdT_put name _ (by omega)]
  simp only [Option.bind_some]
  unfold rdTail sayTail
  by_cases k2 : kind = 2
  · subst k2
    obtain ⟨t1, t2⟩ := h.tell rfl
    obtain ⟨t3, t4⟩ := stamp_names t2
    simp only at t1 t2 t3 t4
    simp only [if_true, List.append_assoc, List.cons_append, List.nil_append]
    rw [rdN_put 8 val _ (numL_beL val hv.1 hv.2)]
    simp only [Option.bind_some]
    rw [rdN_put1 _ _ (by omega) (by omega)]
    simp only [Option.bind_some, Int.toNat_natCast]
    rw [rdVs_put stamp.length stamp r rfl (fun x hx => by have := t4 x hx; have := plain_szB this.1; omega)]
    rfl
  · obtain ⟨b1, b2⟩ := h.bare k2
    simp only at b1 b2
    subst b1 b2
    simp only [k2, if_false, List.nil_append]
    rfl
theorem rdSay_all {s : SayV} (h : sayOkB s = true) (hv : -9223372036854775808 ≤ s.val ∧ s.val ≤ 9223372036854775807) : rdSay (sayAll s) = some (s, beL (saySum (sayBody s)) 2) := rdSay_put (say_good h) hv _
theorem sayAll_some {s : SayV} (h : sayOkB s = true) : sayBytesL s = sayAll s := by unfold sayBytesL; rw [if_pos h]
/-- what is written is read back -/
theorem say_back {s : SayV} (h : sayOkB s = true) (hv : -9223372036854775808 ≤ s.val ∧ s.val ≤ 9223372036854775807) : sayRd (sayAll s) = some s :=
  sayRd_yes (by have := sayAll_len (say_good h); omega) (rdSay_all h hv) ⟨h, rfl⟩
/-- what is read is written so -/
theorem say_again {bs : List UInt8} {s : SayV} (h : sayRd bs = some s) : sayOkB s = true ∧ sayAll s = bs ∧ (-9223372036854775808 ≤ s.val ∧ s.val ≤ 9223372036854775807) := by
  unfold sayRd at h
  split at h
  · cases hr : rdSay bs with
    | none => rw [hr] at h; cases h
    | some q =>
      obtain ⟨s', rest⟩ := q
      rw [hr] at h
      simp only [Option.bind_some] at h
      split at h
      · rename_i hq
        cases h
        have hb := rdSay_back hr
        refine ⟨hq.1, ?_, hb.2.2.2.2.2.2.2⟩
        rw [hb.1, hq.2]
        rfl
      · cases h
  · cases h
/-- bytes that begin as a word's are read as that word -/
theorem say_same {s s' : SayV} {r r' : List UInt8} (h : sayOkB s = true) (hv : -9223372036854775808 ≤ s.val ∧ s.val ≤ 9223372036854775807) (h' : sayOkB s' = true) (hv' : -9223372036854775808 ≤ s'.val ∧ s'.val ≤ 9223372036854775807) (e : sayBody s ++ r = sayBody s' ++ r') : s = s' ∧ r = r' := by
  have q1 := rdSay_put (say_good h) hv r
  have q2 := rdSay_put (say_good h') hv' r'
  rw [e, q2] at q1
  simp only [Option.some.injEq, Prod.mk.injEq] at q1
  exact ⟨q1.1.symm, q1.2.symm⟩
theorem say_cut {s : SayV} (h : sayOkB s = true) (hv : -9223372036854775808 ≤ s.val ∧ s.val ≤ 9223372036854775807) {k : Nat} (hk : k < (sayAll s).length) : sayRd ((sayAll s).take k) = none := by
  cases hr : sayRd ((sayAll s).take k) with
  | none => rfl
  | some s' =>
    exfalso
    obtain ⟨h', e, hv'⟩ := say_again hr
    have e2 : sayBody s ++ beL (saySum (sayBody s)) 2 = sayBody s' ++ (beL (saySum (sayBody s')) 2 ++ (sayAll s).drop k) := by
      rw [← List.append_assoc]
      show sayAll s = sayAll s' ++ (sayAll s).drop k
      rw [e, List.take_append_drop]
    have e3 := congrArg List.length (say_same h hv h' hv' e2).2
    rw [List.length_append, beL_length, beL_length, List.length_drop] at e3
    omega
theorem say_long {s : SayV} (h : sayOkB s = true) (hv : -9223372036854775808 ≤ s.val ∧ s.val ≤ 9223372036854775807) (c : UInt8) : sayRd (sayAll s ++ [c]) = none := by
  cases hr : sayRd (sayAll s ++ [c]) with
  | none => rfl
  | some s' =>
    exfalso
    obtain ⟨h', e, hv'⟩ := say_again hr
    have e2 : sayBody s ++ (beL (saySum (sayBody s)) 2 ++ [c]) = sayBody s' ++ beL (saySum (sayBody s')) 2 := by
      rw [← List.append_assoc]
      exact e.symm
    have e3 := congrArg List.length (say_same h hv h' hv' e2).2
    rw [List.length_append, beL_length, beL_length] at e3
    simp at e3
theorem say_turnSum {s : SayV} (h : sayOkB s = true) (hv : -9223372036854775808 ≤ s.val ∧ s.val ≤ 9223372036854775807) {k : Nat} (hk : k < (sayAll s).length) (h2 : (sayAll s).length ≤ k + 2) {c : UInt8} (hc : c ≠ (sayAll s)[k]) : sayRd ((sayAll s).set k c) = none := by
  cases hr : sayRd ((sayAll s).set k c) with
  | none => rfl
  | some s' =>
    exfalso
    obtain ⟨h', e, hv'⟩ := say_again hr
    have hl : (sayAll s).length = (sayBody s).length + 2 := by unfold sayAll; rw [List.length_append, beL_length]
    have e1 : (sayAll s).set k c = sayBody s ++ (beL (saySum (sayBody s)) 2).set (k - (sayBody s).length) c := by
      unfold sayAll
      rw [List.set_append_right _ _ (by omega)]
    have e2 : sayBody s ++ (beL (saySum (sayBody s)) 2).set (k - (sayBody s).length) c = sayBody s' ++ beL (saySum (sayBody s')) 2 := by
      rw [← e1]
      exact e.symm
    obtain ⟨rfl, _⟩ := say_same h hv h' hv' e2
    have e3 : ((sayAll s).set k c)[k]? = (sayAll s)[k]? := by rw [← e]
    rw [List.getElem?_set_self hk, List.getElem?_eq_getElem hk] at e3
    exact hc (Option.some.inj e3)
theorem say_turnVal {s : SayV} (h : sayOkB s = true) (hv : -9223372036854775808 ≤ s.val ∧ s.val ≤ 9223372036854775807) (k2 : s.kind = 2) {j : Nat} (hj : j < 8) (hlt : 4 + s.name.size + j < (sayAll s).length) {c : UInt8} (hc : c ≠ (sayAll s)[4 + s.name.size + j]) : sayRd ((sayAll s).set (4 + s.name.size + j) c) = none := by
  obtain ⟨kind, src, dst, name, val, stamp⟩ := s
  simp only at k2 hlt hc hv
  subst k2
  -- the word's bytes, parted at the value
  obtain ⟨A, hA, hAl⟩ : ∃ A, A = [beB 2 0, beB src 0, beB dst 0] ++ nameBytes name ∧ A.length = 4 + name.size := ⟨_, rfl, by rw [List.length_append, nameBytes_len]; simp; omega⟩
  have body : ∀ v : Int, sayBody ⟨2, src, dst, name, v, stamp⟩ = A ++ (beL v 8 ++ ([beB (stamp.length : Int) 0] ++ stampBytes stamp)) := by
    intro v
    rw [hA]
    unfold sayBody sayTail
    simp
  have hbl : ∀ v : Int, (beL v 8).length = 8 := fun v => beL_length v 8
  have hp : 4 + name.size + j < (sayBody ⟨2, src, dst, name, val, stamp⟩).length := by
    rw [body, List.length_append, List.length_append, hbl]
    omega
  -- the bytes that are turned are another value's
  have hx : ((beL val 8).set j c).length = 8 := by rw [List.length_set, hbl]
  have hv2 := numL_range ((beL val 8).set j c)
  have hbe : beL (numL ((beL val 8).set j c)) 8 = (beL val 8).set j c := by
    have := beL_numL ((beL val 8).set j c) (by omega)
    rwa [hx] at this
  have e1 : (sayBody ⟨2, src, dst, name, val, stamp⟩).set (4 + name.size + j) c = sayBody ⟨2, src, dst, name, numL ((beL val 8).set j c), stamp⟩ := by
    rw [body, body, hbe, List.set_append_right _ _ (by omega), hAl, show 4 + name.size + j - (4 + name.size) = j by omega, List.set_append_left _ _ (by rw [hbl]; exact hj)]
  generalize numL ((beL val 8).set j c) = v2 at *
  have e2 : (sayAll ⟨2, src, dst, name, val, stamp⟩).set (4 + name.size + j) c = sayBody ⟨2, src, dst, name, v2, stamp⟩ ++ beL (saySum (sayBody ⟨2, src, dst, name, val, stamp⟩)) 2 := by
    rw [← e1]
    unfold sayAll
    rw [List.set_append_left _ _ hp]
  have hg : (sayAll ⟨2, src, dst, name, val, stamp⟩)[4 + name.size + j] = (sayBody ⟨2, src, dst, name, val, stamp⟩)[4 + name.size + j] := by
    have : (sayAll ⟨2, src, dst, name, val, stamp⟩)[4 + name.size + j]? = (sayBody ⟨2, src, dst, name, val, stamp⟩)[4 + name.size + j]? := by
      unfold sayAll
      rw [List.getElem?_append_left hp]
    rw [List.getElem?_eq_getElem hlt, List.getElem?_eq_getElem hp] at this
    exact Option.some.inj this
  have hok2 : sayOkB ⟨2, src, dst, name, v2, stamp⟩ = true := h
  cases hr : sayRd ((sayAll ⟨2, src, dst, name, val, stamp⟩).set (4 + name.size + j) c) with
  | none => rfl
  | some s' =>
    exfalso
    obtain ⟨h', e, hv'⟩ := say_again hr
    have e3 : sayBody ⟨2, src, dst, name, v2, stamp⟩ ++ beL (saySum (sayBody ⟨2, src, dst, name, val, stamp⟩)) 2 = sayBody s' ++ beL (saySum (sayBody s')) 2 := by
      rw [← e2]
      exact e.symm
    obtain ⟨rfl, e4⟩ := say_same hok2 hv2 h' hv' e3
    rw [← e1] at e4
    have r1 := saySum_range (sayBody ⟨2, src, dst, name, val, stamp⟩)
    have r2 := saySum_range ((sayBody ⟨2, src, dst, name, val, stamp⟩).set (4 + name.size + j) c)
    have e5 : saySum (sayBody ⟨2, src, dst, name, val, stamp⟩) = saySum ((sayBody ⟨2, src, dst, name, val, stamp⟩).set (4 + name.size + j) c) := by
      have := congrArg numL e4
      rwa [numL_be2 _ r1.1 (by omega), numL_be2 _ r2.1 (by omega)] at this
    exact sum7_set _ _ hp c (by rw [← hg]; exact hc) e5.symm
end Go.Proofs.YtiebfcefmdiajaaGreatDoor
