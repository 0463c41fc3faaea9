/-
  Which record bytes begin with: there is at most one, and the program's way of reading finds it.
-/
import Derived.Test.YtcpjcdbhcllbiaaRecBytes
import Derived.Test.YtcpjcdbhcllbiaaNumMath
set_option linter.unusedVariables false
namespace Go.Proofs.Ytcpjcdbhcllbiaa
open Go.RowKit Go.Maps Go.Deep

theorem takeL_n {n : Nat} {xs ys : List UInt8} (h : xs.length = n) : takeL n (xs ++ ys) = xs := by subst h; exact takeL_app xs ys
theorem leftL_n {n : Nat} {xs ys : List UInt8} (h : xs.length = n) : leftL n (xs ++ ys) = ys := by subst h; exact leftL_app xs ys
theorem shortB_n {n : Nat} {xs ys : List UInt8} {s : Bool} (h : xs.length = n) : shortB n (xs ++ ys) s = s := by subst h; exact shortB_app xs ys s
/-- bytes, what is left, whether once there were too few -/
structure Got where
  got : List UInt8
  rest : List UInt8
  short : Bool
def textP (rest : List UInt8) (short : Bool) : Got := ⟨takeL (numL (takeL 1 rest)).toNat (leftL 1 rest), leftL (numL (takeL 1 rest)).toNat (leftL 1 rest), shortB (numL (takeL 1 rest)).toNat (leftL 1 rest) (shortB 1 rest short)⟩
def headP (bs : List UInt8) : Got := textP (leftL 1 bs) (shortB 1 bs false)
structure PR where
  r : RecV
  rest : List UInt8
  short : Bool
def tailP (k : Int) (h : Got) : PR :=
  if k = 1 then ⟨⟨k, ⟨h.got.toArray⟩, 0, ⟨(textP h.rest h.short).got.toArray⟩⟩, (textP h.rest h.short).rest, (textP h.rest h.short).short⟩
  else if k = 3 ∨ k = 4 then ⟨⟨k, ⟨h.got.toArray⟩, numL (takeL 8 h.rest), ⟨#[]⟩⟩, leftL 8 h.rest, shortB 8 h.rest h.short⟩
  else ⟨⟨k, ⟨h.got.toArray⟩, 0, ⟨#[]⟩⟩, h.rest, h.short⟩
def kindP (bs : List UInt8) : Int := numL (takeL 1 bs)
def parseP (bs : List UInt8) : PR := tailP (kindP bs) (headP bs)

theorem textP_app (xs ys : List UInt8) (c : UInt8) (s : Bool) (h : xs.length = c.toNat) : textP (c :: (xs ++ ys)) s = ⟨xs, ys, s⟩ := by
  have e1 : takeL 1 (c :: (xs ++ ys)) = [c] := takeL_app [c] _
  have e2 : leftL 1 (c :: (xs ++ ys)) = xs ++ ys := leftL_app [c] _
  have e3 : shortB 1 (c :: (xs ++ ys)) s = s := shortB_app [c] _ s
  unfold textP
  rw [e1, e2, e3, numL_byte, Int.toNat_natCast, ← h, takeL_app, leftL_app, shortB_app]
theorem beB_nat (n : Nat) (h : n < 256) : (beB (n : Int) 0).toNat = n := by
  have := beB_small (n : Int) (by omega) (by omega)
  omega
theorem arr_eq (s : ByteArray) : (⟨s.data.toList.toArray⟩ : ByteArray) = s := by cases s; rfl

theorem parse_rec (r : RecV) (hf : RecFit r) (hb : recOkB r = true) (more : List UInt8) : parseP (recBody r ++ more) = ⟨r, more, false⟩ := by
  obtain ⟨h8, ht, hk⟩ := ok_sizes hb
  have hk' : 0 ≤ r.kind ∧ r.kind < 256 := by omega
  have e0 : recBody r ++ more = [beB r.kind 0] ++ (beB r.name.size 0 :: (r.name.data.toList ++ (recTail r ++ more))) := by simp [recBody]
  have ek : kindP (recBody r ++ more) = r.kind := by
    unfold kindP
    rw [e0, show (1 : Nat) = [beB r.kind 0].length from rfl, takeL_app, numL_be1 _ hk'.1 hk'.2]
  have eh : headP (recBody r ++ more) = ⟨r.name.data.toList, recTail r ++ more, false⟩ := by
    unfold headP
    rw [e0, show (1 : Nat) = [beB r.kind 0].length from rfl, leftL_app, shortB_app]
    exact textP_app _ _ _ _ (by rw [beB_nat _ (by omega)]; simp)
  unfold parseP
  rw [ek, eh]
  simp only [recOkB, Bool.and_eq_true] at hb
  have hfit := hb.2
  unfold tailP recTail
  obtain ⟨kind, name, num, text⟩ := r
  simp only at hk ht h8 hfit ⊢
  rcases hk with rfl | rfl | rfl | rfl
  · simp only [if_true]
    have e1 : textP (beB (text.size : Int) 0 :: text.data.toList ++ more) false = ⟨text.data.toList, more, false⟩ := textP_app _ _ _ _ (by rw [beB_nat _ (by omega)]; simp)
    rw [e1]
    simp [fitsB] at hfit
    simp [hfit.1]
  · simp [fitsB, emptyB] at hfit
    simp
    exact ⟨hfit.1.symm, by rw [hfit.2]; rfl⟩
  · simp [fitsB, emptyB] at hfit
    have hn := hf.2.2.2
    simp only at hn
    have q1 : takeL 8 (beL num 8 ++ more) = beL num 8 := takeL_n (beL_length num 8)
    have q2 : leftL 8 (beL num 8 ++ more) = more := leftL_n (beL_length num 8)
    have q3 : shortB 8 (beL num 8 ++ more) false = false := shortB_n (beL_length num 8)
    simp [q1, q2, q3, numL_beL num hn.1 hn.2]
    rw [hfit]; rfl
  · simp [fitsB, emptyB] at hfit
    have hn := hf.2.2.2
    simp only at hn
    have q1 : takeL 8 (beL num 8 ++ more) = beL num 8 := takeL_n (beL_length num 8)
    have q2 : leftL 8 (beL num 8 ++ more) = more := leftL_n (beL_length num 8)
    have q3 : shortB 8 (beL num 8 ++ more) false = false := shortB_n (beL_length num 8)
    simp [q1, q2, q3, numL_beL num hn.1 hn.2]
    rw [hfit.1.1]; rfl

/-- the record with whose bytes they begin, and how many these are; or there is none -/
def IsRead (bs : List UInt8) (o : Option (RecV × Nat)) : Prop :=
  match o with
  | some (r, n) => RecFit r ∧ recOkB r = true ∧ n = (recAll r).length ∧ ∃ more, bs = recAll r ++ more
  | none => ∀ r, RecFit r → recOkB r = true → ∀ more, bs ≠ recAll r ++ more
theorem isRead_same {bs : List UInt8} {o o' : Option (RecV × Nat)} (h : IsRead bs o) (h' : IsRead bs o') : o = o' := by
  cases o with
  | none =>
    cases o' with
    | none => rfl
    | some p =>
      obtain ⟨r, n⟩ := p
      obtain ⟨h1, h2, h3, more, h4⟩ := h'
      exact absurd h4 (h r h1 h2 more)
  | some p =>
    obtain ⟨r, n⟩ := p
    obtain ⟨h1, h2, h3, more, h4⟩ := h
    cases o' with
    | none => exact absurd h4 (h' r h1 h2 more)
    | some p' =>
      obtain ⟨r', n'⟩ := p'
      obtain ⟨k1, k2, k3, more', k4⟩ := h'
      have e1 := parse_rec r h1 h2 (beL (recSum (recBody r)) 2 ++ more)
      have e2 := parse_rec r' k1 k2 (beL (recSum (recBody r')) 2 ++ more')
      have e3 : recBody r ++ (beL (recSum (recBody r)) 2 ++ more) = recBody r' ++ (beL (recSum (recBody r')) 2 ++ more') := by
        rw [← List.append_assoc, ← List.append_assoc]
        exact h4.symm.trans k4
      rw [e3] at e1
      have e4 := congrArg PR.r (e1.symm.trans e2)
      simp only at e4
      subst e4
      rw [h3, k3]
theorem ba_size (l : List UInt8) : (⟨l.toArray⟩ : ByteArray).size = l.length := by simp [ByteArray.size]
theorem one_of {xs : List UInt8} (h : xs.length = 1) : ∃ c, xs = [c] := by
  match xs, h with
  | [c], _ => exact ⟨c, rfl⟩
theorem textP_took {rest : List UInt8} {s : Bool} (h : (textP rest s).short = false) : s = false ∧ ∃ c : UInt8, rest = c :: ((textP rest s).got ++ (textP rest s).rest) ∧ (textP rest s).got.length = c.toNat := by
  obtain ⟨h1, h2, h3⟩ := took h
  obtain ⟨k1, k2, k3⟩ := took h1
  obtain ⟨c, hc⟩ := one_of k2
  refine ⟨k1, c, ?_, ?_⟩
  · have e : rest = [c] ++ leftL 1 rest := by rw [← hc]; exact k3.symm
    exact e.trans (congrArg ([c] ++ ·) h3.symm)
  · show (takeL _ _).length = _
    rw [h2, hc, numL_byte, Int.toNat_natCast]
theorem head_took {bs : List UInt8} (h : (headP bs).short = false) : ∃ c0 c1 : UInt8, bs = c0 :: c1 :: ((headP bs).got ++ (headP bs).rest) ∧ (headP bs).got.length = c1.toNat ∧ kindP bs = (c0.toNat : Int) := by
  obtain ⟨h1, c1, h2, h3⟩ := textP_took h
  obtain ⟨k1, k2, k3⟩ := took h1
  obtain ⟨c0, hc⟩ := one_of k2
  refine ⟨c0, c1, ?_, h3, by unfold kindP; rw [hc, numL_byte]⟩
  have e : bs = [c0] ++ leftL 1 bs := by rw [← hc]; exact k3.symm
  exact e.trans (congrArg ([c0] ++ ·) h2)
theorem tail_kind (k : Int) (h : Got) : (tailP k h).r.kind = k := by
  unfold tailP
  split
  · rfl
  · split <;> rfl
theorem parse_body {bs : List UInt8} (hs : (parseP bs).short = false) (hb : recOkB (parseP bs).r = true) : bs = recBody (parseP bs).r ++ (parseP bs).rest ∧ RecFit (parseP bs).r := by
  obtain ⟨h8, ht, hk⟩ := ok_sizes hb
  have hkind : (parseP bs).r.kind = kindP bs := tail_kind _ _
  rw [hkind] at hk
  unfold parseP at *
  have hhead : (headP bs).short = false := by
    unfold tailP at hs
    split at hs
    · exact (textP_took hs).1
    · split at hs
      · exact (took hs).1
      · exact hs
  obtain ⟨c0, c1, h1, h2, h3⟩ := head_took hhead
  have b0 : beB (kindP bs) 0 = c0 := by rw [h3]; exact beB_byte c0
  have b1 : beB (((⟨(headP bs).got.toArray⟩ : ByteArray).size : Nat) : Int) 0 = c1 := by
    rw [show (⟨(headP bs).got.toArray⟩ : ByteArray).size = c1.toNat by rw [ba_size]; exact h2]
    exact beB_byte c1
  have hsz : (⟨(headP bs).got.toArray⟩ : ByteArray).size ≤ maxLen := by
    have := UInt8.toNat_lt c1
    rw [show (⟨(headP bs).got.toArray⟩ : ByteArray).size = c1.toNat by rw [ba_size]; exact h2]
    unfold maxLen; omega
  rcases hk with e | e | e | e
  · rw [e] at hs ⊢ b0
    simp only [tailP, if_true] at hs ⊢
    obtain ⟨q1, c2, q2, q3⟩ := textP_took hs
    have b2 : beB (((⟨(textP (headP bs).rest (headP bs).short).got.toArray⟩ : ByteArray).size : Nat) : Int) 0 = c2 := by
      rw [show (⟨(textP (headP bs).rest (headP bs).short).got.toArray⟩ : ByteArray).size = c2.toNat by rw [ba_size]; exact q3]
      exact beB_byte c2
    refine ⟨?_, hsz, ?_, by simp, by simp⟩
    · unfold recBody recTail
      simp only [if_true, b0, b1, b2]
      conv => lhs; rw [h1, q2]
      simp
    · have := UInt8.toNat_lt c2
      show (⟨(textP (headP bs).rest (headP bs).short).got.toArray⟩ : ByteArray).size ≤ maxLen
      rw [show (⟨(textP (headP bs).rest (headP bs).short).got.toArray⟩ : ByteArray).size = c2.toNat by rw [ba_size]; exact q3]
      unfold maxLen; omega
  · rw [e] at hs ⊢ b0
    simp [tailP] at hs ⊢
    refine ⟨?_, hsz, ?_, by simp, by simp⟩
    · unfold recBody recTail
      simp only [b0, b1]
      conv => lhs; rw [h1]
      simp
    · exact Nat.zero_le _
  · rw [e] at hs ⊢ b0
    simp [tailP] at hs ⊢
    obtain ⟨q1, q2, q3⟩ := took hs
    refine ⟨?_, hsz, ?_, by simp, numL_range _⟩
    · unfold recBody recTail
      have q4 := beL_numL (takeL 8 (headP bs).rest) (by omega)
      rw [q2] at q4
      simp only [b0, b1, q4]
      conv => lhs; rw [h1, ← q3]
      simp
    · exact Nat.zero_le _
  · rw [e] at hs ⊢ b0
    simp [tailP] at hs ⊢
    obtain ⟨q1, q2, q3⟩ := took hs
    refine ⟨?_, hsz, ?_, by simp, numL_range _⟩
    · unfold recBody recTail
      have q4 := beL_numL (takeL 8 (headP bs).rest) (by omega)
      rw [q2] at q4
      simp only [b0, b1, q4]
      conv => lhs; rw [h1, ← q3]
      simp
    · exact Nat.zero_le _
/-- what the program answers -/
def readI (bs : List UInt8) : Option (RecV × Nat) :=
  if shortB 2 (parseP bs).rest (parseP bs).short = false ∧ recOkB (parseP bs).r = true ∧ numL (takeL 2 (parseP bs).rest) = recSum (bs.take (bs.length - (parseP bs).rest.length)) then some ((parseP bs).r, (bs.take (bs.length - (parseP bs).rest.length)).length + 2) else none
theorem readI_is (bs : List UInt8) : IsRead bs (readI bs) := by
  unfold readI
  split
  · rename_i h
    obtain ⟨h1, h2, h3⟩ := h
    obtain ⟨k1, k2, k3⟩ := took h1
    obtain ⟨q1, q2⟩ := parse_body k1 h2
    have hlen : bs.length - (parseP bs).rest.length = (recBody (parseP bs).r).length := by
      have := congrArg List.length q1
      simp at this
      omega
    have htake : bs.take (bs.length - (parseP bs).rest.length) = recBody (parseP bs).r := by
      rw [hlen]
      exact (congrArg (List.take _) q1).trans (by simp)
    rw [htake] at h3 ⊢
    have hs2 : beL (recSum (recBody (parseP bs).r)) 2 = takeL 2 (parseP bs).rest := by
      have q4 := beL_numL (takeL 2 (parseP bs).rest) (by omega)
      rw [k2] at q4
      rw [← h3]
      exact q4
    refine ⟨q2, h2, ?_, leftL 2 (parseP bs).rest, ?_⟩
    · unfold recAll; rw [List.length_append, beL_length]
    · unfold recAll
      rw [hs2, List.append_assoc, k3]
      exact q1
  · rename_i h
    intro r hf hb more e
    apply h
    have hp := parse_rec r hf hb (beL (recSum (recBody r)) 2 ++ more)
    rw [← List.append_assoc, show recBody r ++ beL (recSum (recBody r)) 2 = recAll r from rfl, ← e] at hp
    rw [hp]
    obtain ⟨s0, s1⟩ := recSum_range (recBody r)
    refine ⟨shortB_n (beL_length _ 2), hb, ?_⟩
    rw [takeL_n (beL_length _ 2), numL_be2 _ s0 (by omega)]
    congr 1
    rw [e]
    unfold recAll
    simp [beL_length]
theorem leftL_le (n : Nat) (bs : List UInt8) : (leftL n bs).length ≤ bs.length := by
  unfold leftL
  split
  · simp
  · exact Nat.le_refl _
theorem textP_rest_le (rest : List UInt8) (s : Bool) : (textP rest s).rest.length ≤ rest.length := Nat.le_trans (leftL_le _ _) (leftL_le _ _)
theorem textP_got_le (rest : List UInt8) (s : Bool) : (textP rest s).got.length ≤ rest.length := Nat.le_trans (takeL_len _ _) (leftL_le _ _)
theorem head_rest_le (bs : List UInt8) : (headP bs).rest.length ≤ bs.length := Nat.le_trans (textP_rest_le _ _) (leftL_le _ _)
theorem head_got_le (bs : List UInt8) : (headP bs).got.length ≤ bs.length := Nat.le_trans (textP_got_le _ _) (leftL_le _ _)
theorem parse_fit (bs : List UInt8) (hl : bs.length ≤ 1048576) : RecFit (parseP bs).r := by
  have h1 := head_got_le bs
  have h2 := head_rest_le bs
  have h3 := textP_got_le (headP bs).rest (headP bs).short
  unfold parseP tailP
  split
  · exact ⟨by simp only [ba_size]; unfold maxLen; omega, by simp only [ba_size]; unfold maxLen; omega, numL_range _, by simp⟩
  · split
    · exact ⟨by simp only [ba_size]; unfold maxLen; omega, Nat.zero_le _, numL_range _, numL_range _⟩
    · exact ⟨by simp only [ba_size]; unfold maxLen; omega, Nat.zero_le _, numL_range _, by simp⟩
theorem readI_yes {bs : List UInt8} {r : RecV} {rest : List UInt8} {s : Bool} (hp : parseP bs = ⟨r, rest, s⟩) (h1 : shortB 2 rest s = false) (h2 : recOkB r = true) (h3 : numL (takeL 2 rest) = recSum (bs.take (bs.length - rest.length))) : readI bs = some (r, (bs.take (bs.length - rest.length)).length + 2) := by
  unfold readI
  rw [hp]
  exact if_pos ⟨h1, h2, h3⟩
theorem readI_no {bs : List UInt8} {r : RecV} {rest : List UInt8} {s : Bool} (hp : parseP bs = ⟨r, rest, s⟩) (h : shortB 2 rest s = true ∨ recOkB r = false ∨ numL (takeL 2 rest) ≠ recSum (bs.take (bs.length - rest.length))) : readI bs = none := by
  unfold readI
  rw [hp]
  refine if_neg ?_
  rintro ⟨h1, h2, h3⟩
  simp only at h1 h2 h3
  rcases h with h | h | h
  · rw [h1] at h; cases h
  · rw [h2] at h; cases h
  · exact h h3
end Go.Proofs.Ytcpjcdbhcllbiaa
