/-
  The specification's way of reading a record comes to the same record.
-/
import Derived.Test.YtcpjcdbhcllbiaaRecReadS
set_option linter.unusedVariables false
namespace Go.Proofs.Ytcpjcdbhcllbiaa
open Go.RowKit Go.Maps Go.Deep

def baL (l : List UInt8) : ByteArray := ⟨l.toArray⟩
/-- what the specification takes bytes for -/
def specR (bs : List UInt8) (n : Nat) : RecV :=
  ⟨(byteN bs 0 : Int), baL ((bs.drop 2).take (byteN bs 1)), if byteN bs 0 = 3 ∨ byteN bs 0 = 4 then numL ((bs.drop (2 + byteN bs 1)).take 8) else 0, if byteN bs 0 = 1 then baL ((bs.drop (2 + byteN bs 1 + 1)).take (n - 2 - (2 + byteN bs 1 + 1))) else baL []⟩
theorem takeL_le {n : Nat} {bs : List UInt8} (h : n ≤ bs.length) : takeL n bs = bs.take n := by rw [takeL, if_pos h]
theorem leftL_le' {n : Nat} {bs : List UInt8} (h : n ≤ bs.length) : leftL n bs = bs.drop n := by rw [leftL, if_pos h]
theorem two_of {bs : List UInt8} (h : ¬ bs.length < 2) : ∃ c0 c1 t, bs = c0 :: c1 :: t := by
  match bs with
  | [] => exact absurd h (by simp)
  | [_] => exact absurd h (by simp)
  | c0 :: c1 :: t => exact ⟨c0, c1, t, rfl⟩
theorem spec_parse (bs : List UInt8) (n : Nat) (hn : sizeS bs = (n : Int)) (hl : n ≤ bs.length) : (parseP bs).r = specR bs n := by
  unfold sizeS at hn
  split at hn
  · omega
  · rename_i h2
    obtain ⟨c0, c1, t, rfl⟩ := two_of h2
    have e0 : byteN (c0 :: c1 :: t) 0 = c0.toNat := rfl
    have e1 : byteN (c0 :: c1 :: t) 1 = c1.toNat := rfl
    have em : byteN (c0 :: c1 :: t) (2 + c1.toNat) = (t.getD c1.toNat 0).toNat := by
      unfold byteN
      rw [show 2 + c1.toNat = c1.toNat + 1 + 1 by omega]
      rfl
    rw [e0, e1, em] at hn
    simp only [List.length_cons] at hn hl
    have hk : kindP (c0 :: c1 :: t) = (c0.toNat : Int) := by
      unfold kindP
      rw [show takeL 1 (c0 :: c1 :: t) = [c0] from takeL_app [c0] _, numL_byte]
    have hh : headP (c0 :: c1 :: t) = textP (c1 :: t) false := by
      unfold headP
      rw [show leftL 1 (c0 :: c1 :: t) = c1 :: t from leftL_app [c0] _, show shortB 1 (c0 :: c1 :: t) false = false from shortB_app [c0] _ _]
    unfold sizeK at hn
    have htl : c1.toNat ≤ t.length := by
      split at hn
      · split at hn <;> omega
      · split at hn
        · omega
        · split at hn <;> omega
    have ht : textP (c1 :: t) false = ⟨t.take c1.toNat, t.drop c1.toNat, false⟩ := by
      conv => lhs; rw [← List.take_append_drop c1.toNat t]
      exact textP_app _ _ _ _ (by simp; omega)
    unfold parseP specR
    rw [hk, hh, ht, e0, e1]
    have d2 : List.drop 2 (c0 :: c1 :: t) = t := rfl
    have dk : List.drop (2 + c1.toNat) (c0 :: c1 :: t) = t.drop c1.toNat := by rw [show 2 + c1.toNat = c1.toNat + 1 + 1 by omega]; rfl
    have dk1 : List.drop (2 + c1.toNat + 1) (c0 :: c1 :: t) = (t.drop c1.toNat).drop 1 := by rw [show 2 + c1.toNat + 1 = (c1.toNat + 1) + 1 + 1 by omega, List.drop_drop]; rfl
    rw [d2, dk, dk1]
    unfold tailP baL
    by_cases k1 : c0.toNat = 1
    · rw [if_pos k1] at hn
      split at hn
      · omega
      · rename_i hlt
        have hm : (t.getD c1.toNat 0) = (t[c1.toNat]'(by omega)) := by rw [List.getD_eq_getElem?_getD, List.getElem?_eq_getElem (by omega)]; rfl
        rw [hm] at hn
        have hd : t.drop c1.toNat = (t[c1.toNat]'(by omega)) :: t.drop (c1.toNat + 1) := List.drop_eq_getElem_cons (by omega)
        generalize hc2 : (t[c1.toNat]'(by omega)) = c2 at *
        have hx : textP (t.drop c1.toNat) false = ⟨(t.drop (c1.toNat + 1)).take c2.toNat, (t.drop (c1.toNat + 1)).drop c2.toNat, false⟩ := by
          rw [hd]
          conv => lhs; rw [← List.take_append_drop c2.toNat (t.drop (c1.toNat + 1))]
          exact textP_app _ _ _ _ (by simp; omega)
        have k1' : (c0.toNat : Int) = 1 := by omega
        rw [if_pos k1', hx]
        have hlen : n - 2 - (2 + c1.toNat + 1) = c2.toNat := by omega
        simp [k1, hlen, List.drop_drop]
    · have k1' : ¬ (c0.toNat : Int) = 1 := by omega
      rw [if_neg k1', if_neg k1]
      by_cases k3 : c0.toNat = 3 ∨ c0.toNat = 4
      · have k3' : (c0.toNat : Int) = 3 ∨ (c0.toNat : Int) = 4 := by omega
        rw [if_pos k3', if_pos k3]
        rw [if_neg k1, if_neg (by omega), if_pos k3] at hn
        rw [takeL_le (by simp; omega)]
      · have k3' : ¬ ((c0.toNat : Int) = 3 ∨ (c0.toNat : Int) = 4) := by omega
        rw [if_neg k3', if_neg k3]
theorem size_rec (r : RecV) (hf : RecFit r) (hb : recOkB r = true) (more : List UInt8) : sizeS (recAll r ++ more) = ((recAll r).length : Int) := by
  obtain ⟨h8, ht, hk⟩ := ok_sizes hb
  have e0 : recAll r ++ more = beB r.kind 0 :: beB r.name.size 0 :: (r.name.data.toList ++ (recTail r ++ (beL (recSum (recBody r)) 2 ++ more))) := by simp [recAll, recBody]
  have hlen : (recAll r).length = 2 + r.name.size + (recTail r).length + 2 := by simp [recAll, recBody, beL_length]; omega
  have b0 : ((beB r.kind 0).toNat : Int) = r.kind := beB_small _ (by omega) (by omega)
  have b1 : (beB (r.name.size : Int) 0).toNat = r.name.size := beB_nat _ (by omega)
  rw [hlen, e0]
  unfold sizeS
  rw [if_neg (by simp)]
  have q0 : byteN (beB r.kind 0 :: beB r.name.size 0 :: (r.name.data.toList ++ (recTail r ++ (beL (recSum (recBody r)) 2 ++ more)))) 0 = (beB r.kind 0).toNat := rfl
  have q1 : byteN (beB r.kind 0 :: beB r.name.size 0 :: (r.name.data.toList ++ (recTail r ++ (beL (recSum (recBody r)) 2 ++ more)))) 1 = r.name.size := b1
  rw [q0, q1]
  have qm : byteN (beB r.kind 0 :: beB r.name.size 0 :: (r.name.data.toList ++ (recTail r ++ (beL (recSum (recBody r)) 2 ++ more)))) (2 + r.name.size) = ((recTail r ++ (beL (recSum (recBody r)) 2 ++ more)).getD 0 0).toNat := by
    unfold byteN
    rw [show 2 + r.name.size = r.name.size + 1 + 1 by omega]
    show ((r.name.data.toList ++ _).getD r.name.size 0).toNat = _
    rw [List.getD_eq_getElem?_getD, List.getElem?_append_right (by simp), List.getD_eq_getElem?_getD]
    simp
  rw [qm]
  unfold sizeK
  unfold recTail at *
  rcases hk with e | e | e | e
  · rw [if_pos e]
    rw [if_pos (by omega), if_neg (by simp; omega)]
    have b2 : (beB (r.text.size : Int) 0).toNat = r.text.size := beB_nat _ (by omega)
    simp [b2]
    omega
  · rw [if_neg (by omega), if_pos (by omega)]
    simp [e]
  · rw [if_neg (by omega), if_neg (by omega), if_pos (by omega)]
    simp [e, beL_length]
  · rw [if_neg (by omega), if_neg (by omega), if_pos (by omega)]
    simp [e, beL_length]
theorem spec_yes {bs : List UInt8} {n : Nat} (hb : bs.length ≤ 1048576) (hn : sizeS bs = (n : Int)) (hl : n ≤ bs.length) (hok : recOkB (specR bs n) = true) (he : recAll (specR bs n) = bs.take n) : IsRead bs (some (specR bs n, n)) := by
  refine ⟨?_, hok, ?_, bs.drop n, ?_⟩
  · rw [← spec_parse bs n hn hl]; exact parse_fit bs hb
  · rw [he]; simp; omega
  · rw [he]; simp
theorem spec_no {bs : List UInt8} (h : sizeS bs < 0 ∨ (bs.length : Int) < sizeS bs ∨ ∃ n : Nat, sizeS bs = (n : Int) ∧ n ≤ bs.length ∧ (recOkB (specR bs n) = false ∨ recAll (specR bs n) ≠ bs.take n)) : IsRead bs none := by
  intro r hf hb more e
  have hs := size_rec r hf hb more
  rw [← e] at hs
  have hlen := congrArg List.length e
  simp at hlen
  rcases h with h | h | ⟨n, h1, h2, h3⟩
  · omega
  · omega
  · have hp := spec_parse bs n h1 h2
    have hp2 := parse_rec r hf hb (beL (recSum (recBody r)) 2 ++ more)
    rw [← List.append_assoc, show recBody r ++ beL (recSum (recBody r)) 2 = recAll r from rfl, ← e] at hp2
    rw [hp2] at hp
    simp only at hp
    rw [← hp] at h3
    rcases h3 with h3 | h3
    · rw [hb] at h3; cases h3
    · apply h3
      have hnn : n = (recAll r).length := by omega
      rw [hnn, e]
      simp
end Go.Proofs.Ytcpjcdbhcllbiaa
