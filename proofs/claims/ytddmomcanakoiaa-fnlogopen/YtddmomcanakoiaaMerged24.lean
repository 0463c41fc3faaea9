/-
  The specification's RecRead: how many bytes a record has by its beginning, what it is then, and that it is held against the bytes.
-/
/-
  The specification's way of reading a record comes to the same record.
-/
import Derived.Test.YtddmomcanakoiaaRecRead
import Derived.BigQuiet
import Derived.Deep.QuietTactic
set_option linter.unusedVariables false
namespace Go.Proofs.Ytddmomcanakoiaa
open Go.RowKit Go.Maps Go.Deep

def byteN (bs : List UInt8) (i : Nat) : Nat := (bs.getD i 0).toNat
/-- how many bytes a record has, by its beginning; below 0: they do not tell -/
def sizeK (len k n1 m : Nat) : Int := if k = 1 then (if len ≤ 2 + n1 then -1 else 2 + (n1 : Int) + 1 + (m : Int) + 2) else if k = 2 then 2 + (n1 : Int) + 2 else if k = 3 ∨ k = 4 then 2 + (n1 : Int) + 8 + 2 else -1
def sizeS (bs : List UInt8) : Int := if bs.length < 2 then -1 else sizeK bs.length (byteN bs 0) (byteN bs 1) (byteN bs (2 + byteN bs 1))
theorem byteN_lt (bs : List UInt8) (i : Nat) : byteN bs i < 256 := UInt8.toNat_lt _
theorem byAt_N {w : World} {b off : Nat} {bs : List UInt8} (h : ByAt w b off bs) (i : Nat) (hi : i < bs.length) : w.cell? ⟨b, off + i, none⟩ = some (.int .u8 (byteN bs i : Int)) := by
  have := h i hi
  unfold byteN
  rw [List.getD_eq_getElem?_getD, List.getElem?_eq_getElem hi]
  exact this

set_option maxHeartbeats 3200000 in
theorem l7Size_any (v : Value) (bs : List UInt8) (w : World) (hl : bs.length ≤ 1048576) (h : ByRd w v bs) : Calls Try.prog 71 #[v] w fun e w' => e = .returned (.int .i64 (sizeS bs)) ∧ w' = w := by
  obtain ⟨a, c, rfl, hin, hcap⟩ := h
  by_cases h2 : bs.length < 2
  · have h2' : (bs.length : Int) < 2 := by omega
    rw [show sizeS bs = -1 by simp [sizeS, h2]]
    clear h2
    generalize bs.length = n at *
    go_enter Try.func71, Try.ntmps71
    go_wp2
    go_ret
    exact ⟨rfl, rfl⟩
  · obtain ⟨b, off, rfl, hb, hc⟩ : ∃ b off, a = some ⟨b, off, none⟩ ∧ b < w.heap.size ∧ ByAt w b off bs := by
      rcases hin with h0 | h0
      · rw [h0] at h2; simp at h2
      · exact h0
    have c0 : w.cell? ⟨b, off, none⟩ = some (.int .u8 (byteN bs 0 : Int)) := byAt_N hc 0 (by omega)
    have i0 : 0 < bs.length := by omega
    have i1 : 1 < bs.length := by omega
    have c1 := byAt_N hc 1 (by omega)
    have b0 := byteN_lt bs 0
    have b1 := byteN_lt bs 1
    have b2 := byteN_lt bs (2 + byteN bs 1)
    have g2 : ¬ (bs.length : Int) < 2 := by omega
    have HX := hide (fun (i : Nat) (hi : i < bs.length) => byAt_N hc i hi)
    rw [show sizeS bs = sizeK bs.length (byteN bs 0) (byteN bs 1) (byteN bs (2 + byteN bs 1)) by simp [sizeS, h2]]
    unfold sizeK
    clear hc hin
    generalize byteN bs 0 = k at *
    by_cases k1 : k = 1
    · subst k1
      by_cases hn : bs.length ≤ 2 + byteN bs 1
      · rw [if_pos rfl, if_pos hn]
        have hn' : (bs.length : Int) ≤ 2 + (byteN bs 1 : Int) := by omega
        generalize byteN bs 1 = n1 at *
        generalize bs.length = n at *
        go_enter Try.func71, Try.ntmps71
        go_wp2_with fail
        go_ret
        exact ⟨rfl, rfl⟩
      · rw [if_pos rfl, if_neg hn]
        have cx := unhide HX (2 + byteN bs 1) (by omega)
        have hn' : ¬ (bs.length : Int) ≤ 2 + (byteN bs 1 : Int) := by omega
        have hidx : (2 + (byteN bs 1 : Int)).toNat = 2 + byteN bs 1 := by omega
        generalize byteN bs (2 + byteN bs 1) = m at *
        generalize byteN bs 1 = n1 at *
        generalize bs.length = n at *
        go_enter Try.func71, Try.ntmps71
        go_wp2_with fail
        go_ret
        exact ⟨rfl, rfl⟩
    · have q1 : ((k : Int) == 1) = false := by simp; omega
      by_cases k2 : k = 2
      · subst k2
        rw [if_neg k1, if_pos rfl]
        generalize byteN bs 1 = n1 at *
        generalize bs.length = n at *
        go_enter Try.func71, Try.ntmps71
        go_wp2_with fail
        go_ret
        exact ⟨rfl, rfl⟩
      · have q2 : ((k : Int) == 2) = false := by simp; omega
        by_cases k3 : k = 3
        · subst k3
          rw [if_neg k1, if_neg k2, if_pos (.inl rfl)]
          generalize byteN bs 1 = n1 at *
          generalize bs.length = n at *
          go_enter Try.func71, Try.ntmps71
          go_wp2_with fail
          go_ret
          exact ⟨rfl, rfl⟩
        · have q3 : ((k : Int) == 3) = false := by simp; omega
          by_cases k4 : k = 4
          · subst k4
            rw [if_neg k1, if_neg k2, if_pos (.inr rfl)]
            generalize byteN bs 1 = n1 at *
            generalize bs.length = n at *
            go_enter Try.func71, Try.ntmps71
            go_wp2_with fail
            go_ret
            exact ⟨rfl, rfl⟩
          · have q4 : ((k : Int) == 4) = false := by simp; omega
            rw [if_neg k1, if_neg k2, if_neg (by omega)]
            generalize byteN bs 1 = n1 at *
            generalize bs.length = n at *
            go_enter Try.func71, Try.ntmps71
            go_wp2_with fail
            go_ret
            exact ⟨rfl, rfl⟩

def numU (x : Int) (c : UInt8) : Int := bits .or .u64 (IntKind.u64.wrap (x * 256)) (c.toNat : Int)
theorem u64_wrap (y : Int) : IntKind.u64.wrap y = y % 18446744073709551616 := rfl
theorem or_byteU (x : Int) (c : UInt8) : numU x c = (x * 256 + (c.toNat : Int)) % 18446744073709551616 := by
  have hc := UInt8.toNat_lt c
  unfold numU
  rw [u64_wrap]
  generalize c.toNat = c at *
  obtain ⟨a, ha⟩ : ∃ a, a = x * 256 % 18446744073709551616 := ⟨_, rfl⟩
  rw [← ha]
  have hA : (BitVec.ofInt 64 a).toNat = a.toNat := by rw [BitVec.toNat_ofInt]; show (a % 18446744073709551616).toNat = _; congr 1; omega
  have hB : (BitVec.ofInt 64 (c : Int)).toNat = c := by
    rw [BitVec.ofInt_natCast, BitVec.toNat_ofNat]; exact Nat.mod_eq_of_lt (by omega)
  obtain ⟨k, hk⟩ : ∃ k : Nat, a.toNat = 2 ^ 8 * k := ⟨a.toNat / 256, by omega⟩
  show IntKind.u64.wrap ((BitVec.ofInt 64 a ||| BitVec.ofInt 64 (c : Int)).toNat : Int) = _
  rw [BitVec.toNat_or, hA, hB, hk, ← Nat.two_pow_add_eq_or_of_lt (by omega : c < 2 ^ 8) k, ← hk, u64_wrap]
  omega
def numUL (bs : List UInt8) : Int := bs.foldl numU 0
theorem numUL_take (bs : List UInt8) (k : Nat) (h : k < bs.length) : numUL (bs.take (k + 1)) = numU (numUL (bs.take k)) bs[k] := by
  rw [List.take_succ_eq_append_getElem h]
  unfold numUL
  rw [List.foldl_append]
  rfl
theorem numUL_val (bs : List UInt8) : numUL bs = valN bs % 18446744073709551616 := by
  induction bs using snoc_cases with
  | h0 => simp [numUL, valN]
  | h1 bs c ih =>
    have e : numUL (bs ++ [c]) = numU (numUL bs) c := by simp [numUL]
    rw [e, or_byteU, ih, valN_snoc]
    omega
theorem numUL_num (bs : List UInt8) : wrap64 (numUL bs) = numL bs := by
  rw [numUL_val, numL_val]
  unfold wrap64
  omega
set_option maxHeartbeats 3200000 in
theorem l7Number_any (v : Value) (bs : List UInt8) (w : World) (hl : bs.length ≤ 1048576) (h8 : 8 ≤ bs.length) (h : ByRd w v bs) : Calls Try.prog 72 #[v] w fun e w' => e = .returned (.int .i64 (numL (bs.take 8))) ∧ w' = w := by
  obtain ⟨a, c, rfl, hin, hcap⟩ := h
  obtain ⟨b, off, rfl, hb, hc⟩ : ∃ b off, a = some ⟨b, off, none⟩ ∧ b < w.heap.size ∧ ByAt w b off bs := by
    rcases hin with h0 | h0
    · rw [h0] at h8; simp at h8
    · exact h0
  have HC := hide hc
  clear hc hin
  go_enter Try.func72, Try.ntmps72
  go_wp2_with fail
  go_loop [3, 4] (fun u i => ∃ k : Nat, k ≤ 8 ∧ i = .int .i64 k ∧ u = .int .u64 (numUL (bs.take k))) (fun _ i => 8 - (intOf i).toNat)
  case atStart => exact ⟨0, Nat.zero_le _, rfl, rfl⟩
  case round =>
    obtain ⟨k, hk, rfl, rfl⟩ := hrel
    by_cases hlt : k < 8
    · have hkl : k < bs.length := by omega
      have c0 := unhide HC k hkl
      have HN := hide (numUL_take bs k hkl)
      unfold numU at HN
      have hy0 : (0 : Int) ≤ (bs[k].toNat : Int) := Int.natCast_nonneg _
      have hy1 : (bs[k].toNat : Int) ≤ 255 := by have := UInt8.toNat_lt bs[k]; omega
      have hki : (k : Int) < 8 := by omega
      generalize numUL (bs.take k) = x at *
      generalize (bs[k].toNat : Int) = y at *
      go_wp2_with fail
      go_round
      case rel => exact ⟨k + 1, by omega, by go_num, by rw [unhide HN]⟩
      case measure => simp [intOf]; omega
    · obtain rfl : k = 8 := by omega
      have HE := hide (numUL_num (bs.take 8))
      go_wp2_with fail
      go_ret
      exact ⟨ret_int (unhide HE), rfl⟩
end Go.Proofs.Ytddmomcanakoiaa

set_option linter.unusedVariables false
namespace Go.Proofs.Ytddmomcanakoiaa
open Go.RowKit Go.Maps Go.Deep

def baL (l : List UInt8) : ByteArray := ⟨l.toArray⟩
/-- what the specification takes bytes for -/
def specR (bs : List UInt8) (n : Nat) : RecV :=
  ⟨(byteN bs 0 : Int), baL ((bs.drop 2).take (byteN bs 1)), if byteN bs 0 = 3 ∨ byteN bs 0 = 4 then numL ((bs.drop (2 + byteN bs 1)).take 8) else 0, if byteN bs 0 = 1 then baL ((bs.drop (2 + byteN bs 1 + 1)).take (n - 2 - (2 + byteN bs 1 + 1))) else baL []⟩
theorem takeL_le {n : Nat} {bs : List UInt8} (h : n ≤ bs.length) : takeL n bs = bs.take n := by rw [takeL, if_pos h]
theorem leftL_le' {n : Nat} {bs : List UInt8} (h : n ≤ bs.length) : leftL n bs = bs.drop n := by rw [leftL, if_pos h]
theorem two_of {bs : List UInt8} (h : ¬ bs.length < 2) : ∃ c0 c1 t, bs = c0 :: c1 :: t := by
  match bs with
  | [] => exact absurd h (by simp)
  | [_] => exact absurd h (by simp)
  | c0 :: c1 :: t => exact ⟨c0, c1, t, rfl⟩
theorem spec_parse (bs : List UInt8) (n : Nat) (hn : sizeS bs = (n : Int)) (hl : n ≤ bs.length) : (parseP bs).r = specR bs n := by
  unfold sizeS at hn
  split at hn
  · omega
  · rename_i h2
    obtain ⟨c0, c1, t, rfl⟩ := two_of h2
    have e0 : byteN (c0 :: c1 :: t) 0 = c0.toNat := rfl
    have e1 : byteN (c0 :: c1 :: t) 1 = c1.toNat := rfl
    have em : byteN (c0 :: c1 :: t) (2 + c1.toNat) = (t.getD c1.toNat 0).toNat := by
      unfold byteN
      rw [show 2 + c1.toNat = c1.toNat + 1 + 1 by omega]
      rfl
    rw [e0, e1, em] at hn
    simp only [List.length_cons] at hn hl
    have hk : kindP (c0 :: c1 :: t) = (c0.toNat : Int) := by
      unfold kindP
      rw [show takeL 1 (c0 :: c1 :: t) = [c0] from takeL_app [c0] _, numL_byte]
    have hh : headP (c0 :: c1 :: t) = textP (c1 :: t) false := by
      unfold headP
      rw [show leftL 1 (c0 :: c1 :: t) = c1 :: t from leftL_app [c0] _, show shortB 1 (c0 :: c1 :: t) false = false from shortB_app [c0] _ _]
    unfold sizeK at hn
    have htl : c1.toNat ≤ t.length := by
      split at hn
      · split at hn <;> omega
      · split at hn
        · omega
        · split at hn <;> omega
    have ht : textP (c1 :: t) false = ⟨t.take c1.toNat, t.drop c1.toNat, false⟩ := by
      conv => lhs; rw [← List.take_append_drop c1.toNat t]
      exact textP_app _ _ _ _ (by simp; omega)
    unfold parseP specR
    rw [hk, hh, ht, e0, e1]
    have d2 : List.drop 2 (c0 :: c1 :: t) = t := rfl
    have dk : List.drop (2 + c1.toNat) (c0 :: c1 :: t) = t.drop c1.toNat := by rw [show 2 + c1.toNat = c1.toNat + 1 + 1 by omega]; rfl
    have dk1 : List.drop (2 + c1.toNat + 1) (c0 :: c1 :: t) = (t.drop c1.toNat).drop 1 := by rw [show 2 + c1.toNat + 1 = (c1.toNat + 1) + 1 + 1 by omega, List.drop_drop]; rfl
    rw [d2, dk, dk1]
    unfold tailP baL
    by_cases k1 : c0.toNat = 1
    · rw [if_pos k1] at hn
      split at hn
      · omega
      · rename_i hlt
        have hm : (t.getD c1.toNat 0) = (t[c1.toNat]'(by omega)) := by rw [List.getD_eq_getElem?_getD, List.getElem?_eq_getElem (by omega)]; rfl
        rw [hm] at hn
        have hd : t.drop c1.toNat = (t[c1.toNat]'(by omega)) :: t.drop (c1.toNat + 1) := List.drop_eq_getElem_cons (by omega)
        generalize hc2 : (t[c1.toNat]'(by omega)) = c2 at *
        have hx : textP (t.drop c1.toNat) false = ⟨(t.drop (c1.toNat + 1)).take c2.toNat, (t.drop (c1.toNat + 1)).drop c2.toNat, false⟩ := by
          rw [hd]
          conv => lhs; rw [← List.take_append_drop c2.toNat (t.drop (c1.toNat + 1))]
          exact textP_app _ _ _ _ (by simp; omega)
        have k1' : (c0.toNat : Int) = 1 := by omega
        rw [if_pos k1', hx]
        have hlen : n - 2 - (2 + c1.toNat + 1) = c2.toNat := by omega
        simp [k1, hlen, List.drop_drop]
    · have k1' : ¬ (c0.toNat : Int) = 1 := by omega
      rw [if_neg k1', if_neg k1]
      by_cases k3 : c0.toNat = 3 ∨ c0.toNat = 4
      · have k3' : (c0.toNat : Int) = 3 ∨ (c0.toNat : Int) = 4 := by omega
        rw [if_pos k3', if_pos k3]
        rw [if_neg k1, if_neg (by omega), if_pos k3] at hn
        rw [takeL_le (by simp; omega)]
      · have k3' : ¬ ((c0.toNat : Int) = 3 ∨ (c0.toNat : Int) = 4) := by omega
        rw [if_neg k3', if_neg k3]
theorem size_rec (r : RecV) (hf : RecFit r) (hb : recOkB r = true) (more : List UInt8) : sizeS (recAll r ++ more) = ((recAll r).length : Int) := by
  obtain ⟨h8, ht, hk⟩ := ok_sizes hb
  have e0 : recAll r ++ more = beB r.kind 0 :: beB r.name.size 0 :: (r.name.data.toList ++ (recTail r ++ (beL (recSum (recBody r)) 2 ++ more))) := by simp [recAll, recBody]
  have hlen : (recAll r).length = 2 + r.name.size + (recTail r).length + 2 := by simp [recAll, recBody, beL_length]; omega
  have b0 : ((beB r.kind 0).toNat : Int) = r.kind := beB_small _ (by omega) (by omega)
  have b1 : (beB (r.name.size : Int) 0).toNat = r.name.size := beB_nat _ (by omega)
  rw [hlen, e0]
  unfold sizeS
  rw [if_neg (by simp)]
  have q0 : byteN (beB r.kind 0 :: beB r.name.size 0 :: (r.name.data.toList ++ (recTail r ++ (beL (recSum (recBody r)) 2 ++ more)))) 0 = (beB r.kind 0).toNat := rfl
  have q1 : byteN (beB r.kind 0 :: beB r.name.size 0 :: (r.name.data.toList ++ (recTail r ++ (beL (recSum (recBody r)) 2 ++ more)))) 1 = r.name.size := b1
  rw [q0, q1]
  have qm : byteN (beB r.kind 0 :: beB r.name.size 0 :: (r.name.data.toList ++ (recTail r ++ (beL (recSum (recBody r)) 2 ++ more)))) (2 + r.name.size) = ((recTail r ++ (beL (recSum (recBody r)) 2 ++ more)).getD 0 0).toNat := by
    unfold byteN
    rw [show 2 + r.name.size = r.name.size + 1 + 1 by omega]
    show ((r.name.data.toList ++ _).getD r.name.size 0).toNat = _
    rw [List.getD_eq_getElem?_getD, List.getElem?_append_right (by simp), List.getD_eq_getElem?_getD]
    simp
  rw [qm]
  unfold sizeK
  unfold recTail at *
  rcases hk with e | e | e | e
  · rw [if_pos e]
    rw [if_pos (by omega), if_neg (by simp; omega)]
    have b2 : (beB (r.text.size : Int) 0).toNat = r.text.size := beB_nat _ (by omega)
    simp [b2]
    omega
  · rw [if_neg (by omega), if_pos (by omega)]
    simp [e]
  · rw [if_neg (by omega), if_neg (by omega), if_pos (by omega)]
    simp [e, beL_length]
  · rw [if_neg (by omega), if_neg (by omega), if_pos (by omega)]
    simp [e, beL_length]
theorem spec_yes {bs : List UInt8} {n : Nat} (hb : bs.length ≤ 1048576) (hn : sizeS bs = (n : Int)) (hl : n ≤ bs.length) (hok : recOkB (specR bs n) = true) (he : recAll (specR bs n) = bs.take n) : IsRead bs (some (specR bs n, n)) := by
  refine ⟨?_, hok, ?_, bs.drop n, ?_⟩
  · rw [← spec_parse bs n hn hl]; exact parse_fit bs hb
  · rw [he]; simp; omega
  · rw [he]; simp
theorem spec_no {bs : List UInt8} (h : sizeS bs < 0 ∨ (bs.length : Int) < sizeS bs ∨ ∃ n : Nat, sizeS bs = (n : Int) ∧ n ≤ bs.length ∧ (recOkB (specR bs n) = false ∨ recAll (specR bs n) ≠ bs.take n)) : IsRead bs none := by
  intro r hf hb more e
  have hs := size_rec r hf hb more
  rw [← e] at hs
  have hlen := congrArg List.length e
  simp at hlen
  rcases h with h | h | ⟨n, h1, h2, h3⟩
  · omega
  · omega
  · have hp := spec_parse bs n h1 h2
    have hp2 := parse_rec r hf hb (beL (recSum (recBody r)) 2 ++ more)
    rw [← List.append_assoc, show recBody r ++ beL (recSum (recBody r)) 2 = recAll r from rfl, ← e] at hp2
    rw [hp2] at hp
    simp only at hp
    rw [← hp] at h3
    rcases h3 with h3 | h3
    · rw [hb] at h3; cases h3
    · apply h3
      have hnn : n = (recAll r).length := by omega
      rw [hnn, e]
      simp
end Go.Proofs.Ytddmomcanakoiaa
