/-
  The line of a word between nodes, and what is read of a line: mathematics alone.
-/
import Derived.Test.YtiebfcefmdiajaaGreatDoorStampRdM
import Derived.Test.YtiebfcefmdiajaaGreatDoorMerged7
set_option linter.unusedVariables false
namespace Go.Proofs.YtiebfcefmdiajaaGreatDoor
open Go.RowKit Go.Maps

/-- numbers of 64 bits, written and read again -/
theorem parse_dec64 (l : List UInt8) : ∀ (k : Nat), k ≤ l.length → l.all digN = true → decV l < 18446744073709551616 → Lib.parseUint10 (decV (l.take k)) (l.drop k) = .ok (decV l) := by
  intro k
  generalize hm : l.length - k = m
  induction m generalizing k with
  | zero =>
    intro hk hd hv
    have : k = l.length := by omega
    subst this
    rw [List.drop_length, List.take_length, Lib.parseUint10]
  | succ m ih =>
    intro hk hd hv
    have hlt : k < l.length := by omega
    rw [List.drop_eq_getElem_cons hlt, Lib.parseUint10]
    have hb : digN l[k] = true := (List.all_eq_true.1 hd) _ (List.getElem_mem hlt)
    unfold digN at hb
    simp at hb
    have hle : decV (l.take (k + 1)) ≤ decV l := decV_mono l (k + 1)
    have ht := decV_take l k hlt
    rw [if_pos hb, if_neg (by omega), if_neg (by omega)]
    have e : decV (l.take k) * 10 + (l[k].toNat - 48) = decV (l.take (k + 1)) := by rw [ht]; omega
    rw [e]
    exact ih (k + 1) (by omega) (by omega) hd hv
theorem mag_dec (u : Nat) (h : u < 18446744073709551616) : Lib.parseMag (Lib.decDigits u) = .ok u := by
  have hp := parse_dec64 (Lib.decDigits u) 0 (Nat.zero_le _) (dec_dig _) (by rw [dec_val]; exact h)
  rw [dec_val] at hp
  have z : decV ((Lib.decDigits u).take 0) = 0 := rfl
  rw [z, List.drop_zero] at hp
  unfold Lib.parseMag
  rw [if_neg (dec_ne u), hp]
theorem loose_all (n : Int) (h0 : -9223372036854775808 ≤ n) (h1 : n ≤ 9223372036854775807) : looseV (Lib.itoa n) = n := by
  unfold looseV Lib.itoa
  split
  · rename_i e
    rename_i v
    split at e
    · rename_i hn
      rw [Lib.atoiAll_minus, mag_dec _ (by omega)] at e
      unfold Lib.signed at e
      simp only at e
      rw [if_neg (by omega)] at e
      injection e with e
      omega
    · rename_i hn
      obtain ⟨b, r, eb⟩ := List.exists_cons_of_ne_nil (dec_ne n.toNat)
      have hb : digN b = true := by have := dec_dig n.toNat; rw [eb] at this; simp at this; exact this.1
      have q : b.toNat ≠ 43 ∧ b.toNat ≠ 45 := by unfold digN at hb; simp at hb; omega
      rw [eb, Lib.atoiAll_plain b r q.1 q.2, ← eb, mag_dec _ (by omega)] at e
      unfold Lib.signless at e
      simp only at e
      rw [if_neg (by omega)] at e
      injection e with e
      omega
  · rename_i e
    split at e
    · rw [Lib.atoiAll_minus, mag_dec _ (by omega)] at e
      unfold Lib.signed at e
      simp only at e
      rw [if_neg (by omega)] at e
      cases e
    · obtain ⟨b, r, eb⟩ := List.exists_cons_of_ne_nil (dec_ne n.toNat)
      have hb : digN b = true := by have := dec_dig n.toNat; rw [eb] at this; simp at this; exact this.1
      have q : b.toNat ≠ 43 ∧ b.toNat ≠ 45 := by unfold digN at hb; simp at hb; omega
      rw [eb, Lib.atoiAll_plain b r q.1 q.2, ← eb, mag_dec _ (by omega)] at e
      unfold Lib.signless at e
      simp only at e
      rw [if_neg (by omega)] at e
      cases e
  · rename_i e
    split at e
    · rw [Lib.atoiAll_minus, mag_dec _ (by omega)] at e
      unfold Lib.signed at e
      simp only at e
      rw [if_neg (by omega)] at e
      cases e
    · obtain ⟨b, r, eb⟩ := List.exists_cons_of_ne_nil (dec_ne n.toNat)
      have hb : digN b = true := by have := dec_dig n.toNat; rw [eb] at this; simp at this; exact this.1
      have q : b.toNat ≠ 43 ∧ b.toNat ≠ 45 := by unfold digN at hb; simp at hb; omega
      rw [eb, Lib.atoiAll_plain b r q.1 q.2, ← eb, mag_dec _ (by omega)] at e
      unfold Lib.signless at e
      simp only at e
      rw [if_neg (by omega)] at e
      cases e
/-- is a text the way in which the number that it is taken for is written? -/
def numXB (s : List UInt8) : Bool := decide (Lib.itoa (looseV s) = s)
theorem numX_itoa (n : Int) (h0 : -9223372036854775808 ≤ n) (h1 : n ≤ 9223372036854775807) : numXB (Lib.itoa n) = true := by
  unfold numXB
  rw [loose_all n h0 h1]
  simp
theorem itoa_noAt (n : Int) : 58 ∉ Lib.itoa n ∧ 32 ∉ Lib.itoa n := by
  have key : ∀ u : Nat, 58 ∉ Lib.decDigits u ∧ 32 ∉ Lib.decDigits u := fun u => by
    have hd := dec_dig u
    rw [List.all_eq_true] at hd
    exact ⟨fun hm => (dig45 _ (hd _ hm)).2.1 rfl, fun hm => (dig45 _ (hd _ hm)).2.2 rfl⟩
  unfold Lib.itoa
  split
  · simp only [List.mem_cons, not_or]
    exact ⟨⟨by decide, (key _).1⟩, by decide, (key _).2⟩
  · exact key _

def askT : ByteArray := ⟨#[97, 115, 107, 115]⟩
def tellT : ByteArray := ⟨#[116, 101, 108, 108, 115]⟩
def goneT : ByteArray := ⟨#[103, 111, 110, 101]⟩
def kindT (k : Int) : ByteArray := if k = 1 then askT else if k = 2 then tellT else goneT
def verT (x : VerV) : ByteArray := x.a0 ++ ⟨#[58]⟩ ++ itoaB x.a1
def lineW (s : SayV) : List ByteArray := [itoaB s.src, itoaB s.dst, kindT s.kind, s.name] ++ (if s.kind = 2 then itoaB s.val :: s.stamp.map verT else [])
def lineT (s : SayV) : ByteArray := joinB (lineW s)
def lineOut (s : SayV) : ByteArray := if sayOkB s then lineT s else ⟨#[]⟩

def bytL (l : List UInt8) : ByteArray := ⟨l.toArray⟩
theorem bytL_list (l : List UInt8) : (bytL l).data.toList = l := by simp [bytL]
theorem bytL_of (t : ByteArray) : bytL t.data.toList = t := by
  apply ByteArray.ext
  simp [bytL]
def kindN (t : ByteArray) : Int := if t = askT then 1 else if t = tellT then 2 else if t = goneT then 3 else 0
theorem kindN_kindT {k : Int} (h : k = 1 ∨ k = 2 ∨ k = 3) : kindN (kindT k) = k := by
  rcases h with rfl | rfl | rfl <;> decide
theorem kindN_fit (t : ByteArray) : kindN t = 0 ∨ kindN t = 1 ∨ kindN t = 2 ∨ kindN t = 3 := by
  unfold kindN
  split
  · simp
  split
  · simp
  split
  · simp
  · simp
def looseVr (w : List UInt8) : VerV := if (cutB 58 w).length = 2 then ⟨bytL ((cutB 58 w).getD 0 []), looseV ((cutB 58 w).getD 1 [])⟩ else ⟨⟨#[]⟩, 0⟩
def looseW (ws : List (List UInt8)) : SayV :=
  if ws.length < 4 then ⟨0, 0, 0, ⟨#[]⟩, 0, []⟩
  else if kindN (bytL (ws.getD 2 [])) = 2 ∧ ws.length ≠ 4 then ⟨2, looseV (ws.getD 0 []), looseV (ws.getD 1 []), bytL (ws.getD 3 []), looseV (ws.getD 4 []), (ws.drop 5).map looseVr⟩
  else ⟨kindN (bytL (ws.getD 2 [])), looseV (ws.getD 0 []), looseV (ws.getD 1 []), bytL (ws.getD 3 []), 0, []⟩
def looseS (l : List UInt8) : SayV := looseW (cutB 32 l)
def lnB (t : ByteArray) : Bool := decide (t.size ≤ 400) && (sayOkB (looseS t.data.toList) && decide (lineT (looseS t.data.toList) = t))
def sayNone : SayV := ⟨0, 0, 0, ⟨#[]⟩, 0, []⟩
def lnOut (t : ByteArray) : SayV := if lnB t then looseS t.data.toList else sayNone

theorem okS {s : SayV} (h : sayOkB s = true) : (0 ≤ s.src ∧ s.src ≤ 9) ∧ (0 ≤ s.dst ∧ s.dst ≤ 9) ∧ plainB s.name = true ∧ ((s.kind = 2 ∧ 1 ≤ s.stamp.length ∧ stampB s.stamp = true) ∨ ((s.kind = 1 ∨ s.kind = 3) ∧ s.val = 0 ∧ s.stamp = [])) := by
  unfold sayOkB nodeB tailB at h
  simp only [Bool.and_eq_true, decide_eq_true_eq] at h
  obtain ⟨⟨⟨⟨-, h1⟩, h2⟩, h3⟩, h4⟩ := h
  refine ⟨h1, h2, h3, ?_⟩
  split at h4
  · rename_i e
    simp only [Bool.and_eq_true, decide_eq_true_eq] at h4
    exact .inl ⟨e, h4⟩
  · split at h4
    · rename_i e
      simp only [Bool.and_eq_true, decide_eq_true_eq] at h4
      exact .inr ⟨e, h4.1, List.eq_nil_of_length_eq_zero h4.2⟩
    · cases h4
theorem stamp_vers {ns : List VerV} (h : stampB ns = true) : ns.length ≤ 12 ∧ ∀ x ∈ ns, plainB x.a0 = true ∧ 1 ≤ x.a1 ∧ x.a1 ≤ 1099511627776 := by
  unfold stampB at h
  simp only [Bool.and_eq_true, decide_eq_true_eq] at h
  refine ⟨h.1, fun x hx => ?_⟩
  obtain ⟨i, hi, rfl⟩ := List.getElem_of_mem hx
  have := (h.2 i hi hi).1
  unfold verB at this
  simp only [Bool.and_eq_true, decide_eq_true_eq] at this
  exact ⟨this.1.1, this.1.2, this.2⟩
theorem verT_list (x : VerV) : (verT x).data.toList = x.a0.data.toList ++ [58] ++ Lib.itoa x.a1 := by simp [verT, itoaB]
theorem verT_cut {x : VerV} (h : plainB x.a0 = true) : cutB 58 (verT x).data.toList = [x.a0.data.toList, Lib.itoa x.a1] := by
  have := cut_back 58 [x.a0.data.toList, Lib.itoa x.a1] (by simp) (by
    intro p hp
    simp at hp
    rcases hp with rfl | rfl
    · exact (plain_not _ h).1
    · exact (itoa_noAt _).1)
  rw [← this, verT_list]
  simp [Lib.join, List.intercalate]
theorem verT_free {x : VerV} (h : plainB x.a0 = true) : 32 ∉ (verT x).data.toList := by
  rw [verT_list]
  simp only [List.mem_append, List.mem_cons, List.not_mem_nil, or_false, not_or]
  exact ⟨⟨(plain_not _ h).2, by decide⟩, (itoa_noAt _).2⟩
theorem looseVr_back {x : VerV} (h : plainB x.a0 = true ∧ 1 ≤ x.a1 ∧ x.a1 ≤ 1099511627776) : looseVr (verT x).data.toList = x := by
  unfold looseVr
  rw [verT_cut h.1]
  simp only [List.length_cons, List.length_nil, if_true, List.getD_cons_zero, List.getD_cons_succ]
  rw [loose_all _ (by omega) (by omega), bytL_of]
theorem kindT_free (k : Int) : 32 ∉ (kindT k).data.toList := by
  unfold kindT
  split
  · decide
  split
  · decide
  · decide
theorem lineW_free {s : SayV} (h : sayOkB s = true) : ∀ p ∈ (lineW s).map (·.data.toList), 32 ∉ p := by
  obtain ⟨-, -, h3, h4⟩ := okS h
  intro p hp
  obtain ⟨t, ht, rfl⟩ := List.mem_map.1 hp
  have hi : ∀ n, 32 ∉ (itoaB n).data.toList := fun n => by
    rw [show (itoaB n).data.toList = Lib.itoa n by simp [itoaB]]
    exact (itoa_noAt n).2
  unfold lineW at ht
  simp only [List.mem_append, List.mem_cons, List.not_mem_nil, or_false] at ht
  rcases ht with (rfl | rfl | rfl | rfl) | ht
  · exact hi _
  · exact hi _
  · exact kindT_free _
  · exact (plain_not _ h3).2
  · split at ht
    · rename_i e
      rcases List.mem_cons.1 ht with rfl | ht
      · exact hi _
      · obtain ⟨x, hx, rfl⟩ := List.mem_map.1 ht
        rcases h4 with ⟨-, -, h4⟩ | ⟨-, -, h4⟩
        · exact verT_free ((stamp_vers h4).2 x hx).1
        · rw [h4] at hx; cases hx
    · cases ht
theorem lineT_cut {s : SayV} (h : sayOkB s = true) : cutB 32 (lineT s).data.toList = (lineW s).map (·.data.toList) := by
  have := cut_back 32 ((lineW s).map (·.data.toList)) (by simp [lineW]) (lineW_free h)
  rw [← this]
  simp [lineT, joinB]
theorem fit_of {n : Int} (h : 0 ≤ n ∧ n ≤ 9) : -9223372036854775808 ≤ n ∧ n ≤ 9223372036854775807 := by omega
theorem itoaB_list (n : Int) : (itoaB n).data.toList = Lib.itoa n := by simp [itoaB]
/-- a word's line is read as that word -/
theorem loose_line {s : SayV} (h : sayOkB s = true) (hv : -9223372036854775808 ≤ s.val ∧ s.val ≤ 9223372036854775807) : looseS (lineT s).data.toList = s := by
  obtain ⟨h1, h2, h3, h4⟩ := okS h
  unfold looseS
  rw [lineT_cut h]
  obtain ⟨kind, src, dst, name, val, stamp⟩ := s
  simp only at *
  rcases h4 with ⟨rfl, h5, h6⟩ | ⟨hk, rfl, rfl⟩
  · have hvs := (stamp_vers h6).2
    have hm : ((stamp.map verT).map (·.data.toList)).map looseVr = stamp := by
      rw [List.map_map, List.map_map]
      conv => rhs; rw [← List.map_id stamp]
      exact List.map_congr_left fun x hx => looseVr_back (hvs x hx)
    simp only [lineW, if_true, List.cons_append, List.nil_append, List.map_cons, looseW, List.length_cons, List.getD_cons_zero, List.getD_cons_succ, bytL_of, itoaB_list, List.drop_succ_cons, List.drop_zero]
    rw [if_neg (by omega), if_pos ⟨by decide, by omega⟩, hm, loose_all _ (fit_of h1).1 (fit_of h1).2, loose_all _ (fit_of h2).1 (fit_of h2).2, loose_all _ hv.1 hv.2]
  · have hk2 : ¬ kind = 2 := by omega
    simp only [lineW, if_neg hk2, List.append_nil, List.map_cons, List.map_nil, looseW, List.length_cons, List.length_nil, List.getD_cons_zero, List.getD_cons_succ, bytL_of, itoaB_list]
    rw [if_neg (by omega), kindN_kindT (by omega), if_neg (by omega), loose_all _ (fit_of h1).1 (fit_of h1).2, loose_all _ (fit_of h2).1 (fit_of h2).2]
/-- what the specification asks of a line's parts -/
def verXB (w : List UInt8) : Bool := decide ((cutB 58 w).length = 2) && numXB ((cutB 58 w).getD 1 [])
def partsB (ws : List (List UInt8)) : Bool :=
  decide (4 ≤ ws.length) && (numXB (ws.getD 0 []) && (numXB (ws.getD 1 []) && (!decide (kindN (bytL (ws.getD 2 [])) = 2) || (decide (6 ≤ ws.length) && (numXB (ws.getD 4 []) && (ws.drop 5).all verXB)))))
theorem verX_back {x : VerV} (h : plainB x.a0 = true ∧ 1 ≤ x.a1 ∧ x.a1 ≤ 1099511627776) : verXB (verT x).data.toList = true := by
  unfold verXB
  rw [verT_cut h.1]
  simp [numX_itoa x.a1 (by omega) (by omega)]
theorem loose_val (l : List UInt8) : -9223372036854775808 ≤ (looseS l).val ∧ (looseS l).val ≤ 9223372036854775807 := by
  unfold looseS looseW
  split
  · simp
  split
  · exact loose_fit _
  · simp
/-- where the line is a word's, its parts are as the specification asks -/
theorem parts_of {l : List UInt8} (h : sayOkB (looseS l) = true) (he : (lineT (looseS l)).data.toList = l) : partsB (cutB 32 l) = true := by
  have hc := lineT_cut h
  rw [he] at hc
  rw [hc]
  have hv := loose_val l
  generalize looseS l = s at *
  obtain ⟨h1, h2, h3, h4⟩ := okS h
  obtain ⟨kind, src, dst, name, val, stamp⟩ := s
  simp only at *
  rcases h4 with ⟨rfl, h5, h6⟩ | ⟨hk, rfl, rfl⟩
  · have hvs := (stamp_vers h6).2
    have hm : ((stamp.map verT).map (·.data.toList)).all verXB = true := by
      rw [List.map_map, List.all_map, List.all_eq_true]
      exact fun x hx => verX_back (hvs x hx)
    simp only [lineW, if_true, List.cons_append, List.nil_append, List.map_cons, partsB, List.length_cons, List.getD_cons_zero, List.getD_cons_succ, bytL_of, itoaB_list, List.drop_succ_cons, List.drop_zero, hm, List.length_map,
      numX_itoa _ (fit_of h1).1 (fit_of h1).2, numX_itoa _ (fit_of h2).1 (fit_of h2).2, numX_itoa _ hv.1 hv.2]
    simp; omega
  · have hk2 : ¬ kind = 2 := by omega
    simp only [lineW, if_neg hk2, List.append_nil, List.map_cons, List.map_nil, partsB, List.length_cons, List.length_nil, List.getD_cons_zero, List.getD_cons_succ, bytL_of, itoaB_list, kindN_kindT (show kind = 1 ∨ kind = 2 ∨ kind = 3 by omega),
      numX_itoa _ (fit_of h1).1 (fit_of h1).2, numX_itoa _ (fit_of h2).1 (fit_of h2).2]
    simp [hk2]
theorem ln_yes {t : ByteArray} (hs : t.size ≤ 400) (h : sayOkB (looseS t.data.toList) = true) (he : lineT (looseS t.data.toList) = t) : lnB t = true ∧ lnOut t = looseS t.data.toList := by
  have : lnB t = true := by unfold lnB; simp [hs, h, he]
  exact ⟨this, by simp [lnOut, this]⟩
theorem ln_no {t : ByteArray} (h : ¬ t.size ≤ 400 ∨ sayOkB (looseS t.data.toList) = false ∨ lineT (looseS t.data.toList) ≠ t) : lnB t = false ∧ lnOut t = sayNone := by
  have : lnB t = false := by
    unfold lnB
    rcases h with h | h | h <;> simp [h]
  exact ⟨this, by simp [lnOut, this]⟩
theorem ln_parts {t : ByteArray} (h : partsB (cutB 32 t.data.toList) = false) : lnB t = false ∧ lnOut t = sayNone := by
  refine ln_no ?_
  by_cases h1 : sayOkB (looseS t.data.toList) = true
  · right; right
    intro e
    rw [parts_of h1 (by rw [e])] at h
    cases h
  · right; left
    simpa using h1
/-- a word's own line is that word's -/
theorem ln_line {s : SayV} (h : sayOkB s = true) (hv : -9223372036854775808 ≤ s.val ∧ s.val ≤ 9223372036854775807) (hz : (lineT s).size ≤ 400) : lnB (lineT s) = true ∧ lnOut (lineT s) = s := by
  have hl := loose_line h hv
  have := ln_yes hz (by rw [hl]; exact h) (by rw [hl])
  rw [hl] at this
  exact this
end Go.Proofs.YtiebfcefmdiajaaGreatDoor
