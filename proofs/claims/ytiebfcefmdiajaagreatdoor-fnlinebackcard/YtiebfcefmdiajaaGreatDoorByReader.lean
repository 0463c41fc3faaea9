/-
  The program's reader of bytes: what is left, and whether once there were too few.
-/
import Derived.Test.YtiebfcefmdiajaaGreatDoorNumBytes
import Derived.Test.YtiebfcefmdiajaaGreatDoorBoxes
import Derived.Laws.IdiomStrings
set_option linter.unusedVariables false
namespace Go.Proofs.YtiebfcefmdiajaaGreatDoor
open Go.RowKit Go.Maps Go.Deep

/-- a reader stands in a block -/
structure RdIs (B : Nat) (w : World) (g : Nat) (v : Value) (rest : List UInt8) (short : Bool) : Prop where
  le : B ≤ g
  lt : g < w.heap.size
  c0 : w.cell? ⟨g, 0, none⟩ = some v
  c1 : w.cell? ⟨g, 1, none⟩ = some (.bool short)
  f0 : w.frozen? ⟨g, 0, none⟩ = false
  f1 : w.frozen? ⟨g, 1, none⟩ = false
  by' : ByRd w v rest
  away : ∀ a m c, v = .slice (some a) m c → 1 ≤ rest.length → a.block < B
/-- what a reader hands out, and what it is then -/
def takeL (n : Nat) (rest : List UInt8) : List UInt8 := if n ≤ rest.length then rest.take n else []
def leftL (n : Nat) (rest : List UInt8) : List UInt8 := if n ≤ rest.length then rest.drop n else rest
def shortB (n : Nat) (rest : List UInt8) (short : Bool) : Bool := if n ≤ rest.length then short else true

set_option maxHeartbeats 1600000 in
theorem take_few (B g : Nat) (w : World) (v : Value) (rest : List UInt8) (short : Bool) (n : Nat) (hn : rest.length < n) (hl : n ≤ 1000000) (h : RdIs B w g v rest short) :
    Calls Tryz.prog 88 #[.pointer (some ⟨g, 0, none⟩), .int .i64 (n : Int)] w fun e w' => e = .returned (.slice none 0 0) ∧ w' = w.setCell ⟨g, 1, none⟩ (.bool true) := by
  obtain ⟨a, c, rfl⟩ := h.by'.len
  have c0 := h.c0
  have c1 := h.c1
  have f1 := h.f1
  have hn' : (rest.length : Int) < (n : Int) := by omega
  clear h
  generalize rest.length = m at *
  go_enter Tryz.func88, Tryz.ntmps88
  go_wp2_with fail
  go_ret
  exact ⟨rfl, rfl⟩
theorem cut_drop {w : World} {a : Option Addr} {c : Nat} {bs : List UInt8} (h : ByIn w a bs) (hc : bs.length ≤ c) (n m : Nat) (hm : m = bs.length - n) (hn : n ≤ bs.length) : ByRd w (.slice (a.map (fun x => x.add n)) m (c - n)) (bs.drop n) := by
  subst hm
  refine ⟨a.map (fun x => x.add n), c - n, by simp, ?_, by simp; omega⟩
  rcases h with rfl | ⟨b, off, rfl, hb, hx⟩
  · exact .inl (by simp)
  · by_cases h0 : n = 0
    · subst h0
      exact .inr ⟨b, off, by simp [Addr.add], hb, by simpa using hx⟩
    · refine .inr ⟨b, off + n, by simp [Addr.add, h0], hb, fun i hi => ?_⟩
      simp at hi
      rw [List.getElem_drop, Nat.add_assoc]
      exact hx (n + i) (by omega)
theorem cut_take {w : World} {a : Option Addr} {c : Nat} {bs : List UInt8} (h : ByIn w a bs) (hc : bs.length ≤ c) (n : Nat) (hn : n ≤ bs.length) : ByRd w (.slice a n c) (bs.take n) := by
  refine ⟨a, c, by simp [Nat.min_eq_left hn], ?_, by simp; omega⟩
  rcases h with rfl | ⟨b, off, e, hb, hx⟩
  · exact .inl (by simp)
  · exact .inr ⟨b, off, e, hb, fun i hi => by
      simp at hi
      rw [List.getElem_take]
      exact hx i (by omega)⟩
/-- a slice value whose bytes lie below a block -/
def AwayFrom (B : Nat) (v : Value) (bs : List UInt8) : Prop := ∀ a m c, v = .slice (some a) m c → 1 ≤ bs.length → a.block < B
def RetTake (B g : Nat) (w : World) (rest : List UInt8) (n : Nat) (e : Ending) (w' : World) : Prop :=
  ∃ a c v', e = .returned (.slice a n c) ∧ w' = w.setCell ⟨g, 0, none⟩ v' ∧ ByRd w (.slice a n c) (rest.take n) ∧ AwayFrom B (.slice a n c) (rest.take n) ∧ ByRd w v' (rest.drop n) ∧ AwayFrom B v' (rest.drop n)
theorem ByIn.set {B g i : Nat} {w : World} {v : Value} {bs : List UInt8} {x : Value} (h : ByRd w v bs) (ha : AwayFrom B v bs) (hg : B ≤ g) : ByRd (w.setCell ⟨g, i, none⟩ x) v bs := by
  obtain ⟨a, c, rfl, hin, hc⟩ := h
  refine ⟨a, c, rfl, ?_, hc⟩
  rcases hin with h | ⟨b, off, rfl, hb, hx⟩
  · exact .inl h
  · by_cases h0 : bs.length = 0
    · exact .inl (List.eq_nil_of_length_eq_zero h0)
    · have h5 : b < B := ha _ _ _ rfl (by omega)
      have hne : b ≠ g := by omega
      exact .inr ⟨b, off, rfl, by simpa using hb, fun j hj => (((Turn.refl [g] w).setCell (by simp) i x).cell hb (by simpa using hne)).trans (hx j hj)⟩
set_option maxHeartbeats 1600000 in
theorem take_ok (B g : Nat) (w : World) (v : Value) (rest : List UInt8) (short : Bool) (n : Nat) (hn : n ≤ rest.length) (hl : rest.length ≤ 1048576) (h : RdIs B w g v rest short) :
    Calls Tryz.prog 88 #[.pointer (some ⟨g, 0, none⟩), .int .i64 (n : Int)] w fun e w' => RetTake B g w rest n e w' := by
  obtain ⟨a, c, rfl, hin, hcap⟩ := h.by'
  have c0 := h.c0
  have c1 := h.c1
  have f0 := h.f0
  have hn' : (n : Int) ≤ (rest.length : Int) := by omega
  have hnc : n ≤ c := by omega
  have HT := hide (cut_take hin hcap n hn)
  have HD := hide (cut_drop hin hcap n (rest.length - n) rfl hn)
  have HZ := hide (show c = n → ByRd w (.slice a (rest.length - n) 0) (rest.drop n) from fun e => by
    have h0 : rest.length - n = 0 := by omega
    have h1 : rest.drop n = [] := List.eq_nil_of_length_eq_zero (by simpa using h0)
    rw [h0, h1]
    exact ByRd.nil _ _ _)
  have HAT := hide (show AwayFrom B (.slice a n c) (rest.take n) from fun b m q e h1 => h.away b _ _ (by simp only [Value.slice.injEq] at e; rw [e.1]) (by simp at h1; omega))
  have HAD := hide (show AwayFrom B (.slice (a.map (fun x => x.add n)) (rest.length - n) (c - n)) (rest.drop n) from fun b m q e h1 => by
    simp only [Value.slice.injEq] at e
    obtain ⟨e1, _, _⟩ := e
    cases a with
    | none => simp at e1
    | some x =>
      simp at e1
      rw [← e1]
      have := h.away x _ _ rfl (by simp at h1; omega)
      unfold Addr.add
      split <;> exact this)
  have HAZ := hide (show c = n → AwayFrom B (.slice a (rest.length - n) 0) (rest.drop n) from fun e b m q _ h1 => by simp at h1; omega)
  clear h hin hcap
  generalize rest.length = m at *
  go_enter Tryz.func88, Tryz.ntmps88
  go_wp2_with fail
  all_goals
    go_ret
    first
    | exact ⟨_, _, _, rfl, rfl, unhide HT, unhide HAT, unhide HD, unhide HAD⟩
    | (have hcn : c = n := by assumption
       subst hcn
       exact ⟨_, _, _, rfl, rfl, unhide HT, unhide HAT, unhide HZ rfl, unhide HAZ rfl⟩)
theorem RdIs.set0 {B : Nat} {w : World} {g : Nat} {v v' : Value} {rest rest' : List UInt8} {short : Bool} (h : RdIs B w g v rest short) (hr : ByRd w v' rest') (ha : AwayFrom B v' rest') : RdIs B (w.setCell ⟨g, 0, none⟩ v') g v' rest' short :=
  ⟨h.le, by simpa using h.lt, World.cell?_setCell_same _ _ _ h.c0, by rw [World.cell?_setCell_other _ _ _ _ (by intro e; have := congrArg Addr.off e; simp at this)]; exact h.c1, by rw [World.frozen?_setCell]; exact h.f0, by rw [World.frozen?_setCell]; exact h.f1, ByIn.set hr ha h.le, ha⟩
theorem RdIs.set1 {B : Nat} {w : World} {g : Nat} {v : Value} {rest : List UInt8} {short : Bool} (h : RdIs B w g v rest short) : RdIs B (w.setCell ⟨g, 1, none⟩ (.bool true)) g v rest true :=
  ⟨h.le, by simpa using h.lt, by rw [World.cell?_setCell_other _ _ _ _ (by intro e; have := congrArg Addr.off e; simp at this)]; exact h.c0, World.cell?_setCell_same _ _ _ h.c1, by rw [World.frozen?_setCell]; exact h.f0, by rw [World.frozen?_setCell]; exact h.f1, ByIn.set h.by' h.away h.le, h.away⟩
/-- what a reader hands out, in memory -/
def RetTaken (B g : Nat) (w : World) (rest : List UInt8) (short : Bool) (n : Nat) (e : Ending) (w' : World) : Prop :=
  ∃ a m c v', e = .returned (.slice a m c) ∧ Hid (ByRd w' (.slice a m c) (takeL n rest) ∧ RdIs B w' g v' (leftL n rest) (shortB n rest short)) ∧ Hid (Turn [g] w w')
theorem take_any (B g : Nat) (w : World) (v : Value) (rest : List UInt8) (short : Bool) (n : Nat) (hn : n ≤ 1000000) (hl : rest.length ≤ 1048576) (h : RdIs B w g v rest short) :
    Calls Tryz.prog 88 #[.pointer (some ⟨g, 0, none⟩), .int .i64 (n : Int)] w fun e w' => RetTaken B g w rest short n e w' := by
  by_cases hc : n ≤ rest.length
  · refine (take_ok B g w v rest short n hc hl h).mono ?_
    rintro e w' ⟨a, c, v', rfl, rfl, h1, h2, h3, h4⟩
    refine ⟨a, n, c, v', rfl, hide ⟨?_, ?_⟩, (Turn.refl _ _).setCell (by simp) _ _⟩
    · rw [takeL, if_pos hc]; exact ByIn.set h1 h2 h.le
    · rw [leftL, if_pos hc, shortB, if_pos hc]; exact h.set0 h3 h4
  · refine (take_few B g w v rest short n (by omega) hn h).mono ?_
    rintro e w' ⟨rfl, rfl⟩
    refine ⟨none, 0, 0, v, rfl, hide ⟨?_, ?_⟩, (Turn.refl _ _).setCell (by simp) _ _⟩
    · rw [takeL, if_neg hc]; exact ByRd.nil _ _ _
    · rw [leftL, if_neg hc, shortB, if_neg hc]; exact h.set1

theorem conv_back {w : World} {a : Option Addr} {m c : Nat} {bs : List UInt8} (h : ByRd w (.slice a m c) bs) : (convert 30 9 (.slice a m c)).run Tryz.prog w = .ok (.string ⟨bs.toArray⟩) w := by
  obtain ⟨a', c', e, hin, _⟩ := h
  simp only [Value.slice.injEq] at e
  obtain ⟨rfl, rfl, rfl⟩ := e
  rcases hin with rfl | ⟨b, off, rfl, hb, hx⟩
  · show (convert 30 9 (.slice a 0 c)).run Tryz.prog w = _
    rw [run_convert_bytes_string w 30 9 5 a 0 c Tryz.underlying30 Tryz.underlying5 Tryz.underlying9]
    cases a <;> simp [Conv.bytesToString, loadCells]
    all_goals rfl
  · exact run_convert_bytes_back w 30 9 5 ⟨b, off, none⟩ c bs Tryz.underlying30 Tryz.underlying5 Tryz.underlying9 (fun j hj => by
      have hadd : (⟨b, off, none⟩ : Addr).add j = ⟨b, off + j, none⟩ := by unfold Addr.add; split <;> simp_all
      rw [hadd]
      exact hx j hj)
/-- the number in bytes, the highest first, as an int -/
def numF (x : Int) (c : UInt8) : Int := bits .or .i64 (wrap64 (x * 256)) (c.toNat : Int)
def numL (bs : List UInt8) : Int := bs.foldl numF 0
theorem numL_take (bs : List UInt8) (k : Nat) (h : k < bs.length) : numL (bs.take (k + 1)) = numF (numL (bs.take k)) bs[k] := by
  rw [List.take_succ_eq_append_getElem h]
  unfold numL
  rw [List.foldl_append]
  rfl
def RetNum (B g : Nat) (w : World) (rest : List UInt8) (short : Bool) (n : Nat) (e : Ending) (w' : World) : Prop :=
  ∃ v', e = .returned (.int .i64 (numL (takeL n rest))) ∧ Hid (RdIs B w' g v' (leftL n rest) (shortB n rest short)) ∧ Hid (Turn [g] w w')
theorem takeL_len (n : Nat) (rest : List UInt8) : (takeL n rest).length ≤ rest.length := by
  unfold takeL
  split
  · simp; omega
  · simp
set_option maxHeartbeats 1600000 in
theorem num_any (B g : Nat) (w : World) (v : Value) (rest : List UInt8) (short : Bool) (n : Nat) (hn : n ≤ 1000000) (hl : rest.length ≤ 1048576) (h : RdIs B w g v rest short) :
    Calls Tryz.prog 77 #[.pointer (some ⟨g, 0, none⟩), .int .i64 (n : Int)] w fun e w' => RetNum B g w rest short n e w' := by
  have HT := hide (take_any B g w v rest short n hn hl h)
  clear h
  go_enter Tryz.func77, Tryz.ntmps77
  go_wp2_with fail
  refine (unhide HT).mono ?_
  rintro e w1 ⟨a, m, c, v', rfl, P1, T1⟩
  have hm : m = (takeL n rest).length := by obtain ⟨a', c', e⟩ := (unhide P1).1.len; simp only [Value.slice.injEq] at e; exact e.2.1
  have hml : m ≤ 1048576 := by have := takeL_len n rest; omega
  have HM := hide hm
  have HC := hide (unhide P1).1
  have hin : ∀ k, k < m → ∃ (b off : Nat), a = some ⟨b, off, none⟩ ∧ ∀ j (hj : j < (takeL n rest).length), w1.cell? ⟨b, off + j, none⟩ = some (.int .u8 ((takeL n rest)[j].toNat : Int)) := fun k hk => by
    obtain ⟨a', c', e, hin, _⟩ := (unhide P1).1
    simp only [Value.slice.injEq] at e
    obtain ⟨rfl, _, _⟩ := e
    rcases hin with h0 | ⟨b, off, e, _, hx⟩
    · rw [h0] at hm; simp at hm; omega
    · exact ⟨b, off, e, hx⟩
  have HIN := hide hin
  clear hm HT hin
  go_wp2_with fail
  go_loop [5, 12] (fun x i => ∃ k : Nat, k ≤ m ∧ i = .int .i64 k ∧ x = .int .i64 (numL ((takeL n rest).take k))) (fun _ i => m - (intOf i).toNat)
  case atStart => exact ⟨0, Nat.zero_le _, rfl, rfl⟩
  case round =>
    obtain ⟨k, hk, rfl, rfl⟩ := hrel
    by_cases hlt : k < m
    · obtain ⟨b, off, hab, hx⟩ := unhide HIN k hlt
      subst hab
      have hkl : k < (takeL n rest).length := by rw [← unhide HM]; exact hlt
      have c0 := hx k hkl
      have HN := hide (numL_take (takeL n rest) k hkl)
      unfold numF at HN
      clear hx
      generalize numL ((takeL n rest).take k) = x at *
      have hy0 : (0 : Int) ≤ ((takeL n rest)[k].toNat : Int) := Int.natCast_nonneg _
      have hy1 : ((takeL n rest)[k].toNat : Int) ≤ 255 := by have := UInt8.toNat_lt (takeL n rest)[k]; omega
      generalize ((takeL n rest)[k].toNat : Int) = y at *
      go_wp2_with fail
      go_round
      case rel => exact ⟨k + 1, by omega, by go_num, by rw [unhide HN]⟩
      case measure => simp [intOf]; omega
    · have e : k = m := by omega
      have HE := hide (show (takeL n rest).take k = takeL n rest by rw [e, unhide HM, List.take_of_length_le (Nat.le_refl _)])
      rw [unhide HE]
      clear e
      go_wp2_with fail
      go_ret
      exact ⟨v', rfl, hide (unhide P1).2, T1⟩
def RetText (B g : Nat) (w : World) (rest : List UInt8) (short : Bool) (e : Ending) (w' : World) : Prop :=
  ∃ v', e = .returned (.string ⟨(takeL (numL (takeL 1 rest)).toNat (leftL 1 rest)).toArray⟩) ∧ Hid (RdIs B w' g v' (leftL (numL (takeL 1 rest)).toNat (leftL 1 rest)) (shortB (numL (takeL 1 rest)).toNat (leftL 1 rest) (shortB 1 rest short))) ∧ Hid (Turn [g] w w')
theorem or_low (a : Int) (c : Nat) (hc : c < 256) (ha : a % 256 = 0) : bits .or .i64 a (c : Int) = wrap64 (a + (c : Int)) := by
  have hA : (BitVec.ofInt 64 a).toNat = (a % 18446744073709551616).toNat := by rw [BitVec.toNat_ofInt]; rfl
  have hB : (BitVec.ofInt 64 (c : Int)).toNat = c := by
    rw [BitVec.ofInt_natCast, BitVec.toNat_ofNat]; exact Nat.mod_eq_of_lt (by omega)
  obtain ⟨k, hk⟩ : ∃ k : Nat, (a % 18446744073709551616).toNat = 2 ^ 8 * k := ⟨(a % 18446744073709551616).toNat / 256, by omega⟩
  show IntKind.i64.wrap ((BitVec.ofInt 64 a ||| BitVec.ofInt 64 (c : Int)).toNat : Int) = _
  rw [BitVec.toNat_or, hA, hB, hk, ← Nat.two_pow_add_eq_or_of_lt (by omega : c < 2 ^ 8) k, ← hk]
  rw [IntKind.wrap_i64]
  unfold wrap64
  omega
theorem or_byte (x : Int) (c : UInt8) : numF x c = wrap64 (x * 256 + (c.toNat : Int)) := by
  unfold numF
  rw [or_low _ c.toNat (UInt8.toNat_lt c) (by unfold wrap64; omega)]
  unfold wrap64
  omega
theorem numF_small (x : Int) (c : UInt8) (h0 : 0 ≤ x) (h1 : x < 36028797018963968) : numF x c = x * 256 + (c.toNat : Int) := by
  rw [or_byte]
  have := UInt8.toNat_lt c
  unfold wrap64
  omega
theorem numL_one (rest : List UInt8) : 0 ≤ numL (takeL 1 rest) ∧ numL (takeL 1 rest) ≤ 255 := by
  unfold takeL
  split
  · cases rest with
    | nil => simp [numL]
    | cons c cs =>
      have := UInt8.toNat_lt c
      simp only [List.take, numL, List.foldl]
      rw [numF_small 0 c (by omega) (by omega)]
      omega
  · simp [numL]
set_option maxHeartbeats 1600000 in
theorem text_any (B g : Nat) (w : World) (v : Value) (rest : List UInt8) (short : Bool) (hl : rest.length ≤ 1048576) (h : RdIs B w g v rest short) :
    Calls Tryz.prog 79 #[.pointer (some ⟨g, 0, none⟩)] w fun e w' => RetText B g w rest short e w' := by
  have HN := hide (num_any B g w v rest short 1 (by omega) hl h)
  have hone := numL_one rest
  have hll : (leftL 1 rest).length ≤ 1048576 := by
    unfold leftL
    split
    · simp; omega
    · exact hl
  clear h
  go_enter Tryz.func79, Tryz.ntmps79
  go_wp2_with fail
  refine (unhide HN).mono ?_
  rintro e w1 ⟨v1, rfl, R1, T1⟩
  have e1 : numL (takeL 1 rest) = (((numL (takeL 1 rest)).toNat : Nat) : Int) := by omega
  have HT := hide (take_any B g w1 v1 _ _ (numL (takeL 1 rest)).toNat (by omega) hll (unhide R1))
  rw [← e1] at HT
  clear HN e1
  go_wp2_with fail
  refine (unhide HT).mono ?_
  rintro e w2 ⟨a, m, c, v2, rfl, P2, T2⟩
  have hcv := conv_back (unhide P2).1
  have HP := hide (unhide P2).2
  have TT := hide ((unhide T1).trans (unhide T2))
  clear P2 HT
  go_wp2_with fail
  go_ret
  exact ⟨v2, rfl, HP, TT⟩
theorem RdIs.turn {B : Nat} {S : List Nat} {w w' : World} {g : Nat} {v : Value} {rest : List UInt8} {short : Bool} (h : RdIs B w g v rest short) (ht : Turn S w w') (hg : g ∉ S) (hS : ∀ k ∈ S, B ≤ k) : RdIs B w' g v rest short := by
  refine ⟨h.le, Nat.lt_of_lt_of_le h.lt ht.size, (ht.cell h.lt hg).trans h.c0, (ht.cell h.lt hg).trans h.c1, (ht.frozen h.lt hg).trans h.f0, (ht.frozen h.lt hg).trans h.f1, ?_, h.away⟩
  obtain ⟨a, c, e, hin, hc⟩ := h.by'
  refine ⟨a, c, e, ?_, hc⟩
  rcases hin with h0 | ⟨b, off, rfl, hb, hx⟩
  · exact .inl h0
  · by_cases h0 : rest.length = 0
    · exact .inl (List.eq_nil_of_length_eq_zero h0)
    · have h5 : b < B := h.away _ _ _ e (by omega)
      exact .inr ⟨b, off, rfl, Nat.lt_of_lt_of_le hb ht.size, fun j hj => (ht.cell hb (fun hm => by have := hS b hm; omega)).trans (hx j hj)⟩
end Go.Proofs.YtiebfcefmdiajaaGreatDoor
