/-
  Rows of bytes: their form, one byte of them turned.
-/
/-
  The specification's spoiling of bytes: one turned, cut, or more behind.
-/
/-
  The specification's draws of a word's bytes and of a frame's body.
-/
import Derived.Test.YtiebfcefmdiajaaGreatDoorMerged5
import Derived.Handy
import Derived.Test.YtiebfcefmdiajaaGreatDoorMerged14
import Derived.Test.YtiebfcefmdiajaaGreatDoorByReader
import Derived.Test.YtiebfcefmdiajaaGreatDoorDraw33W
set_option linter.unusedVariables false
namespace Go.Proofs.YtiebfcefmdiajaaGreatDoor
open Go.RowKit Go.Maps Go.Deep

theorem rowB_len {B : Nat} {w : World} {a : Option Addr} {n c : Nat} {bs : List UInt8} (h : ByRow B w (.slice a n c) bs) : n = bs.length := by
  obtain ⟨a', c', e⟩ := h.slice
  simp only [Value.slice.injEq] at e
  exact e.2.1
theorem rowB_form {B : Nat} {w : World} {a : Option Addr} {n c : Nat} {bs : List UInt8} (h : ByRow B w (.slice a n c) bs) (h0 : 0 < n) : ∃ gb, a = some ⟨gb, 0, none⟩ ∧ n ≤ c ∧ B ≤ gb ∧ gb < w.heap.size := by
  have hl := h.lt
  have hg := h.ge
  rcases h with ⟨hx, ⟨e, h0'⟩ | ⟨g, cap, cur, e, hB, hg', hnc, hcm, hs, ht⟩⟩
  · simp only [Value.slice.injEq] at e
    omega
  · simp only [Value.slice.injEq] at e
    obtain ⟨rfl, rfl, rfl⟩ := e
    exact ⟨g, rfl, by omega, hB, hl g rfl⟩
theorem rowB_cell {B : Nat} {w : World} {gb c : Nat} {bs : List UInt8} (h : ByRow B w (.slice (some ⟨gb, 0, none⟩) bs.length c) bs) (j : Nat) (hj : j < bs.length) : ∃ x : UInt8, w.cell? ⟨gb, j, none⟩ = some (.int .u8 (x.toNat : Int)) ∧ w.frozen? ⟨gb, j, none⟩ = false := by
  have hh : w.ownsRow B 5 1 (.slice (some ⟨gb, 0, none⟩) bs.length c) bs.length (bs.map byV) := h
  refine ⟨bs[j], ?_, hh.frozenAt _⟩
  have := hh.cellAt j (by simp; omega)
  rw [this]
  simp [hj, byV]
theorem xorB (x y : UInt8) : bits .xor .u8 (x.toNat : Int) (y.toNat : Int) = ((x ^^^ y).toNat : Int) := by
  have h1 : (BitVec.ofInt 8 (x.toNat : Int)).toNat = x.toNat := by
    rw [BitVec.ofInt_natCast, BitVec.toNat_ofNat]; exact Nat.mod_eq_of_lt x.toNat_lt
  have h2 : (BitVec.ofInt 8 (y.toNat : Int)).toNat = y.toNat := by
    rw [BitVec.ofInt_natCast, BitVec.toNat_ofNat]; exact Nat.mod_eq_of_lt y.toNat_lt
  show IntKind.u8.wrap ((BitVec.ofInt 8 (x.toNat : Int) ^^^ BitVec.ofInt 8 (y.toNat : Int)).toNat : Int) = _
  rw [BitVec.toNat_xor, h1, h2, ← UInt8.toNat_xor]
  have := (x ^^^ y).toNat_lt
  show ((x ^^^ y).toNat : Int) % 256 = _
  omega
theorem powB (q : Nat) (hq : q < 8) : ∃ yb : UInt8, IntKind.u8.wrap ((2 : Int) ^ q) = (yb.toNat : Int) := by
  match q, hq with
  | 0, _ => exact ⟨1, by decide⟩
  | 1, _ => exact ⟨2, by decide⟩
  | 2, _ => exact ⟨4, by decide⟩
  | 3, _ => exact ⟨8, by decide⟩
  | 4, _ => exact ⟨16, by decide⟩
  | 5, _ => exact ⟨32, by decide⟩
  | 6, _ => exact ⟨64, by decide⟩
  | 7, _ => exact ⟨128, by decide⟩
theorem rowB_set {B : Nat} {w : World} {gb c : Nat} {bs : List UInt8} (h : ByRow B w (.slice (some ⟨gb, 0, none⟩) bs.length c) bs) (j : Nat) (hj : j < bs.length) (y : UInt8) : ByRow B (w.setCell ⟨gb, j, none⟩ (.int .u8 (y.toNat : Int))) (.slice (some ⟨gb, 0, none⟩) bs.length c) (bs.set j y) := by
  rcases h with ⟨hx, ⟨e, h0'⟩ | ⟨g, cap, cur, e, hB, hg, hnc, hcm, hs, ht⟩⟩
  · simp at e
  · simp only [Value.slice.injEq, Option.some.injEq, Addr.mk.injEq] at e
    obtain ⟨⟨rfl, _⟩, _, rfl⟩ := e
    refine ⟨by simp, .inr ⟨gb, c, cur.setIfInBounds j (.int .u8 (y.toNat : Int)), by simp, hB, ?_, by simpa using hnc, hcm, by simpa using hs, ?_⟩⟩
    · show (w.heap.modify gb _)[gb]? = _
      rw [Array.getElem?_modify]
      simp [hg]
    · simp only [Array.toList_setIfInBounds, List.length_set, Nat.mul_one] at ht ⊢
      rw [List.take_set, ht, List.map_set]
      rfl
theorem rowB_prefix {B : Nat} {w : World} {a : Option Addr} {n c : Nat} {bs : List UInt8} (h : ByRow B w (.slice a n c) bs) (k : Nat) (hk : k ≤ bs.length) : ByRow B w (.slice a k c) (bs.take k) := by
  rcases h with ⟨hx, ⟨e, h0⟩ | ⟨g, cap, cur, e, hB, hg, hnc, hcm, hs, ht⟩⟩
  · simp only [Value.slice.injEq] at e
    obtain ⟨rfl, rfl, rfl⟩ := e
    have : bs = [] := List.eq_nil_of_length_eq_zero h0
    subst this
    have : k = 0 := by simpa using hk
    subst this
    exact ByRow.nil _ _
  · simp only [Value.slice.injEq] at e
    obtain ⟨rfl, rfl, rfl⟩ := e
    have hl : (bs.take k).length = k := by simp [Nat.min_eq_left hk]
    refine ⟨by simp, .inr ⟨g, c, cur, by rw [hl], hB, hg, by omega, hcm, hs, ?_⟩⟩
    rw [hl, List.map_take, ← ht, List.take_take]
    congr 1
    omega
end Go.Proofs.YtiebfcefmdiajaaGreatDoor

set_option linter.unusedVariables false
namespace Go.Proofs.YtiebfcefmdiajaaGreatDoor
open Go.RowKit Go.Maps Go.Deep

def RetT33 (base g N B L : Nat) (w0 w : World) (e : Ending) (w' : World) : Prop := ∃ a n c bs, e = .returned (.slice a n c) ∧ Hid (ByRow B w' (.slice a n c) bs) ∧ Hid (bs.length ≤ L) ∧ Hid (Rdy base g N w0 w') ∧ Hid (w.heap.size ≤ w'.heap.size)
set_option maxHeartbeats 6400000 in
theorem l33Turn_any (base g N B L : Nat) (w0 w : World) (a : Option Addr) (n c : Nat) (bs : List UInt8) (hN : N ≤ 100000) (h : Rdy base g N w0 w) (hB0 : w0.heap.size ≤ B) (hB : B ≤ w.heap.size) (hL : bs.length ≤ L) (hLL : L ≤ 1000) (hr : ByRow B w (.slice a n c) bs) :
    Calls Tryz.prog 59 #[.pointer (some ⟨g, 0, none⟩), .slice a n c] w fun e w' => RetT33 base g (N + 20) B (L + 4) w0 w e w' := by
  have HZ := hide (show g < B by have := h.lt; omega)
  have HB0 := hide hB0
  have HBB := hide hB
  have HL := hide hL
  have HLL := hide hLL
  have R4 := hide hr
  have D4 := hide h
  obtain rfl := rowB_len hr
  clear h hr hB0 hB hL hLL
  go_enter Tryz.func59, Tryz.ntmps59
  go_wp2_with fail
  refine (pick_rdy base g N 8 w0 w (by omega) (by omega) (by omega) (unhide D4)).mono ?_
  rintro e w5 ⟨k, rfl, hk, D5, T5⟩
  have R5 := hide ((unhide R4).turn33 (unhide T5) (unhide HZ))
  have Z5 := hide (unhide T5).size
  clear T5 R4 D4
  by_cases k0 : k = 0
  · subst k0
    by_cases hbb : ¬ (0 : Int) < (bs.length : Int)
    · go_wp2_with fail
      go_ret
      exact ⟨_, _, _, bs, rfl, R5, hide (by have := unhide HL; omega), hide ((unhide D5).more (by omega)), Z5⟩
    · have hbb : (0 : Int) < (bs.length : Int) := by omega
      go_wp2_with fail
      refine (pick_rdy base g (N + 1) (bs.length : Int) w0 w5 (by omega) (by have := unhide HL; have := unhide HLL; omega) (by omega) (unhide D5)).mono ?_
      rintro e w6 ⟨j, rfl, hj, D6, T6⟩
      have R6 := hide ((unhide R5).turn33 (unhide T6) (unhide HZ))
      have Z6 := hide (Nat.le_trans (unhide Z5) (unhide T6).size)
      clear T6 R5 D5 Z5
      obtain ⟨gb, rfl, hc, hB, hgb⟩ := rowB_form (unhide R6) (by omega)
      obtain ⟨x6, c6, f6⟩ := rowB_cell (unhide R6) j (by omega)
      have hjl : (j : Int) < (bs.length : Int) := by omega
      have CD := hide (show w6.drew.cell? ⟨gb, j, none⟩ = some (.int .u8 (x6.toNat : Int)) from c6)
      go_wp2_with fail
      go_region_with (first
        | (go_at_call 37
           refine (pick_rdy base g (N + 1 + 1) 8 w0 _ (by omega) (by omega) (by omega) ((unhide D6).up ((Below.refl _ _).drew))).mono ?_
           rintro e w7 ⟨q, rfl, hq, D7, T7⟩
           have R7 := hide (((unhide R6).up ((Below.refl _ _).drew)).turn33 (unhide T7) (unhide HZ))
           have Z7 := hide (Nat.le_trans (unhide Z6) (show w6.heap.size ≤ w7.heap.size from (unhide T7).size))
           have hq0 : (0 : Int) ≤ (q : Int) := by omega
           have c7 : w7.cell? ⟨gb, j, none⟩ = some (.int .u8 (x6.toNat : Int)) := ((unhide T7).cell (by show gb < w6.drew.heap.size; exact hgb) (by have := unhide HZ; simp; omega)).trans (unhide CD)
           obtain ⟨_, _, f7⟩ := rowB_cell (unhide R7) j (by omega))
        | fail)
      all_goals
        obtain ⟨yb, hyb⟩ := powB q (by omega)
        have E7 := hide (show bits .xor .u8 (x6.toNat : Int) (IntKind.u8.wrap (2 ^ q)) = (((x6 ^^^ yb).toNat : Nat) : Int) by rw [hyb]; exact xorB x6 yb)
        have R8 := hide (rowB_set (unhide R7) j (by omega) (x6 ^^^ yb))
        have D8 := hide ((unhide D7).turns (S := [gb]) ((Turn.refl [gb] w7).setCell (g := gb) (by simp) j (.int .u8 (((x6 ^^^ yb).toNat : Nat) : Int))) (by have := unhide HB0; simp; omega))
        have Z8 := hide (Nat.le_trans (unhide Z7) (show w7.heap.size ≤ (w7.setCell ⟨gb, j, none⟩ (.int .u8 (((x6 ^^^ yb).toNat : Nat) : Int))).heap.size by simp))
        rw [unhide E7]
        clear hyb E7
        go_wp2_with fail
        go_ret
        exact ⟨_, _, _, bs.set j (x6 ^^^ yb), rfl, R8, hide (by have := unhide HL; simp; omega), hide ((unhide D8).more (by omega)), Z8⟩
  · have k0b : ((k : Int) == 0) = false := by simp; omega
    by_cases k1 : k = 1
    · subst k1
      by_cases hbb : ¬ (0 : Int) < (bs.length : Int)
      · go_wp2_with fail
        go_ret
        exact ⟨_, _, _, bs, rfl, R5, hide (by have := unhide HL; omega), hide ((unhide D5).more (by omega)), Z5⟩
      · have hbb : (0 : Int) < (bs.length : Int) := by omega
        go_wp2_with fail
        refine (pick_rdy base g (N + 1) (bs.length : Int) w0 w5 (by omega) (by have := unhide HL; have := unhide HLL; omega) (by omega) (unhide D5)).mono ?_
        rintro e w6 ⟨j, rfl, hj, D6, T6⟩
        have R6 := hide ((unhide R5).turn33 (unhide T6) (unhide HZ))
        have Z6 := hide (Nat.le_trans (unhide Z5) (unhide T6).size)
        clear T6 R5 D5 Z5
        obtain ⟨gb, rfl, hc, hB, hgb⟩ := rowB_form (unhide R6) (by omega)
        have hj0 : (j : Int) ≤ (c : Int) := by omega
        go_wp2_with fail
        go_ret
        exact ⟨_, _, _, bs.take j, rfl, hide (rowB_prefix (unhide R6) j (by omega)), hide (by have := unhide HL; simp; omega), hide ((unhide D6).more (by omega)), Z6⟩
    · have k1b : ((k : Int) == 1) = false := by simp; omega
      by_cases k2 : k = 2
      · subst k2
        go_wp2_with fail
        refine (pick_rdy base g (N + 1) 4 w0 w5 (by omega) (by omega) (by omega) (unhide D5)).mono ?_
        rintro e w6 ⟨j, rfl, hj, D6, T6⟩
        have R6 := hide ((unhide R5).turn33 (unhide T6) (unhide HZ))
        have Z6 := hide (Nat.le_trans (unhide Z5) (unhide T6).size)
        clear T6 R5 D5 Z5
        have HRW := hide (l33Raw_any base g (N + 1 + 1) (1 + j) w6 w6 (by omega) (by omega) (unhide D6).self)
        rw [show ((1 + j : Nat) : Int) = 1 + (j : Int) by omega] at HRW
        go_wp2_with (first
          | (go_at_call 76; refine (unhide HRW).mono ?_; rintro e w7 ⟨a7, c7, ys, rfl, R7, hy, DX, Z7⟩; have HY := hide hy; clear hy; have D7 := hide ((unhide D6).on (unhide DX)); have R8 := hide ((unhide R6).turn33 (unhide DX).turn (unhide HZ)); have SW := hide (Nat.le_trans (unhide Z6) (unhide Z7)); have SZ := hide (Nat.le_trans (unhide HBB) (unhide SW)); have hyl := hide (show bs.length + ys.length ≤ 140737488355328 by have := unhide HL; have := unhide HLL; have := unhide HY; omega); clear HRW D6)
          | (at_builtin; have _t := R8; refine wpList_byAppend rfl _ _ rfl B _ _ bs ys rfl rfl (unhide R8) (unhide R7).rd (unhide hyl) (unhide SZ) ?_; intro a9 c9 w9 r9 g9 _; have R9 := hide r9; have D9 := hide ((unhide D7).grown g9 (fun y hy => Nat.le_trans (unhide HB0) ((unhide R8).ge y hy))); have Z9 := hide (Nat.le_trans (unhide SW) g9.size); clear r9 g9)
          | fail)
        go_ret
        exact ⟨_, _, _, bs ++ ys, rfl, R9, hide (by have := unhide HL; have := unhide HY; simp; omega), hide ((unhide D9).more (by omega)), Z9⟩
      · have k2b : ((k : Int) == 2) = false := by simp; omega
        go_wp2_with fail
        go_ret
        exact ⟨_, _, _, bs, rfl, R5, hide (by have := unhide HL; omega), hide ((unhide D5).more (by omega)), Z5⟩
end Go.Proofs.YtiebfcefmdiajaaGreatDoor

set_option linter.unusedVariables false
namespace Go.Proofs.YtiebfcefmdiajaaGreatDoor
open Go.RowKit Go.Maps Go.Deep

theorem bytesIn33 {w : World} {a : Option Addr} {bs : List UInt8} (h : ByIn w a bs) : BytesIn w a bs.length := by
  rcases h with rfl | ⟨b, off, rfl, hb, hc⟩
  · exact .inl rfl
  · exact .inr ⟨b, off, rfl, hb, fun i hi => ⟨bs[i].toNat, by have := bs[i].toNat_lt; omega, hc i hi⟩⟩
theorem Rdy.below33 {base g N B : Nat} {w0 w : World} (h : Rdy base g N w0 w) (hB : B ≤ w0.heap.size) (hb : B ≤ base) : Below B w0 w := by
  obtain ⟨p, _, hr⟩ := h.rd
  exact h.turn.below hB (by have := hr.above; simp; omega)
def RetB33 (base g N L : Nat) (w0 w : World) (e : Ending) (w' : World) : Prop := ∃ a n c bs, e = .returned (.slice a n c) ∧ Hid (ByRow w.heap.size w' (.slice a n c) bs) ∧ Hid (bs.length ≤ L) ∧ Hid (Rdy base g N w0 w') ∧ Hid (w.heap.size ≤ w'.heap.size)
set_option maxHeartbeats 3200000 in
theorem l33Bytes_any (base g N : Nat) (w0 w : World) (hN : N ≤ 90000) (h : Rdy base g N w0 w) :
    Calls Tryz.prog 39 #[.pointer (some ⟨g, 0, none⟩)] w fun e w' => RetB33 base g (N + 400) 300 w0 w e w' := by
  have HS := hide (l33Say_any base g N w0 w (by omega) h)
  have HS0 := hide h.size
  clear h
  go_enter Tryz.func39, Tryz.ntmps39
  go_wp2_with fail
  refine (unhide HS).mono ?_
  rintro e w1 ⟨k, f, t, nm, v, a, n, c, s, rfl, R1, F1, D1, Z1⟩
  have HB := hide (specSayBytes_any s _ w1 (unhide F1).small (unhide R1 w1 [] (Turn.refl _ _) (by simp)))
  clear R1 HS
  go_wp2_with fail
  refine (unhide HB).mono ?_
  rintro e w2 ⟨a2, n2, c2, rfl, r2, b2⟩
  have D2 := hide ((unhide D1).up b2)
  have Z2 := hide (Nat.le_trans (unhide Z1) b2.size)
  have HT := hide (l33Turn_any base g (N + 300) w.heap.size 212 w0 w2 a2 n2 c2 (sayBytesL s) (by omega) (unhide D2) (unhide HS0) (unhide Z2) (sayBytesL_len s) (by omega) (r2.mono (unhide Z1)))
  clear HB r2 b2 D1 Z1 F1 D2
  generalize sayOkB s = okb at *
  go_wp2_with fail
  refine (unhide HT).mono ?_
  rintro e w3 ⟨a3, n3, c3, bs, rfl, R3, L3, D3, Z3⟩
  have Z4 := hide (Nat.le_trans (unhide Z2) (unhide Z3))
  clear HT Z2 Z3
  go_wp2_with fail
  go_ret
  exact ⟨_, _, _, bs, rfl, R3, hide (by have := unhide L3; omega), hide ((unhide D3).more (by omega)), Z4⟩
def RetDB (L : Nat) (w : World) (e : Ending) (w' : World) : Prop := ∃ a n c bs, e = .returned (.slice a n c) ∧ Hid (ByRow w.heap.size w' (.slice a n c) bs) ∧ Hid (bs.length ≤ L) ∧ Below w.heap.size w w'
/-- the word that is drawn, which no write into an older block turns -/
def RetDT (w : World) (e : Ending) (w' : World) : Prop := ∃ k f t nm v a n c, ∃ s : SayV, e = .returned (.agg #[.int .i64 k, .int .i64 f, .int .i64 t, .string nm, .int .i64 v, .slice a n c]) ∧ Hid (∀ W S, Turn S w' W → (∀ k ∈ S, k ≤ w.heap.size) → SayRd W (.agg #[.int .i64 k, .int .i64 f, .int .i64 t, .string nm, .int .i64 v, .slice a n c]) s) ∧ Hid (Fit33 s) ∧ Below w.heap.size w w'
def RetDS (w : World) (e : Ending) (w' : World) : Prop := ∃ k f t nm v a n c, ∃ s : SayV, e = .returned (.agg #[.int .i64 k, .int .i64 f, .int .i64 t, .string nm, .int .i64 v, .slice a n c]) ∧ Hid (SayRd w' (.agg #[.int .i64 k, .int .i64 f, .int .i64 t, .string nm, .int .i64 v, .slice a n c]) s) ∧ Hid (Fit33 s) ∧ Below w.heap.size w w'
set_option maxHeartbeats 3200000 in
theorem drawSayRd_any (w : World) (a : Option Addr) (cap : Nat) (bs : List UInt8) (hl : bs.length ≤ maxLen) (hc : bs.length ≤ cap) (hb : ByIn w a bs) :
    Calls Tryz.prog 17 #[.slice a bs.length cap] w fun e w' => RetDB 300 w e w' := by
  have HO := hide (l1Open_any w a bs.length cap hl hc (bytesIn33 hb))
  clear hb hl hc
  go_enter Tryz.func17, Tryz.ntmps17
  go_wp2_with fail
  refine (unhide HO).mono ?_
  rintro e w1 ⟨g, rfl, hr1, ht1⟩
  have B1 := hide (show Below w.heap.size w w1 from ht1.below (Nat.le_refl _) (by simp))
  have HD := hide (l33Bytes_any w.heap.size g 0 w1 w1 (by omega) (Rdy.refl hr1 (Nat.le_refl 0)))
  clear hr1 ht1 HO
  go_wp2_with fail
  refine (unhide HD).mono ?_
  rintro e w2 ⟨a2, n2, c2, ys, rfl, R2, L2, D2, Z2⟩
  go_wp2_with fail
  go_ret
  exact ⟨_, _, _, ys, rfl, hide ((unhide R2).mono (unhide B1).size), L2, (unhide B1).trans ((unhide D2).below33 (unhide B1).size (Nat.le_refl _))⟩
end Go.Proofs.YtiebfcefmdiajaaGreatDoor
