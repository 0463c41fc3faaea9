/-
  The specification's draws of a word's bytes and of a frame's body.
-/
import Derived.Test.YtlgmmibncoedgaaDraw33W
import Derived.Test.YtlgmmibncoedgaaMerged14
set_option linter.unusedVariables false
namespace Go.Proofs.Ytlgmmibncoedgaa
open Go.RowKit Go.Maps Go.Deep

theorem bytesIn33 {w : World} {a : Option Addr} {bs : List UInt8} (h : ByIn w a bs) : BytesIn w a bs.length := by
  rcases h with rfl | ⟨b, off, rfl, hb, hc⟩
  · exact .inl rfl
  · exact .inr ⟨b, off, rfl, hb, fun i hi => ⟨bs[i].toNat, by have := bs[i].toNat_lt; omega, hc i hi⟩⟩
theorem Rdy.below33 {base g N B : Nat} {w0 w : World} (h : Rdy base g N w0 w) (hB : B ≤ w0.heap.size) (hb : B ≤ base) : Below B w0 w := by
  obtain ⟨p, _, hr⟩ := h.rd
  exact h.turn.below hB (by have := hr.above; simp; omega)
def RetB33 (base g N L : Nat) (w0 w : World) (e : Ending) (w' : World) : Prop := ∃ a n c bs, e = .returned (.slice a n c) ∧ Hid (ByRow w.heap.size w' (.slice a n c) bs) ∧ Hid (bs.length ≤ L) ∧ Hid (Rdy base g N w0 w') ∧ Hid (w.heap.size ≤ w'.heap.size)
set_option maxHeartbeats 3200000 in
theorem l33Bytes_any (base g N : Nat) (w0 w : World) (hN : N ≤ 90000) (h : Rdy base g N w0 w) :
    Calls Try.prog 94 #[.pointer (some ⟨g, 0, none⟩)] w fun e w' => RetB33 base g (N + 400) 300 w0 w e w' := by
  have HS := hide (l33Say_any base g N w0 w (by omega) h)
  have HS0 := hide h.size
  clear h
  go_enter Try.func94, Try.ntmps94
  go_wp2_with fail
  refine (unhide HS).mono ?_
  rintro e w1 ⟨k, f, t, nm, v, a, n, c, s, rfl, R1, F1, D1, Z1⟩
  have HB := hide (specSayBytes_any s _ w1 (unhide F1).small (unhide R1 w1 [] (Turn.refl _ _) (by simp)))
  clear R1 HS
  go_wp2_with fail
  refine (unhide HB).mono ?_
  rintro e w2 ⟨a2, n2, c2, rfl, r2, b2⟩
  have D2 := hide ((unhide D1).up b2)
  have Z2 := hide (Nat.le_trans (unhide Z1) b2.size)
  have HT := hide (l33Turn_any base g (N + 300) w.heap.size 212 w0 w2 a2 n2 c2 (sayBytesL s) (by omega) (unhide D2) (unhide HS0) (unhide Z2) (sayBytesL_len s) (by omega) (r2.mono (unhide Z1)))
  clear HB r2 b2 D1 Z1 F1 D2
  generalize sayOkB s = okb at *
  go_wp2_with fail
  refine (unhide HT).mono ?_
  rintro e w3 ⟨a3, n3, c3, bs, rfl, R3, L3, D3, Z3⟩
  have Z4 := hide (Nat.le_trans (unhide Z2) (unhide Z3))
  clear HT Z2 Z3
  go_wp2_with fail
  go_ret
  exact ⟨_, _, _, bs, rfl, R3, hide (by have := unhide L3; omega), hide ((unhide D3).more (by omega)), Z4⟩
set_option maxHeartbeats 3200000 in
theorem l33Body_any (base g N : Nat) (w0 w : World) (hN : N ≤ 80000) (h : Rdy base g N w0 w) :
    Calls Try.prog 80 #[.pointer (some ⟨g, 0, none⟩)] w fun e w' => RetB33 base g (N + 1000) 300 w0 w e w' := by
  have H0 := hide h
  clear h
  go_enter Try.func80, Try.ntmps80
  go_wp2_with fail
  refine (pick_rdy base g N 3 w0 w (by omega) (by omega) (by omega) (unhide H0)).mono ?_
  rintro e w1 ⟨p, rfl, hp, D1, T1⟩
  have Z1 := hide (unhide T1).size
  clear T1 H0
  by_cases hp0 : (0 : Int) < (p : Int)
  · have HB := hide (l33Bytes_any base g (N + 1) w0 w1 (by omega) (unhide D1))
    clear D1
    go_wp2_with fail
    refine (unhide HB).mono ?_
    rintro e w2 ⟨a2, n2, c2, bs, rfl, R2, L2, D2, Z2⟩
    go_wp2_with fail
    go_ret
    exact ⟨_, _, _, bs, rfl, hide ((unhide R2).mono (unhide Z1)), L2, hide ((unhide D2).more (by omega)), hide (Nat.le_trans (unhide Z1) (unhide Z2))⟩
  · go_wp2_with fail
    refine (pick_rdy base g (N + 1) 12 w0 w1 (by omega) (by omega) (by omega) (unhide D1)).mono ?_
    rintro e w2 ⟨n, rfl, hn, D2, T2⟩
    have Z2 := hide (Nat.le_trans (unhide Z1) (unhide T2).size)
    clear T2 D1
    go_wp2_with fail
    refine (pick_rdy base g (N + 1 + 1) 10 w0 w2 (by omega) (by omega) (by omega) (unhide D2)).mono ?_
    rintro e w3 ⟨q, rfl, hq, D3, T3⟩
    have Z3 := hide (Nat.le_trans (unhide Z2) (unhide T3).size)
    clear T3 D2 Z2
    by_cases hq0 : q = 0
    · subst hq0
      go_wp2_with fail
      refine (pick_rdy base g (N + 1 + 1 + 1) 4 w0 w3 (by omega) (by omega) (by omega) (unhide D3)).mono ?_
      rintro e w4 ⟨r, rfl, hr, D4, T4⟩
      have Z4 := hide (Nat.le_trans (unhide Z3) (unhide T4).size)
      have HW := hide (l33Raw_any base g (N + 1 + 1 + 1 + 1) (258 + r) w0 w4 (by omega) (by omega) (unhide D4))
      rw [show ((258 + r : Nat) : Int) = 258 + (r : Int) by omega] at HW
      clear T4 D3 Z3 D4
      go_wp2_with fail
      refine (unhide HW).mono ?_
      rintro e w5 ⟨a5, c5, bs, rfl, R5, hl, D5, Z5⟩
      have L5 := hide (show bs.length ≤ 300 by omega)
      clear hl
      go_wp2_with fail
      go_ret
      exact ⟨_, _, _, bs, rfl, hide ((unhide R5).mono (unhide Z4)), L5, hide ((unhide D5).more (by omega)), hide (Nat.le_trans (unhide Z4) (unhide Z5))⟩
    · have hqb : ((q : Int) == 0) = false := by simp; omega
      have HW := hide (l33Raw_any base g (N + 1 + 1 + 1) n w0 w3 (by omega) (by omega) (unhide D3))
      clear D3
      go_wp2_with fail
      refine (unhide HW).mono ?_
      rintro e w5 ⟨a5, c5, bs, rfl, R5, hl, D5, Z5⟩
      have L5 := hide (show bs.length ≤ 300 by omega)
      clear hl
      go_wp2_with fail
      go_ret
      exact ⟨_, _, _, bs, rfl, hide ((unhide R5).mono (unhide Z3)), L5, hide ((unhide D5).more (by omega)), hide (Nat.le_trans (unhide Z3) (unhide Z5))⟩
def RetDB (L : Nat) (w : World) (e : Ending) (w' : World) : Prop := ∃ a n c bs, e = .returned (.slice a n c) ∧ Hid (ByRow w.heap.size w' (.slice a n c) bs) ∧ Hid (bs.length ≤ L) ∧ Below w.heap.size w w'
/-- the word that is drawn, which no write into an older block turns -/
def RetDT (w : World) (e : Ending) (w' : World) : Prop := ∃ k f t nm v a n c, ∃ s : SayV, e = .returned (.agg #[.int .i64 k, .int .i64 f, .int .i64 t, .string nm, .int .i64 v, .slice a n c]) ∧ Hid (∀ W S, Turn S w' W → (∀ k ∈ S, k ≤ w.heap.size) → SayRd W (.agg #[.int .i64 k, .int .i64 f, .int .i64 t, .string nm, .int .i64 v, .slice a n c]) s) ∧ Hid (Fit33 s) ∧ Below w.heap.size w w'
def RetDS (w : World) (e : Ending) (w' : World) : Prop := ∃ k f t nm v a n c, ∃ s : SayV, e = .returned (.agg #[.int .i64 k, .int .i64 f, .int .i64 t, .string nm, .int .i64 v, .slice a n c]) ∧ Hid (SayRd w' (.agg #[.int .i64 k, .int .i64 f, .int .i64 t, .string nm, .int .i64 v, .slice a n c]) s) ∧ Hid (Fit33 s) ∧ Below w.heap.size w w'
set_option maxHeartbeats 3200000 in
theorem drawSay_st (w : World) (a : Option Addr) (cap : Nat) (bs : List UInt8) (hl : bs.length ≤ maxLen) (hc : bs.length ≤ cap) (hb : ByIn w a bs) :
    Calls Try.prog 7 #[.slice a bs.length cap] w fun e w' => RetDT w e w' := by
  have X0 := hide (boxF_new w zero6 26)
  have B0 := hide ((Below.refl w.heap.size w).alloc (Nat.le_refl _) (.cells zero6.toArray 26))
  have HO := hide (l1Open_any (w.alloc (.cells zero6.toArray 26)) a bs.length cap hl hc (bytesIn33 (hb.up (unhide B0))))
  have HZ := hide (show (w.alloc (.cells zero6.toArray 26)).heap.size = w.heap.size + 1 by simp)
  rw [show (zero6.toArray) = #[.int .i64 0, .int .i64 0, .int .i64 0, .string ⟨#[]⟩, .int .i64 0, .slice none 0 0] from rfl] at X0 B0 HO HZ
  clear hb hl hc
  go_enter Try.func7, Try.ntmps7
  go_wp2_with fail
  generalize w.alloc (.cells #[.int .i64 0, .int .i64 0, .int .i64 0, .string ⟨#[]⟩, .int .i64 0, .slice none 0 0] 26) = W0 at *
  refine (unhide HO).mono ?_
  rintro e w1 ⟨g, rfl, hr1, ht1⟩
  have B1 := hide (show Below W0.heap.size W0 w1 from ht1.below (Nat.le_refl _) (by simp))
  have X1 := hide ((unhide X0).up (unhide B1))
  have HGA := hide hr1.above
  have HS := hide (l33Say_any W0.heap.size g 0 w1 w1 (by omega) (Rdy.refl hr1 (Nat.le_refl 0)))
  clear hr1 ht1 HO X0
  go_wp2_with fail
  refine (unhide HS).mono ?_
  rintro e w2 ⟨k, f, t, nm, v, a2, n2, c2, s, rfl, R2, F2, D2, Z2⟩
  have X2 := hide ((unhide X1).turn (unhide D2).turn (by have := unhide HGA; have := unhide HZ; simp; omega))
  have B2 := hide (((unhide B0).trans ((unhide B1).mono (unhide B0).size)).trans ((unhide D2).below33 (B := w.heap.size) (by have := (unhide B0).size; have := (unhide B1).size; omega) (unhide B0).size))
  have hz2 := unhide X2
  unfold zero6 at hz2
  obtain ⟨⟨y0, y1, y2, y3, y4, y5⟩, z0, z1, z2, z3, z4, z5⟩ := six33 hz2
  have KEY := hide (show ∀ W', Turn [w.heap.size] w2 W' → RetDT w (.returned (.agg #[.int .i64 k, .int .i64 f, .int .i64 t, .string nm, .int .i64 v, .slice a2 n2 c2])) W' from fun W' tt =>
    ⟨_, _, _, _, _, _, _, _, s, rfl, hide (fun V S tv hS => unhide R2 V (w.heap.size :: S) ((tt.mono (fun k hk => by simp at hk; exact .inl (by simp [hk]))).trans (tv.mono (fun k hk => .inl (by simp [hk])))) (by have h1 := (unhide B0).size; have h2 := (unhide B1).size; intro k hk; simp at hk; rcases hk with rfl | hk; omega; have := hS k hk; omega)), F2, (unhide B2).trans (tt.below (unhide B2).size (by simp))⟩)
  clear hz2 X1 HS R2 F2 D2 Z2
  go_wp2_with fail
  refine bodyPost_ret (v := .agg #[.int .i64 k, .int .i64 f, .int .i64 t, .string nm, .int .i64 v, .slice a2 n2 c2]) (by simp [results, Try.results7, go_sem, y0, y1, y2, y3, y4, y5]) rfl ?_
  exact unhide KEY _ (((((((Turn.refl [w.heap.size] w2).setCell (g := w.heap.size) (by simp) _ _).setCell (g := w.heap.size) (by simp) _ _).setCell (g := w.heap.size) (by simp) _ _).setCell (g := w.heap.size) (by simp) _ _).setCell (g := w.heap.size) (by simp) _ _).setCell (g := w.heap.size) (by simp) _ _)
theorem drawSay_any (w : World) (a : Option Addr) (cap : Nat) (bs : List UInt8) (hl : bs.length ≤ maxLen) (hc : bs.length ≤ cap) (hb : ByIn w a bs) :
    Calls Try.prog 7 #[.slice a bs.length cap] w fun e w' => RetDS w e w' := (drawSay_st w a cap bs hl hc hb).mono fun _ w' h => by
  obtain ⟨k, f, t, nm, v, a, n, c, s, h0, h1, h2, h3⟩ := h
  exact ⟨k, f, t, nm, v, a, n, c, s, h0, hide (unhide h1 w' [] (Turn.refl _ _) (by simp)), h2, h3⟩
end Go.Proofs.Ytlgmmibncoedgaa
