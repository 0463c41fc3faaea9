/-
  The specification's draws of a word's bytes and of a frame's body.
-/
import Derived.Test.YtjflakafphbkmaaDraw33W
import Derived.Test.YtjflakafphbkmaaDraw33T
set_option linter.unusedVariables false
namespace Go.Proofs.Ytjflakafphbkmaa
open Go.RowKit Go.Maps Go.Deep

theorem bytesIn33 {w : World} {a : Option Addr} {bs : List UInt8} (h : ByIn w a bs) : BytesIn w a bs.length := by
  rcases h with rfl | ⟨b, off, rfl, hb, hc⟩
  · exact .inl rfl
  · exact .inr ⟨b, off, rfl, hb, fun i hi => ⟨bs[i].toNat, by have := bs[i].toNat_lt; omega, hc i hi⟩⟩
theorem Rdy.below33 {base g N B : Nat} {w0 w : World} (h : Rdy base g N w0 w) (hB : B ≤ w0.heap.size) (hb : B ≤ base) : Below B w0 w := by
  obtain ⟨p, _, hr⟩ := h.rd
  exact h.turn.below hB (by have := hr.above; simp; omega)
def RetB33 (base g N L : Nat) (w0 w : World) (e : Ending) (w' : World) : Prop := ∃ a n c bs, e = .returned (.slice a n c) ∧ Hid (ByRow w.heap.size w' (.slice a n c) bs) ∧ Hid (bs.length ≤ L) ∧ Hid (Rdy base g N w0 w') ∧ Hid (w.heap.size ≤ w'.heap.size)
def RetDB (L : Nat) (w : World) (e : Ending) (w' : World) : Prop := ∃ a n c bs, e = .returned (.slice a n c) ∧ Hid (ByRow w.heap.size w' (.slice a n c) bs) ∧ Hid (bs.length ≤ L) ∧ Below w.heap.size w w'
def RetDS (w : World) (e : Ending) (w' : World) : Prop := ∃ k f t nm v a n c, ∃ s : SayV, e = .returned (.agg #[.int .i64 k, .int .i64 f, .int .i64 t, .string nm, .int .i64 v, .slice a n c]) ∧ Hid (SayRd w' (.agg #[.int .i64 k, .int .i64 f, .int .i64 t, .string nm, .int .i64 v, .slice a n c]) s) ∧ Hid (Fit33 s) ∧ Below w.heap.size w w'
set_option maxHeartbeats 3200000 in
theorem drawSay_any (w : World) (a : Option Addr) (cap : Nat) (bs : List UInt8) (hl : bs.length ≤ maxLen) (hc : bs.length ≤ cap) (hb : ByIn w a bs) :
    Calls Try.prog 4 #[.slice a bs.length cap] w fun e w' => RetDS w e w' := by
  have X0 := hide (boxF_new w zero6 25)
  have B0 := hide ((Below.refl w.heap.size w).alloc (Nat.le_refl _) (.cells zero6.toArray 25))
  have HO := hide (l1Open_any (w.alloc (.cells zero6.toArray 25)) a bs.length cap hl hc (bytesIn33 (hb.up (unhide B0))))
  have HZ := hide (show (w.alloc (.cells zero6.toArray 25)).heap.size = w.heap.size + 1 by simp)
  rw [show (zero6.toArray) = #[.int .i64 0, .int .i64 0, .int .i64 0, .string ⟨#[]⟩, .int .i64 0, .slice none 0 0] from rfl] at X0 B0 HO HZ
  clear hb hl hc
  go_enter Try.func4, Try.ntmps4
  go_wp2_with fail
  generalize w.alloc (.cells #[.int .i64 0, .int .i64 0, .int .i64 0, .string ⟨#[]⟩, .int .i64 0, .slice none 0 0] 25) = W0 at *
  refine (unhide HO).mono ?_
  rintro e w1 ⟨g, rfl, hr1, ht1⟩
  have B1 := hide (show Below W0.heap.size W0 w1 from ht1.below (Nat.le_refl _) (by simp))
  have X1 := hide ((unhide X0).up (unhide B1))
  have HGA := hide hr1.above
  have HS := hide (l33Say_any W0.heap.size g 0 w1 w1 (by omega) (Rdy.refl hr1 (Nat.le_refl 0)))
  clear hr1 ht1 HO X0
  go_wp2_with fail
  refine (unhide HS).mono ?_
  rintro e w2 ⟨k, f, t, nm, v, a2, n2, c2, s, rfl, R2, F2, D2, Z2⟩
  have X2 := hide ((unhide X1).turn (unhide D2).turn (by have := unhide HGA; have := unhide HZ; simp; omega))
  have B2 := hide (((unhide B0).trans ((unhide B1).mono (unhide B0).size)).trans ((unhide D2).below33 (B := w.heap.size) (by have := (unhide B0).size; have := (unhide B1).size; omega) (unhide B0).size))
  have hz2 := unhide X2
  unfold zero6 at hz2
  obtain ⟨⟨y0, y1, y2, y3, y4, y5⟩, z0, z1, z2, z3, z4, z5⟩ := six33 hz2
  have KEY := hide (show ∀ W', Turn [w.heap.size] w2 W' → RetDS w (.returned (.agg #[.int .i64 k, .int .i64 f, .int .i64 t, .string nm, .int .i64 v, .slice a2 n2 c2])) W' from fun W' tt =>
    ⟨_, _, _, _, _, _, _, _, s, rfl, hide (unhide R2 W' [w.heap.size] tt (by have := (unhide B0).size; have := (unhide B1).size; simp; omega)), F2, (unhide B2).trans (tt.below (unhide B2).size (by simp))⟩)
  clear hz2 X1 HS R2 F2 D2 Z2
  go_wp2_with fail
  refine bodyPost_ret (v := .agg #[.int .i64 k, .int .i64 f, .int .i64 t, .string nm, .int .i64 v, .slice a2 n2 c2]) (by simp [results, Try.results4, go_sem, y0, y1, y2, y3, y4, y5]) rfl ?_
  exact unhide KEY _ (((((((Turn.refl [w.heap.size] w2).setCell (g := w.heap.size) (by simp) _ _).setCell (g := w.heap.size) (by simp) _ _).setCell (g := w.heap.size) (by simp) _ _).setCell (g := w.heap.size) (by simp) _ _).setCell (g := w.heap.size) (by simp) _ _).setCell (g := w.heap.size) (by simp) _ _)
end Go.Proofs.Ytjflakafphbkmaa
