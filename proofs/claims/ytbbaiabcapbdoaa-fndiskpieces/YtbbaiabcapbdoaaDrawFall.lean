/-
  The specification's draws of a disk and a number, of a disk and bytes.
-/
import Derived.Test.YtbbaiabcapbdoaaDrawDisk
set_option linter.unusedVariables false
namespace Go.Proofs.Ytbbaiabcapbdoaa
open Go.RowKit Go.Maps Go.Deep

theorem bytesIn_of' {w : World} {a : Option Addr} {bs : List UInt8} (h : ByIn w a bs) : BytesIn w a bs.length := by
  rcases h with rfl | ⟨b, off, rfl, hb, hc⟩
  · exact .inl rfl
  · exact .inr ⟨b, off, rfl, hb, fun i hi => ⟨bs[i].toNat, by have := bs[i].toNat_lt; omega, hc i hi⟩⟩
def DkFit (d : DiskV) : Prop := d.safe.length ≤ 9000 ∧ d.soft.length ≤ 2000 ∧ -2 ≤ d.fuse ∧ d.fuse ≤ 401
theorem Rdy.below {base g N B : Nat} {w0 w : World} (h : Rdy base g N w0 w) (hB : B ≤ w0.heap.size) (hb : B ≤ base) : Below B w0 w := by
  obtain ⟨p, _, hr⟩ := h.rd
  exact h.turn.below hB (by have := hr.above; simp; omega)
theorem setR (wx : World) (gr : Nat) (v0 v1 v2 v3 : Value) : Turn [gr] wx ((((wx.setCell ⟨gr, 0, none⟩ v0).setCell ⟨gr, 1, none⟩ v1).setCell ⟨gr, 2, none⟩ v2).setCell ⟨gr, 3, none⟩ v3) :=
  ((((Turn.refl [gr] wx).setCell (g := gr) (by simp) _ _).setCell (g := gr) (by simp) _ _).setCell (g := gr) (by simp) _ _).setCell (g := gr) (by simp) _ _
set_option maxHeartbeats 6400000 in
theorem drawFall_any (w : World) (a : Option Addr) (cap : Nat) (bs : List UInt8) (hl : bs.length ≤ maxLen) (hc : bs.length ≤ cap) (hb : ByIn w a bs) :
    Calls Try.prog 9 #[.slice a bs.length cap] w fun e w' => ∃ a0 n0 c0 a1 n1 c1, ∃ (d : DiskV) (k : Int), e = .returned (.tuple #[.agg #[.slice a0 n0 c0, .slice a1 n1 c1, .int .i64 d.fuse, .bool d.down], .int .i64 k]) ∧ Hid (DiskRd w' (.agg #[.slice a0 n0 c0, .slice a1 n1 c1, .int .i64 d.fuse, .bool d.down]) d) ∧ Hid (DkFit d) ∧ Hid (-1 ≤ k ∧ k ≤ 39) ∧ Below w.heap.size w w' := by
  have b0 := (Below.refl w.heap.size w).alloc (Nat.le_refl _) (.cells #[.slice none 0 0, .slice none 0 0, .int .i64 0, .bool false] 24)
  have X0 := hide (boxF_new4 w (.slice none 0 0) (.slice none 0 0) (.int .i64 0) (.bool false) 24)
  have HO := hide (l1Open_any (w.alloc (.cells #[.slice none 0 0, .slice none 0 0, .int .i64 0, .bool false] 24)) a bs.length cap hl hc (bytesIn_of' (hb.up b0)))
  have B0 := hide b0
  have Z0 := hide (show (w.alloc (.cells #[.slice none 0 0, .slice none 0 0, .int .i64 0, .bool false] 24)).heap.size = w.heap.size + 1 by simp)
  clear b0 hb hl hc
  go_enter Try.func9, Try.ntmps9
  go_wp2_with fail
  generalize w.alloc (.cells #[.slice none 0 0, .slice none 0 0, .int .i64 0, .bool false] 24) = W0 at *
  refine (unhide HO).mono ?_
  rintro e w1 ⟨g, rfl, hr1, ht1⟩
  have hbl : Below W0.heap.size W0 w1 := ht1.below (Nat.le_refl _) (by simp)
  have X1 := hide ((unhide X0).up hbl)
  have B1 := hide ((unhide B0).trans (hbl.mono (unhide B0).size))
  have HG := hide (show w.heap.size < g from by have := hr1.above; have := unhide Z0; omega)
  have R1 := hide (Rdy.refl hr1 (Nat.le_refl 0))
  have HBS := hide (show w.heap.size ≤ W0.heap.size from (unhide B0).size)
  clear hr1 ht1 hbl X0 B0 HO
  go_wp2_with fail
  refine (l32Disk_any W0.heap.size g 0 w1 w1 (by omega) (unhide R1)).mono ?_
  rintro e w2 ⟨a0, n0, c0, a1, n1, c1, d, rfl, RD2, HF, R2⟩
  have X2 := hide ((unhide X1).turn (unhide R2).turn (by have := unhide HG; simp; omega))
  have B2 := hide ((unhide B1).trans ((unhide R2).below (unhide B1).size (unhide HBS)))
  have bA := (Below.refl w2.heap.size w2).alloc (Nat.le_refl _) (.cells #[.slice a0 n0 c0, .slice a1 n1 c1, .int .i64 d.fuse, .bool d.down] 24)
  have RDA := hide (fun W (t : Turn [g, w.heap.size] (w2.alloc (.cells #[.slice a0 n0 c0, .slice a1 n1 c1, .int .i64 d.fuse, .bool d.down] 24)) W) => unhide RD2 W [g, w.heap.size] ((Turn.of_below bA).trans t) (by have := (unhide R1).lt; have := unhide HG; simp; omega))
  have XA := hide ((unhide X2).up bA)
  have BA := hide ((unhide B2).trans (bA.mono (unhide B2).size))
  have RA := hide ((unhide R2).up bA)
  have YA := hide (boxF_new4 w2 (.slice a0 n0 c0) (.slice a1 n1 c1) (.int .i64 d.fuse) (.bool d.down) 24)
  have HGD := hide (show g < w2.heap.size from Nat.lt_of_lt_of_le (unhide R2).lt (unhide R2).size)
  clear bA R1 R2 X1 X2 B1 B2 RD2
  go_wp2_with fail
  generalize w2.alloc (.cells #[.slice a0 n0 c0, .slice a1 n1 c1, .int .i64 d.fuse, .bool d.down] 24) = W2 at *
  generalize w2.heap.size = gd at *
  have RD := hide ((unhide RA).up ((Below.refl _ _).drew))
  obtain ⟨⟨q0, q1, q2, q3⟩, q4, q5, q6, q7⟩ := (unhide YA).four
  go_region_with (first
    | (go_at_call 18
       refine (pick_rdy W0.heap.size g (0 + 1000) 40 w1 _ (by omega) (by omega) (by omega) (unhide RD)).mono ?_
       rintro e w3 ⟨k, rfl, hk, D3, T3⟩
       have Y3 := hide ((unhide YA).turn (w' := w3) ((Turn.of_below ((Below.refl W2.heap.size W2).drew)).trans (unhide T3)) (by have := unhide HGD; simp; omega))
       have X3 := hide ((unhide XA).turn (w' := w3) ((Turn.of_below ((Below.refl W2.heap.size W2).drew)).trans (unhide T3)) (by have := unhide HG; simp; omega))
       have TG := hide (Turn.trans (Turn.of_below (S := [g, w.heap.size]) ((Below.refl W2.heap.size W2).drew)) ((unhide T3).mono (fun k hk => .inl (by simp at hk; simp [hk]))))
       have B3 := hide (show Below w.heap.size w w3 from (unhide BA).trans (Turn.below (S := [g]) ((Turn.of_below ((Below.refl W2.heap.size W2).drew)).trans (unhide T3)) (unhide BA).size (by have := unhide HG; simp; omega)))
       obtain ⟨⟨x0, x1, x2, x3⟩, x4, x5, x6, x7⟩ := (unhide X3).four
       obtain ⟨⟨p0, p1, p2, p3⟩, p4, p5, p6, p7⟩ := (unhide Y3).four)
    | fail)
  all_goals
    have t4 := setR w3 w.heap.size (.slice a0 n0 c0) (.slice a1 n1 c1) (.int .i64 d.fuse) (.bool d.down)
    have DK4 := hide (unhide RDA _ ((unhide TG).trans (t4.mono (fun k hk => .inl (by simp at hk; simp [hk])))))
    have B4 := hide ((unhide B3).trans (t4.below (unhide B3).size (by simp)))
    have HW := hide (show IntKind.i64.wrap ((k : Int) - 1) = (k : Int) - 1 by rw [IntKind.wrap_i64]; omega)
    clear t4 TG RDA RD RA YA XA BA Y3 X3 T3 D3
    go_wp2_with fail
    refine bodyPost_ret (v := .tuple #[.agg #[.slice a0 n0 c0, .slice a1 n1 c1, .int .i64 d.fuse, .bool d.down], .int .i64 (IntKind.i64.wrap ((k : Int) - 1))]) (by simp [results, Try.results9, go_sem, x0, x1, x2, x3]) rfl ?_
    exact ⟨a0, n0, c0, a1, n1, c1, d, _, rfl, DK4, HF, hide (by rw [unhide HW]; omega), unhide B4⟩
set_option maxHeartbeats 6400000 in
theorem drawWrite_any (w : World) (a : Option Addr) (cap : Nat) (bs : List UInt8) (hl : bs.length ≤ maxLen) (hc : bs.length ≤ cap) (hb : ByIn w a bs) :
    Calls Try.prog 5 #[.slice a bs.length cap] w fun e w' => ∃ a0 n0 c0 a1 n1 c1, ∃ (d : DiskV) (ya : Option Addr) (yn yc : Nat) (ys : List UInt8), e = .returned (.tuple #[.agg #[.slice a0 n0 c0, .slice a1 n1 c1, .int .i64 d.fuse, .bool d.down], .slice ya yn yc]) ∧ Hid (DiskRd w' (.agg #[.slice a0 n0 c0, .slice a1 n1 c1, .int .i64 d.fuse, .bool d.down]) d) ∧ Hid (DkFit d) ∧ Hid (ByRd w' (.slice ya yn yc) ys) ∧ Hid (ys.length ≤ 39) ∧ Below w.heap.size w w' := by
  have b0 := (Below.refl w.heap.size w).alloc (Nat.le_refl _) (.cells #[.slice none 0 0, .slice none 0 0, .int .i64 0, .bool false] 24)
  have X0 := hide (boxF_new4 w (.slice none 0 0) (.slice none 0 0) (.int .i64 0) (.bool false) 24)
  have HO := hide (l1Open_any (w.alloc (.cells #[.slice none 0 0, .slice none 0 0, .int .i64 0, .bool false] 24)) a bs.length cap hl hc (bytesIn_of' (hb.up b0)))
  have B0 := hide b0
  have Z0 := hide (show (w.alloc (.cells #[.slice none 0 0, .slice none 0 0, .int .i64 0, .bool false] 24)).heap.size = w.heap.size + 1 by simp)
  clear b0 hb hl hc
  go_enter Try.func5, Try.ntmps5
  go_wp2_with fail
  generalize w.alloc (.cells #[.slice none 0 0, .slice none 0 0, .int .i64 0, .bool false] 24) = W0 at *
  refine (unhide HO).mono ?_
  rintro e w1 ⟨g, rfl, hr1, ht1⟩
  have hbl : Below W0.heap.size W0 w1 := ht1.below (Nat.le_refl _) (by simp)
  have X1 := hide ((unhide X0).up hbl)
  have B1 := hide ((unhide B0).trans (hbl.mono (unhide B0).size))
  have HG := hide (show w.heap.size < g from by have := hr1.above; have := unhide Z0; omega)
  have R1 := hide (Rdy.refl hr1 (Nat.le_refl 0))
  have HBS := hide (show w.heap.size ≤ W0.heap.size from (unhide B0).size)
  clear hr1 ht1 hbl X0 B0 HO
  go_wp2_with fail
  refine (l32Disk_any W0.heap.size g 0 w1 w1 (by omega) (unhide R1)).mono ?_
  rintro e w2 ⟨a0, n0, c0, a1, n1, c1, d, rfl, RD2, HF, R2⟩
  have X2 := hide ((unhide X1).turn (unhide R2).turn (by have := unhide HG; simp; omega))
  have B2 := hide ((unhide B1).trans ((unhide R2).below (unhide B1).size (unhide HBS)))
  have bA := (Below.refl w2.heap.size w2).alloc (Nat.le_refl _) (.cells #[.slice a0 n0 c0, .slice a1 n1 c1, .int .i64 d.fuse, .bool d.down] 24)
  have RDA := hide (fun W (t : Turn [g, w.heap.size] (w2.alloc (.cells #[.slice a0 n0 c0, .slice a1 n1 c1, .int .i64 d.fuse, .bool d.down] 24)) W) => unhide RD2 W [g, w.heap.size] ((Turn.of_below bA).trans t) (by have := (unhide R1).lt; have := unhide HG; simp; omega))
  have XA := hide ((unhide X2).up bA)
  have BA := hide ((unhide B2).trans (bA.mono (unhide B2).size))
  have RA := hide ((unhide R2).up bA)
  have YA := hide (boxF_new4 w2 (.slice a0 n0 c0) (.slice a1 n1 c1) (.int .i64 d.fuse) (.bool d.down) 24)
  have HGD := hide (show g < w2.heap.size from Nat.lt_of_lt_of_le (unhide R2).lt (unhide R2).size)
  clear bA R1 R2 X1 X2 B1 B2 RD2
  go_wp2_with fail
  generalize w2.alloc (.cells #[.slice a0 n0 c0, .slice a1 n1 c1, .int .i64 d.fuse, .bool d.down] 24) = W2 at *
  generalize w2.heap.size = gd at *
  have RD := hide ((unhide RA).up ((Below.refl _ _).drew))
  obtain ⟨⟨q0, q1, q2, q3⟩, q4, q5, q6, q7⟩ := (unhide YA).four
  go_region_with (first
    | (go_at_call 18
       refine (pick_rdy W0.heap.size g (0 + 1000) 40 w1 _ (by omega) (by omega) (by omega) (unhide RD)).mono ?_
       rintro e w3 ⟨k, rfl, hk, D3, T3⟩
       have Y3 := hide ((unhide YA).turn (w' := w3) ((Turn.of_below ((Below.refl W2.heap.size W2).drew)).trans (unhide T3)) (by have := unhide HGD; simp; omega))
       have X3 := hide ((unhide XA).turn (w' := w3) ((Turn.of_below ((Below.refl W2.heap.size W2).drew)).trans (unhide T3)) (by have := unhide HG; simp; omega))
       have TG := hide (Turn.trans (Turn.of_below (S := [g, w.heap.size]) ((Below.refl W2.heap.size W2).drew)) ((unhide T3).mono (fun k hk => .inl (by simp at hk; simp [hk]))))
       have B3 := hide (show Below w.heap.size w w3 from (unhide BA).trans (Turn.below (S := [g]) ((Turn.of_below ((Below.refl W2.heap.size W2).drew)).trans (unhide T3)) (unhide BA).size (by have := unhide HG; simp; omega)))
       obtain ⟨⟨p0, p1, p2, p3⟩, p4, p5, p6, p7⟩ := (unhide Y3).four)
    | (go_at_call 17
       have _t := TG
       refine (l32Raw_any W0.heap.size g (0 + 1000 + 1) k w3 w3 (by omega) (by omega) (unhide D3).self).mono ?_
       rintro e w4 ⟨ya, yc, ys, rfl, RY, hy, D4, Z4⟩
       have HY := hide hy
       clear hy
       have Y4 := hide ((unhide Y3).turn (unhide D4).turn (by have := unhide HGD; simp; omega))
       have X4 := hide ((unhide X3).turn (unhide D4).turn (by have := unhide HG; simp; omega))
       have B4 := hide ((unhide B3).trans ((unhide D4).turn.below (unhide B3).size (by have := unhide HG; simp; omega)))
       have TG4 := hide ((unhide TG).trans ((unhide D4).turn.mono (fun k hk => .inl (by simp at hk; simp [hk]))))
       have HB3 := hide (show w.heap.size < w3.heap.size from (unhide X3).1.1)
       clear p0 p1 p2 p3 p4 p5 p6 p7
       obtain ⟨⟨x0, x1, x2, x3⟩, x4, x5, x6, x7⟩ := (unhide X4).four
       obtain ⟨⟨p0, p1, p2, p3⟩, p4, p5, p6, p7⟩ := (unhide Y4).four)
    | fail)
  all_goals
    have t4 := setR w4 w.heap.size (.slice a0 n0 c0) (.slice a1 n1 c1) (.int .i64 d.fuse) (.bool d.down)
    have DK5 := hide (unhide RDA _ ((unhide TG4).trans (t4.mono (fun k hk => .inl (by simp at hk; simp [hk])))))
    have B5 := hide ((unhide B4).trans (t4.below (unhide B4).size (by simp)))
    have RY5 := hide ((unhide RY).turn t4 (fun q hq hm => by have := (unhide RY).ge q hq; have := unhide HB3; simp at hm; omega)).rd
    clear t4 TG RDA RD RA YA XA BA Y3 X3 T3 D3
    go_wp2_with fail
    refine bodyPost_ret (v := .tuple #[.agg #[.slice a0 n0 c0, .slice a1 n1 c1, .int .i64 d.fuse, .bool d.down], .slice ya k yc]) (by simp [results, Try.results5, go_sem, x0, x1, x2, x3]) rfl ?_
    exact ⟨a0, n0, c0, a1, n1, c1, d, ya, k, yc, ys, rfl, DK5, HF, RY5, hide (by have := unhide HY; omega), unhide B5⟩
end Go.Proofs.Ytbbaiabcapbdoaa
