/-
  DiskWrite of the specification.
-/
import Derived.Test.YtddmomcanakoiaaSpecBurn
import Derived.Test.YtddmomcanakoiaaMerged25
set_option linter.unusedVariables false
namespace Go.Proofs.Ytddmomcanakoiaa
open Go.RowKit Go.Maps Go.Deep

theorem Drive.put4 {B : Nat} {w : World} {g : Nat} {v0 v1 u0 u1 : Value} {D E : DiskV} (h : Drive B w g v0 v1 D) (T : TwoRows B w u0 u1 E.safe E.soft) (n0 : ∀ k, u0.ownBlock = some k → k ≠ g) (n1 : ∀ k, u1.ownBlock = some k → k ≠ g) :
    Drive B ((((w.setCell ⟨g, 0, none⟩ u0).setCell ⟨g, 1, none⟩ u1).setCell ⟨g, 2, none⟩ (.int .i64 E.fuse)).setCell ⟨g, 3, none⟩ (.bool E.down)) g u0 u1 E ∧ Turn [g] w ((((w.setCell ⟨g, 0, none⟩ u0).setCell ⟨g, 1, none⟩ u1).setCell ⟨g, 2, none⟩ (.int .i64 E.fuse)).setCell ⟨g, 3, none⟩ (.bool E.down)) := by
  obtain ⟨h0, h1, h2, h3, hfr, ht⟩ := fill4 w g u0 u1 (.int .i64 E.fuse) (.bool E.down) (fun i hi => match i, hi with | 0, _ => ⟨_, h.c0⟩ | 1, _ => ⟨_, h.c1⟩ | 2, _ => ⟨_, h.c2⟩ | 3, _ => ⟨_, h.c3⟩)
  exact ⟨⟨h.le, Nat.lt_of_lt_of_le h.lt ht.size, h0, h1, h2, h3, fun i hi => (hfr i).trans (h.soft i hi), T.1.turn ht (fun k hk hm => n0 k hk (by simpa using hm)), T.2.1.turn ht (fun k hk hm => n1 k hk (by simpa using hm)), n0, n1, T.2.2⟩, ht⟩
theorem Drive.rdV {B : Nat} {w : World} {g : Nat} {v0 v1 : Value} {D : DiskV} (h : Drive B w g v0 v1 D) : DiskRd w (.agg #[v0, v1, .int .i64 D.fuse, .bool D.down]) D := ⟨_, _, rfl, h.r0.rd, h.r1.rd⟩
/-- from a disk of one's own in a block to what is handed back -/
theorem ret_drive {res : DiskV} {b : Int} {B g : Nat} {w w4 W : World} {v0 v1 : Value} (D : Drive B w4 g v0 v1 res) (hB : w.heap.size + 1 < B) (bw : Below w.heap.size w w4) (ht : Turn [w.heap.size + 1] w4 W) : RetDiskI res b w (.returned (.tuple #[.agg #[v0, v1, .int .i64 res.fuse, .bool res.down], .int .i64 b])) W :=
  retDiskI_two (B := B) (TwoRows.turn ⟨D.r0, D.r1, D.n01⟩ ht (fun k hk => by simp at hk; omega)) (by omega) (bw.trans (ht.below bw.size (fun k hk => by simp at hk; omega)))
theorem ret_two {res : DiskV} {b : Int} {B : Nat} {w w4 W : World} {v0 v1 : Value} (T : TwoRows B w4 v0 v1 res.safe res.soft) (hB : w.heap.size + 1 < B) (bw : Below w.heap.size w w4) (ht : Turn [w.heap.size + 1] w4 W) : RetDiskI res b w (.returned (.tuple #[.agg #[v0, v1, .int .i64 res.fuse, .bool res.down], .int .i64 b])) W :=
  retDiskI_two (B := B) (TwoRows.turn T ht (fun k hk => by simp at hk; omega)) (by omega) (bw.trans (ht.below bw.size (fun k hk => by simp at hk; omega)))
set_option maxHeartbeats 6400000 in
theorem specWrite_row (d : DiskV) (v : Value) (bs : List UInt8) (rb off eb : Nat) (w : World) (hs : SmallDisk d) (hbl : bs.length ≤ 2000000) (h : DiskRd w v d) (hrb : rb < w.heap.size) (hc : ByAt w rb off bs) : Calls Try.prog 40 #[v, .slice (some ⟨rb, off, none⟩) bs.length eb] w fun e w' => RetDiskI (wrV d bs) (wrI d bs) w e w' := by
  have HK := hide (fun W (b : Below w.heap.size w W) => specDiskOk_any d v W ⟨by have := hs.1; unfold maxLen; omega, by have := hs.2; unfold maxLen; omega⟩ (h.up b))
  have HCP := hide (fun W (b : Below w.heap.size w W) => l6Copy_any d _ W hs (h.up b))
  have HC := hide (show ∀ X, Below w.heap.size w X → ByAt X rb off bs from fun X b i hi => (b.cell (by exact hrb)).trans (hc i hi))
  obtain ⟨v0, v1, rfl, h0, h1⟩ := h
  obtain ⟨p0, p2, rfl⟩ := h0.len
  obtain ⟨p3, p5, rfl⟩ := h1.len
  clear h0 h1 hc hs
  have X0 := hide ((boxF_new4 w (.slice p0 d.safe.length p2) (.slice p3 d.soft.length p5) (.int .i64 d.fuse) (.bool d.down) 35).up ((Below.refl _ _).alloc (Nat.le_refl _) (.cells #[.slice none 0 0, .slice none 0 0, .int .i64 0, .bool false] 35)))
  have Y0 := hide (boxF_new4 (w.alloc (.cells #[.slice p0 d.safe.length p2, .slice p3 d.soft.length p5, .int .i64 d.fuse, .bool d.down] 35)) (.slice none 0 0) (.slice none 0 0) (.int .i64 0) (.bool false) 35)
  cases hok : diskOkB d
  · rw [show wrV d bs = noDisk by simp [wrV, hok], show wrI d bs = 1 by simp [wrI, hok]]
    have NW := hide (show ∀ w1, Below w.heap.size w w1 → ∀ W, Turn [w.heap.size + 1] w1 W → RetDiskI noDisk 1 w (.returned (.tuple #[.agg #[.slice none 0 0, .slice none 0 0, .int .i64 0, .bool false], .int .i64 1])) W from fun w1 b1 W ht => retDiskI_no (b1.trans (ht.below b1.size (fun k hk => by simp at hk; omega))))
    rw [hok] at HK
    clear hok hbl HCP
    generalize bs.length = nb at *
    go_enter Try.func40, Try.ntmps40
    go_wp2_with fail
    refine (unhide HK _ (by go_grown)).mono ?_
    rintro e w1 ⟨rfl, b1⟩
    have Y1 := hide (show BoxF w1 (w.heap.size + 1) [.slice none 0 0, .slice none 0 0, .int .i64 0, .bool false] by simpa using (unhide Y0).up b1)
    have B1 := hide (show Below w.heap.size w w1 from Below.trans (by go_grown) (b1.mono (by simp; omega)))
    clear b1 X0 Y0
    obtain ⟨⟨y0, y1, y2, y3⟩, j0, j1, j2, j3⟩ := (unhide Y1).four
    go_wp2_with fail
    refine bodyPost_ret (v := .tuple #[.agg #[.slice none 0 0, .slice none 0 0, .int .i64 0, .bool false], .int .i64 1]) (by simp [results, Try.results40, go_sem, y0, y1, y2, y3]) rfl ?_
    exact unhide NW w1 (unhide B1) _ (((((Turn.refl _ _).setCell (g := w.heap.size + 1) (by simp) _ _).setCell (g := w.heap.size + 1) (by simp) _ _).setCell (g := w.heap.size + 1) (by simp) _ _).setCell (g := w.heap.size + 1) (by simp) _ _)
  · rw [show wrV d bs = wrOut d bs by simp [wrV, hok], show wrI d bs = wrCode d bs by simp [wrI, hok]]
    rw [hok] at HK
    have hsm := disk_small hok
    obtain ⟨hf1, hf2⟩ := diskOk_fuse hok
    clear hok
    obtain ⟨xs, ys, fs, dn⟩ := d
    simp only at hsm hf1 hf2 HK HCP X0 Y0 ⊢
    have hs1 : (xs.length : Int) ≤ 8000 := by omega
    have hs2 : (ys.length : Int) ≤ 8000 := by omega
    have hs3 : (bs.length : Int) ≤ 2000000 := by omega
    cases dn
    · by_cases hbig : 8000 < xs.length + ys.length + bs.length
      · have HE := hide (show wrCode ⟨xs, ys, fs, false⟩ bs = 3 ∧ wrOut ⟨xs, ys, fs, false⟩ bs = ⟨xs, ys, fs, false⟩ by simp [wrCode, wrOut, hbig])
        rw [(unhide HE).1, (unhide HE).2]
        have hg : (8000 : Int) - (xs.length : Int) - (ys.length : Int) < (bs.length : Int) := by omega
        clear hbig hbl hsm HE hf1 hf2 HC
        go_enter Try.func40, Try.ntmps40
        go_wp2_with fail
        refine (unhide HK _ (by go_grown)).mono ?_
        rintro e w1 ⟨rfl, b1⟩
        have X1 := hide ((unhide X0).up b1)
        have Y1 := hide (show BoxF w1 (w.heap.size + 1) [.slice none 0 0, .slice none 0 0, .int .i64 0, .bool false] by simpa using (unhide Y0).up b1)
        have B1 := hide (show Below w.heap.size w w1 from Below.trans (by go_grown) (b1.mono (by simp; omega)))
        clear b1 X0 Y0
        obtain ⟨⟨x0, x1, x2, x3⟩, f0, f1, f2, f3⟩ := (unhide X1).four
        go_wp2_with fail
        refine (unhide HCP _ (unhide B1)).mono ?_
        rintro e w2 ⟨v0, v1, rfl, T2, b2⟩
        simp only at T2
        obtain ⟨a0, c0, rfl⟩ := T2.1.slice
        obtain ⟨a1, c1, rfl⟩ := T2.2.1.slice
        have HZ1 := hide (show w.heap.size + 1 < w1.heap.size from (unhide Y1).1.1)
        have hz2 := b2.size
        have bA : Below w2.heap.size w2 (w2.alloc (.cells #[.slice a0 xs.length c0, .slice a1 ys.length c1, .int .i64 fs, .bool false] 35)) := (Below.refl _ _).alloc (Nat.le_refl _) _
        have DR := hide (show Drive w1.heap.size (w2.alloc (.cells #[.slice a0 xs.length c0, .slice a1 ys.length c1, .int .i64 fs, .bool false] 35)) w2.heap.size (.slice a0 xs.length c0) (.slice a1 ys.length c1) ⟨xs, ys, fs, false⟩ from drive_new (d := ⟨xs, ys, fs, false⟩) T2 hz2 35)
        have X2 := hide (((unhide X1).up b2).up bA)
        have Y2 := hide (((unhide Y1).up b2).up bA)
        have B2 := hide (((unhide B1).trans (b2.mono (unhide B1).size)).trans (bA.mono (((unhide B1).trans (b2.mono (unhide B1).size)).size)))
        have HZW := hide (show w1.heap.size ≤ (w2.alloc (.cells #[.slice a0 xs.length c0, .slice a1 ys.length c1, .int .i64 fs, .bool false] 35)).heap.size by simp; omega)
        clear b2 T2 x0 x1 x2 x3 f0 f1 f2 f3 X1 Y1 hz2 bA HK HCP
        obtain ⟨⟨x0, x1, x2, x3⟩, f0, f1, f2, f3⟩ := (unhide X2).four
        obtain ⟨⟨y0, y1, y2, y3⟩, j0, j1, j2, j3⟩ := (unhide Y2).four
        have c0' := (unhide DR).c0
        have c1' := (unhide DR).c1
        have c2' := (unhide DR).c2
        have c3' := (unhide DR).c3
        simp only at c2' c3'
        have KEY := hide (fun W ht => ret_drive (b := 3) (W := W) (unhide DR) (unhide HZ1) (unhide B2) ht)
        simp only at KEY
        go_wp2_with fail
        refine bodyPost_ret (v := .tuple #[.agg #[.slice a0 xs.length c0, .slice a1 ys.length c1, .int .i64 fs, .bool false], .int .i64 3]) (by simp [results, Try.results40, go_sem, y0, y1, y2, y3]) rfl ?_
        exact unhide KEY _ (((((Turn.refl [w.heap.size + 1] _).setCell (g := w.heap.size + 1) (by simp) _ _).setCell (g := w.heap.size + 1) (by simp) _ _).setCell (g := w.heap.size + 1) (by simp) _ _).setCell (g := w.heap.size + 1) (by simp) _ _)
      · have HE := hide (show wrCode ⟨xs, ys, fs, false⟩ bs = actC ⟨xs, ys, fs, false⟩ bs ∧ wrOut ⟨xs, ys, fs, false⟩ bs = actD ⟨xs, ys, fs, false⟩ bs by simp [wrCode, wrOut, hbig])
        rw [(unhide HE).1, (unhide HE).2]
        have hg : ¬ (8000 : Int) - (xs.length : Int) - (ys.length : Int) < (bs.length : Int) := by omega
        have HLL := hide (show xs.length + ys.length + bs.length ≤ 8000 by omega)
        clear hbig hbl hsm HE
        generalize hD : (⟨xs, ys, fs, false⟩ : DiskV) = D
        have HDD := hide hD
        have hl : D.safe.length + D.soft.length + bs.length ≤ 8000 := by rw [← hD]; exact unhide HLL
        have hf1' : -1 ≤ D.fuse := by rw [← hD]; exact hf1
        have hf2' : D.fuse ≤ 400 := by rw [← hD]; exact hf2
        have HQ := hide (And.intro hl (And.intro hf1' hf2'))
        clear hD hl hf1' hf2'
        go_enter Try.func40, Try.ntmps40
        go_wp2_with fail
        refine (unhide HK _ (by go_grown)).mono ?_
        rintro e w1 ⟨rfl, b1⟩
        have X1 := hide ((unhide X0).up b1)
        have Y1 := hide (show BoxF w1 (w.heap.size + 1) [.slice none 0 0, .slice none 0 0, .int .i64 0, .bool false] by simpa using (unhide Y0).up b1)
        have B1 := hide (show Below w.heap.size w w1 from Below.trans (by go_grown) (b1.mono (by simp; omega)))
        clear b1 X0 Y0
        obtain ⟨⟨x0, x1, x2, x3⟩, f0, f1, f2, f3⟩ := (unhide X1).four
        go_wp2_with fail
        refine (unhide HCP _ (unhide B1)).mono ?_
        rintro e w2 ⟨v0, v1, rfl, T2, b2⟩
        simp only at T2
        obtain ⟨a0, c0, rfl⟩ := T2.1.slice
        obtain ⟨a1, c1, rfl⟩ := T2.2.1.slice
        have HZ1 := hide (show w.heap.size + 1 < w1.heap.size from (unhide Y1).1.1)
        have hz2 := b2.size
        have bA : Below w2.heap.size w2 (w2.alloc (.cells #[.slice a0 xs.length c0, .slice a1 ys.length c1, .int .i64 fs, .bool false] 35)) := (Below.refl _ _).alloc (Nat.le_refl _) _
        have DR := hide (show Drive w1.heap.size (w2.alloc (.cells #[.slice a0 xs.length c0, .slice a1 ys.length c1, .int .i64 fs, .bool false] 35)) w2.heap.size (.slice a0 xs.length c0) (.slice a1 ys.length c1) ⟨xs, ys, fs, false⟩ from drive_new (d := ⟨xs, ys, fs, false⟩) T2 hz2 35)
        have X2 := hide (((unhide X1).up b2).up bA)
        have Y2 := hide (((unhide Y1).up b2).up bA)
        have B2 := hide (((unhide B1).trans (b2.mono (unhide B1).size)).trans (bA.mono (((unhide B1).trans (b2.mono (unhide B1).size)).size)))
        have HZW := hide (show w1.heap.size ≤ (w2.alloc (.cells #[.slice a0 xs.length c0, .slice a1 ys.length c1, .int .i64 fs, .bool false] 35)).heap.size by simp; omega)
        clear b2 T2 x0 x1 x2 x3 f0 f1 f2 f3 X1 Y1 hz2 bA HK HCP
        obtain ⟨⟨x0, x1, x2, x3⟩, f0, f1, f2, f3⟩ := (unhide X2).four
        obtain ⟨⟨y0, y1, y2, y3⟩, j0, j1, j2, j3⟩ := (unhide Y2).four
        have c0' := (unhide DR).c0
        have c1' := (unhide DR).c1
        have c2' := (unhide DR).c2
        have c3' := (unhide DR).c3
        simp only at c2' c3'
        go_wp2_with fail
        generalize (w2.alloc (.cells #[.slice a0 xs.length c0, .slice a1 ys.length c1, .int .i64 fs, .bool false] 35)) = W2 at *
        clear x0 x1 x2 x3 f0 f1 f2 f3 y0 y1 y2 y3 j0 j1 j2 j3 c0' c1' c2' c3' X2
        rw [unhide HDD] at DR
        obtain ⟨hl, hf1', hf2'⟩ := unhide HQ
        clear hg hs1 hs2 hf1 hf2 HLL HDD HQ
        generalize hO : w2.heap.size = ob at *
        generalize hBB : w1.heap.size = B at *
        clear hO hBB
        go_loopw [7] (fun i wr => ∃ (k : Nat) (v0 v1 : Value), k ≤ bs.length ∧ i = .int .i64 k ∧ Hid (D.fuse < 0 ∨ (k : Int) ≤ D.fuse) ∧ Hid (Drive B wr ob v0 v1 (atD D bs k)) ∧ Hid (Below B W2 wr)) (fun i _ => bs.length - (intOf i).toNat)
        case atStart => exact ⟨0, _, _, Nat.zero_le _, rfl, by by_cases h : D.fuse < 0; exact .inl h; exact .inr (by omega), by rw [atD_zero]; exact DR, Below.refl _ _⟩
        case round =>
          obtain ⟨k, v0, v1, hk, rfl, HF, HD, HB⟩ := hrel
          obtain ⟨a0, e0, rfl⟩ := (unhide HD).r0.slice
          obtain ⟨a1, e1, rfl⟩ := (unhide HD).r1.slice
          have HZB := hide (show w.heap.size + 1 < B from unhide HZ1)
          have HBW := hide (show Below w.heap.size w wr from (unhide B2).trans ((unhide HB).mono (by have := unhide HZ1; omega)))
          have YR := hide ((unhide Y2).below (unhide HB) (unhide HZ1))
          have d0 := (unhide HD).c0
          have d1 := (unhide HD).c1
          have d2 := (unhide HD).c2
          have d3 := (unhide HD).c3
          have g0 := (unhide HD).soft 0 (by omega)
          have g1 := (unhide HD).soft 1 (by omega)
          have g2 := (unhide HD).soft 2 (by omega)
          have g3 := (unhide HD).soft 3 (by omega)
          by_cases hlt : k < bs.length
          · have c0 := unhide HC wr (unhide HBW) k hlt
            have hf := fz_range hf1' hf2' (unhide HF)
            have hx0 := UInt8.toNat_lt bs[k]
            have HBN := hide (l6Burn_any (atD D bs k) _ wr (by simp only [SmallDisk, atD, List.length_append, List.length_take]; omega) (unhide HD).rdV hf.1 hf.2)
            by_cases hz : fz D.fuse k = 0
            · have HE := hide (show goneB D bs = true ∧ D.fuse.toNat = k by
                have := unhide HF
                unfold fz at hz
                split at hz
                · omega
                · simp [goneB]; omega)
              have EQ := hide (show actC D bs = 2 ∧ actD D bs = fellD (atD D bs k) from ⟨by simp [actC, (unhide HE).1], by simp [actD, (unhide HE).1, (unhide HE).2]⟩)
              rw [show burnD (atD D bs k) = fellD (atD D bs k) by simp only [burnD]; exact if_pos hz, show burnB (atD D bs k) = false by simp only [burnB]; simp; exact hz] at HBN
              generalize fellD (atD D bs k) = F at *
              generalize (atD D bs k).safe.length = n0 at *
              generalize (atD D bs k).soft.length = n1 at *
              generalize (atD D bs k).fuse = ff at *
              generalize (atD D bs k).down = dd at *
              generalize bs[k].toNat = x at *
              clear hz HF
              go_wp2_with fail
              refine (unhide HBN).mono ?_
              rintro e w3 ⟨b0, m0, q0, b1, m1, q1, rfl, T3, b3⟩
              have bA : Below w3.heap.size w3 (w3.alloc (.cells #[.slice b0 m0 q0, .slice b1 m1 q1, .int .i64 F.fuse, .bool F.down] 35)) := (Below.refl _ _).alloc (Nat.le_refl _) _
              have Y3 := hide (((unhide YR).up b3).up bA)
              have B3 := hide (((unhide HBW).trans (b3.mono (unhide HBW).size)).trans (bA.mono ((unhide HBW).trans (b3.mono (unhide HBW).size)).size))
              have N3 := hide (boxF_new4 w3 (.slice b0 m0 q0) (.slice b1 m1 q1) (.int .i64 F.fuse) (.bool F.down) 35)
              have T4 := hide (show TwoRows wr.heap.size (w3.alloc (.cells #[.slice b0 m0 q0, .slice b1 m1 q1, .int .i64 F.fuse, .bool F.down] 35)) (.slice b0 m0 q0) (.slice b1 m1 q1) F.safe F.soft from ⟨(unhide T3).1.up bA, (unhide T3).2.1.up bA, (unhide T3).2.2⟩)
              have KEY := hide (show ∀ W, Turn [w.heap.size + 1] (w3.alloc (.cells #[.slice b0 m0 q0, .slice b1 m1 q1, .int .i64 F.fuse, .bool F.down] 35)) W → RetDiskI (actD D bs) (actC D bs) w (.returned (.tuple #[.agg #[.slice b0 m0 q0, .slice b1 m1 q1, .int .i64 F.fuse, .bool F.down], .int .i64 2])) W from fun W ht => by rw [(unhide EQ).1, (unhide EQ).2]; exact ret_two (b := 2) (W := W) (res := F) (unhide T4) (show w.heap.size + 1 < wr.heap.size from (unhide YR).1.1) (unhide B3) ht)
              clear b3 bA d0 d1 d2 d3 g0 g1 g2 g3 HBN c0
              obtain ⟨⟨y0, y1, y2, y3⟩, j0, j1, j2, j3⟩ := (unhide Y3).four
              obtain ⟨⟨z0, z1, z2, z3⟩, k0, k1, k2, k3⟩ := (unhide N3).four
              go_wp2_with fail
              refine bodyPost_ret (v := .tuple #[.agg #[.slice b0 m0 q0, .slice b1 m1 q1, .int .i64 F.fuse, .bool F.down], .int .i64 2]) (by simp [results, Try.results40, go_sem, y0, y1, y2, y3]) rfl ?_
              exact unhide KEY _ (((((Turn.refl [w.heap.size + 1] _).setCell (g := w.heap.size + 1) (by simp) _ _).setCell (g := w.heap.size + 1) (by simp) _ _).setCell (g := w.heap.size + 1) (by simp) _ _).setCell (g := w.heap.size + 1) (by simp) _ _)
            · rw [show burnD (atD D bs k) = ⟨(atD D bs k).safe, (atD D bs k).soft, burnI (atD D bs k).fuse, (atD D bs k).down⟩ by simp only [burnD]; exact if_neg hz, show burnB (atD D bs k) = true by simp only [burnB]; simp; exact hz] at HBN
              have HN := hide (atD_next hlt (unhide HF) hz)
              have CW := hide (fun W => byCellW W bs[k])
              have HS := hide (show ∀ X, Below B W2 X → X.cell? ⟨rb, off + k, none⟩ = some (.int .u8 (bs[k].toNat : Int)) from fun X b => unhide HC X ((unhide B2).trans (b.mono (by have := unhide HZ1; omega))) k hlt)
              have HL := hide (show (atD D bs k).soft.length + [bs[k]].length ≤ 140737488355328 by simp [atD]; omega)
              have HD' := hide (show ∀ X, Below wr.heap.size wr X → Drive B X ob (.slice a0 (atD D bs k).safe.length e0) (.slice a1 (atD D bs k).soft.length e1) (atD D bs k) from fun X b => (unhide HD).up b)
              generalize hcx : bs[k] = cx at *
              have hcx2 : cx.toNat < 256 := UInt8.toNat_lt cx
              generalize hx : cx.toNat = x at *
              clear hcx hz hf hx0
              go_wp2_with fail
              refine (unhide HBN).mono ?_
              rintro e w3 ⟨b0, m0, q0, b1, m1, q1, rfl, T3, b3⟩
              have bA : Below w3.heap.size w3 (w3.alloc (.cells #[.slice b0 m0 q0, .slice b1 m1 q1, .int .i64 (burnI (atD D bs k).fuse), .bool (atD D bs k).down] 35)) := (Below.refl _ _).alloc (Nat.le_refl _) _
              have bB := b3.trans (bA.mono b3.size)
              have hob := (unhide HD).lt
              have hBr : B ≤ wr.heap.size := Nat.le_trans (unhide HZW) (unhide HB).size
              have N3 := hide (boxF_new4 w3 (.slice b0 m0 q0) (.slice b1 m1 q1) (.int .i64 (burnI (atD D bs k).fuse)) (.bool (atD D bs k).down) 35)
              have D3 := hide (unhide HD' _ bB)
              have P4 := hide (Drive.put4 (E := ⟨(atD D bs k).safe, (atD D bs k).soft, burnI (atD D bs k).fuse, (atD D bs k).down⟩) (unhide D3) (show TwoRows B _ (.slice b0 m0 q0) (.slice b1 m1 q1) (atD D bs k).safe (atD D bs k).soft from ⟨((unhide T3).1.up bA).mono hBr, ((unhide T3).2.1.up bA).mono hBr, (unhide T3).2.2⟩) (fun y hy => by have := (unhide T3).1.ge y hy; omega) (fun y hy => by have := (unhide T3).2.1.ge y hy; omega))
              have HB4 := hide ((unhide HB).trans ((bB.mono hBr).trans ((unhide P4).2.below (Nat.le_trans hBr bB.size) (by simpa using (unhide HD).le))))
              have HZ4 := hide (Nat.le_trans (Nat.le_trans hBr bB.size) (unhide P4).2.size)
              simp only at P4 HB4 HZ4
              clear d0 d1 d2 d3 g0 g1 g2 g3 b3 bA bB hob hBr HBN c0
              have d0 := (unhide D3).c0
              have d1 := (unhide D3).c1
              have d2 := (unhide D3).c2
              have d3 := (unhide D3).c3
              have g0 := (unhide D3).soft 0 (by omega)
              have g1 := (unhide D3).soft 1 (by omega)
              have g2 := (unhide D3).soft 2 (by omega)
              have g3 := (unhide D3).soft 3 (by omega)
              obtain ⟨⟨z0, z1, z2, z3⟩, k0, k1, k2, k3⟩ := (unhide N3).four
              go_wp2_with fail
              clear z0 z1 z2 z3 k0 k1 k2 k3 d0 d1 d2 d3 g0 g1 g2 g3 N3 D3 HD HD' T3
              generalize ((((w3.alloc (.cells #[.slice b0 m0 q0, .slice b1 m1 q1, .int .i64 (burnI (atD D bs k).fuse), .bool (atD D bs k).down] 35)).setCell ⟨ob, 0, none⟩ (.slice b0 m0 q0)).setCell ⟨ob, 1, none⟩ (.slice b1 m1 q1)).setCell ⟨ob, 2, none⟩ (.int .i64 (burnI (atD D bs k).fuse))).setCell ⟨ob, 3, none⟩ (.bool (atD D bs k).down) = W4 at *
              have DW := hide (show Drive B W4.drew ob (.slice b0 m0 q0) (.slice b1 m1 q1) ⟨(atD D bs k).safe, (atD D bs k).soft, burnI (atD D bs k).fuse, (atD D bs k).down⟩ from let D := (unhide P4).1; ⟨D.le, D.lt, D.c0, D.c1, D.c2, D.c3, D.soft, D.r0.keep (fun _ _ => rfl), D.r1.keep (fun _ _ => rfl), D.n0, D.n1, D.n01⟩)
              have BW := hide (show Below B W2 W4.drew from (unhide HB4).drew)
              have hzW := hide (show B ≤ W4.drew.heap.size from unhide HZ4)
              have hS := unhide HS W4.drew (unhide BW)
              refine wp_region_held_drew (S := fun X : World => X.cell? ⟨rb, off + k, none⟩ = some (.int .u8 (x : Int))) (by kernel_rfl) hS ?_
              clear hS
              intro hS
              generalize W4.drew = W at *
              have p1 := (unhide DW).c1
              have bA : Below W.heap.size W (W.alloc (.cells #[.int .u8 (x : Int)] 5)) := (Below.refl _ _).alloc (Nat.le_refl _) _
              have DA := hide ((unhide DW).up bA)
              have BA := hide ((unhide BW).alloc (unhide hzW) (.cells #[.int .u8 (x : Int)] 5))
              have pA := (unhide DA).c1
              have hSA := unhide HS _ (unhide BA)
              have HBA := hide (show B ≤ (W.alloc (.cells #[.int .u8 (x : Int)] 5)).heap.size from Nat.le_trans (unhide hzW) bA.size)
              have HGS := hide (show ∀ y ∈ gs ob (.slice b1 m1 q1), B ≤ y from fun y hy => by
                simp only [gs, List.mem_cons, Option.mem_toList] at hy
                rcases hy with rfl | hy
                · exact (unhide DA).le
                · exact (unhide DA).r1.ge y hy)
              clear bA
              refine wpAnyH_take (i := 0) (v := .pointer (some ⟨ob, 1, none⟩)) rfl (by kernel_rfl) (by kernel_rfl) (by kernel_rfl) (fun _ _ _ h => h) (Or.inl ⟨by rfl, ?_⟩) hS ?_
              · intro X hX
                clear hS
                go_simp
                try with_reducible rfl
              try simp [Act.put]
              refine wpAnyH_take (i := 2) (v := .slice (some ⟨rb, off, none⟩) bs.length eb) rfl (by kernel_rfl) (by kernel_rfl) (by kernel_rfl) (fun _ _ _ h => h) (Or.inl ⟨by rfl, ?_⟩) hS ?_
              · intro X hX
                clear hS
                go_simp
                try with_reducible rfl
              try simp [Act.put]
              refine wpAnyH_take (i := 3) (v := .int .i64 (k : Int)) rfl (by kernel_rfl) (by kernel_rfl) (by kernel_rfl) (fun _ _ _ h => h) (Or.inl ⟨by rfl, ?_⟩) hS ?_
              · intro X hX
                clear hS
                go_simp
                try with_reducible rfl
              try simp [Act.put]
              refine wpAnyH_take (i := 4) (v := .pointer (some ⟨rb, off + k, none⟩)) rfl (by kernel_rfl) (by kernel_rfl) (by kernel_rfl) (fun _ _ _ h => h) (Or.inl ⟨by rfl, ?_⟩) hS ?_
              · intro X hX
                clear hS
                go_simp
                try with_reducible rfl
              try simp [Act.put]
              refine wpAnyH_take (i := 5) (v := .int .u8 (x : Int)) rfl (by kernel_rfl) (by kernel_rfl) (by kernel_rfl) (fun _ _ _ h => h) (Or.inl ⟨by rfl, ?_⟩) hS ?_
              · intro X hX
                clear hS
                go_simp
                try with_reducible rfl
              try simp [Act.put]
              refine wpAnyH_ready (rs := [1, 6]) (by kernel_rfl) (by simp) ?_
              refine AllReadyH.cons rfl (fun K hK => ?_) (AllReadyH.cons rfl (fun K hK => ?_) AllReadyH.nil)
              · go_simp
                refine hK.out _ _ (hS) ?_
                clear hK K
                intro hS
                try simp [Act.put]
                refine wpAnyH_ready (rs := [6]) (by kernel_rfl) (by simp) ?_
                refine AllReadyH.cons rfl (fun K hK => ?_) AllReadyH.nil
                go_simp
                refine hK.out _ _ (hSA) ?_
                clear hK K
                intro hS
                try simp [Act.put]
                refine wpAnyH_ready (rs := [7]) (by kernel_rfl) (by simp) ?_
                refine AllReadyH.cons rfl (fun K hK => ?_) AllReadyH.nil
                refine step_byAppend (by rfl) (.tmp 47) (.tmp 52) (by rfl) B (.slice b1 m1 q1) (.slice (some ⟨W.heap.size, 0, none⟩) 1 1) (atD D bs k).soft [cx] (by rfl) (by rfl) (unhide DA).r1 (unhide CW W) (unhide HL) (unhide HBA) ?_
                intro a2 n2 c2 w5 r2 g2 o2
                have GP := hide (Drive.grow (unhide DA) g2 r2 o2)
                have B5 := hide ((unhide BA).trans ((Turn.of_grown (S := gs ob (.slice b1 m1 q1)) g2 (fun y hy => .inl (gs_own hy))).below (unhide HBA) (unhide HGS)))
                have B6 := hide ((unhide BA).trans ((unhide GP).2.below (unhide HBA) (unhide HGS)))
                have hb : w5.heap[ob]? = (W.alloc (.cells #[.int .u8 (x : Int)] 5)).heap[ob]? := g2.block ob (unhide DA).lt (fun e => (unhide DA).n1 ob e.symm rfl)
                have k1 : w5.cell? ⟨ob, 1, none⟩ = some (.slice b1 m1 q1) := (World.cell?_of_block (w := (W.alloc (.cells #[.int .u8 (x : Int)] 5))) (a := ⟨ob, 1, none⟩) hb).trans pA
                have k2 : w5.frozen? ⟨ob, 1, none⟩ = false := (World.frozen?_of_block (w := (W.alloc (.cells #[.int .u8 (x : Int)] 5))) (a := ⟨ob, 1, none⟩) hb).trans ((unhide DA).soft 1 (by omega))
                refine hK.out _ _ (unhide HS w5 (unhide B5)) ?_
                clear hK K r2 g2 o2 hb
                intro hS
                try simp [Act.put]
                refine wpAnyH_ready (rs := [8]) (by kernel_rfl) (by simp) ?_
                refine AllReadyH.cons rfl (fun K hK => ?_) AllReadyH.nil
                go_simp
                refine hK.out _ _ (hS) ?_
                clear hK K
                intro hS
                try simp [Act.put]
                refine wpAnyH_ready (rs := [9]) (by kernel_rfl) (by simp) ?_
                refine AllReadyH.cons rfl (fun K hK => ?_) AllReadyH.nil
                go_simp
                refine hK.out _ _ (unhide HS _ (unhide B6)) ?_
                clear hK K
                intro hS
                try simp [Act.put]
                refine wpAnyH_done (by kernel_rfl) ?_ _
                clear p1 pA hSA k1 k2 hS
                have HF2 := hide (unhide HN).2
                have HD2 := hide (show Drive B (w5.setCell ⟨ob, 1, none⟩ (.slice a2 n2 c2)) ob (.slice b0 m0 q0) (.slice a2 n2 c2) (atD D bs (k + 1)) by rw [← (unhide HN).1]; exact (unhide GP).1)
                generalize w5.setCell ⟨ob, 1, none⟩ (.slice a2 n2 c2) = W6 at *
                go_wp2_with fail
                go_roundw
                case rel => exact ⟨k + 1, .slice b0 m0 q0, .slice a2 n2 c2, by omega, by go_num, HF2, HD2, B6⟩
                case measure => simp [intOf]; omega
              · go_simp
                refine hK.out _ _ (hSA) ?_
                clear hK K
                intro hS
                try simp [Act.put]
                refine wpAnyH_ready (rs := [1]) (by kernel_rfl) (by simp) ?_
                refine AllReadyH.cons rfl (fun K hK => ?_) AllReadyH.nil
                go_simp
                refine hK.out _ _ (hS) ?_
                clear hK K
                intro hS
                try simp [Act.put]
                refine wpAnyH_ready (rs := [7]) (by kernel_rfl) (by simp) ?_
                refine AllReadyH.cons rfl (fun K hK => ?_) AllReadyH.nil
                refine step_byAppend (by rfl) (.tmp 47) (.tmp 52) (by rfl) B (.slice b1 m1 q1) (.slice (some ⟨W.heap.size, 0, none⟩) 1 1) (atD D bs k).soft [cx] (by rfl) (by rfl) (unhide DA).r1 (unhide CW W) (unhide HL) (unhide HBA) ?_
                intro a2 n2 c2 w5 r2 g2 o2
                have GP := hide (Drive.grow (unhide DA) g2 r2 o2)
                have B5 := hide ((unhide BA).trans ((Turn.of_grown (S := gs ob (.slice b1 m1 q1)) g2 (fun y hy => .inl (gs_own hy))).below (unhide HBA) (unhide HGS)))
                have B6 := hide ((unhide BA).trans ((unhide GP).2.below (unhide HBA) (unhide HGS)))
                have hb : w5.heap[ob]? = (W.alloc (.cells #[.int .u8 (x : Int)] 5)).heap[ob]? := g2.block ob (unhide DA).lt (fun e => (unhide DA).n1 ob e.symm rfl)
                have k1 : w5.cell? ⟨ob, 1, none⟩ = some (.slice b1 m1 q1) := (World.cell?_of_block (w := (W.alloc (.cells #[.int .u8 (x : Int)] 5))) (a := ⟨ob, 1, none⟩) hb).trans pA
                have k2 : w5.frozen? ⟨ob, 1, none⟩ = false := (World.frozen?_of_block (w := (W.alloc (.cells #[.int .u8 (x : Int)] 5))) (a := ⟨ob, 1, none⟩) hb).trans ((unhide DA).soft 1 (by omega))
                refine hK.out _ _ (unhide HS w5 (unhide B5)) ?_
                clear hK K r2 g2 o2 hb
                intro hS
                try simp [Act.put]
                refine wpAnyH_ready (rs := [8]) (by kernel_rfl) (by simp) ?_
                refine AllReadyH.cons rfl (fun K hK => ?_) AllReadyH.nil
                go_simp
                refine hK.out _ _ (hS) ?_
                clear hK K
                intro hS
                try simp [Act.put]
                refine wpAnyH_ready (rs := [9]) (by kernel_rfl) (by simp) ?_
                refine AllReadyH.cons rfl (fun K hK => ?_) AllReadyH.nil
                go_simp
                refine hK.out _ _ (unhide HS _ (unhide B6)) ?_
                clear hK K
                intro hS
                try simp [Act.put]
                refine wpAnyH_done (by kernel_rfl) ?_ _
                clear p1 pA hSA k1 k2 hS
                have HF2 := hide (unhide HN).2
                have HD2 := hide (show Drive B (w5.setCell ⟨ob, 1, none⟩ (.slice a2 n2 c2)) ob (.slice b0 m0 q0) (.slice a2 n2 c2) (atD D bs (k + 1)) by rw [← (unhide HN).1]; exact (unhide GP).1)
                generalize w5.setCell ⟨ob, 1, none⟩ (.slice a2 n2 c2) = W6 at *
                go_wp2_with fail
                go_roundw
                case rel => exact ⟨k + 1, .slice b0 m0 q0, .slice a2 n2 c2, by omega, by go_num, HF2, HD2, B6⟩
                case measure => simp [intOf]; omega
          · have hke : k = bs.length := by omega
            have HE := hide (show goneB D bs = false by
              have := unhide HF
              simp [goneB]; omega)
            have EQ := hide (show actC D bs = 0 ∧ actD D bs = atD D bs k from ⟨by simp [actC, unhide HE], by simp [actD, unhide HE, hke]⟩)
            have KEY := hide (show ∀ W, Turn [w.heap.size + 1] wr W → RetDiskI (actD D bs) (actC D bs) w (.returned (.tuple #[.agg #[.slice a0 (atD D bs k).safe.length e0, .slice a1 (atD D bs k).soft.length e1, .int .i64 (atD D bs k).fuse, .bool (atD D bs k).down], .int .i64 0])) W from fun W ht => by rw [(unhide EQ).1, (unhide EQ).2]; exact ret_drive (b := 0) (W := W) (unhide HD) (unhide HZB) (unhide HBW) ht)
            clear EQ
            clear hke HF
            generalize atD D bs k = E at *
            generalize E.safe.length = n0 at *
            generalize E.soft.length = n1 at *
            generalize E.fuse = ff at *
            generalize E.down = dd at *
            obtain ⟨⟨y0, y1, y2, y3⟩, j0, j1, j2, j3⟩ := (unhide YR).four
            go_wp2_with fail
            refine bodyPost_ret (v := .tuple #[.agg #[.slice a0 n0 e0, .slice a1 n1 e1, .int .i64 ff, .bool dd], .int .i64 0]) (by simp [results, Try.results40, go_sem, y0, y1, y2, y3]) rfl ?_
            exact unhide KEY _ (((((Turn.refl [w.heap.size + 1] wr).setCell (g := w.heap.size + 1) (by simp) _ _).setCell (g := w.heap.size + 1) (by simp) _ _).setCell (g := w.heap.size + 1) (by simp) _ _).setCell (g := w.heap.size + 1) (by simp) _ _)
    · rw [show wrCode ⟨xs, ys, fs, true⟩ bs = 2 by simp [wrCode], show wrOut ⟨xs, ys, fs, true⟩ bs = ⟨xs, ys, fs, true⟩ by simp [wrOut]]
      clear hbl hsm hf1 hf2 HC
      go_enter Try.func40, Try.ntmps40
      go_wp2_with fail
      refine (unhide HK _ (by go_grown)).mono ?_
      rintro e w1 ⟨rfl, b1⟩
      have X1 := hide ((unhide X0).up b1)
      have Y1 := hide (show BoxF w1 (w.heap.size + 1) [.slice none 0 0, .slice none 0 0, .int .i64 0, .bool false] by simpa using (unhide Y0).up b1)
      have B1 := hide (show Below w.heap.size w w1 from Below.trans (by go_grown) (b1.mono (by simp; omega)))
      clear b1 X0 Y0
      obtain ⟨⟨x0, x1, x2, x3⟩, f0, f1, f2, f3⟩ := (unhide X1).four
      go_wp2_with fail
      refine (unhide HCP _ (unhide B1)).mono ?_
      rintro e w2 ⟨v0, v1, rfl, T2, b2⟩
      simp only at T2
      obtain ⟨a0, c0, rfl⟩ := T2.1.slice
      obtain ⟨a1, c1, rfl⟩ := T2.2.1.slice
      have HZ1 := hide (show w.heap.size + 1 < w1.heap.size from (unhide Y1).1.1)
      have hz2 := b2.size
      have bA : Below w2.heap.size w2 (w2.alloc (.cells #[.slice a0 xs.length c0, .slice a1 ys.length c1, .int .i64 fs, .bool true] 35)) := (Below.refl _ _).alloc (Nat.le_refl _) _
      have DR := hide (show Drive w1.heap.size (w2.alloc (.cells #[.slice a0 xs.length c0, .slice a1 ys.length c1, .int .i64 fs, .bool true] 35)) w2.heap.size (.slice a0 xs.length c0) (.slice a1 ys.length c1) ⟨xs, ys, fs, true⟩ from drive_new (d := ⟨xs, ys, fs, true⟩) T2 hz2 35)
      have X2 := hide (((unhide X1).up b2).up bA)
      have Y2 := hide (((unhide Y1).up b2).up bA)
      have B2 := hide (((unhide B1).trans (b2.mono (unhide B1).size)).trans (bA.mono (((unhide B1).trans (b2.mono (unhide B1).size)).size)))
      have HZW := hide (show w1.heap.size ≤ (w2.alloc (.cells #[.slice a0 xs.length c0, .slice a1 ys.length c1, .int .i64 fs, .bool true] 35)).heap.size by simp; omega)
      clear b2 T2 x0 x1 x2 x3 f0 f1 f2 f3 X1 Y1 hz2 bA HK HCP
      obtain ⟨⟨x0, x1, x2, x3⟩, f0, f1, f2, f3⟩ := (unhide X2).four
      obtain ⟨⟨y0, y1, y2, y3⟩, j0, j1, j2, j3⟩ := (unhide Y2).four
      have c0' := (unhide DR).c0
      have c1' := (unhide DR).c1
      have c2' := (unhide DR).c2
      have c3' := (unhide DR).c3
      simp only at c2' c3'
      have KEY := hide (fun W ht => ret_drive (b := 2) (W := W) (unhide DR) (unhide HZ1) (unhide B2) ht)
      simp only at KEY
      go_wp2_with fail
      refine bodyPost_ret (v := .tuple #[.agg #[.slice a0 xs.length c0, .slice a1 ys.length c1, .int .i64 fs, .bool true], .int .i64 2]) (by simp [results, Try.results40, go_sem, y0, y1, y2, y3]) rfl ?_
      exact unhide KEY _ (((((Turn.refl [w.heap.size + 1] _).setCell (g := w.heap.size + 1) (by simp) _ _).setCell (g := w.heap.size + 1) (by simp) _ _).setCell (g := w.heap.size + 1) (by simp) _ _).setCell (g := w.heap.size + 1) (by simp) _ _)
end Go.Proofs.Ytddmomcanakoiaa
