/-
  DiskWrite of the specification, at no bytes, and at any.
-/
import Derived.Test.YtbbaiabcapbdoaaSpecWrite
set_option linter.unusedVariables false
namespace Go.Proofs.Ytbbaiabcapbdoaa
open Go.RowKit Go.Maps Go.Deep

set_option maxHeartbeats 6400000 in
theorem specWrite_none (d : DiskV) (v : Value) (ab : Option Addr) (eb : Nat) (w : World) (hs : SmallDisk d) (h : DiskRd w v d) : Calls Try.prog 7 #[v, .slice ab 0 eb] w fun e w' => RetDiskI (wrV d []) (wrI d []) w e w' := by
  have HK := hide (fun W (b : Below w.heap.size w W) => specDiskOk_any d v W ⟨by have := hs.1; unfold maxLen; omega, by have := hs.2; unfold maxLen; omega⟩ (h.up b))
  have HCP := hide (fun W (b : Below w.heap.size w W) => l6Copy_any d _ W hs (h.up b))
  obtain ⟨v0, v1, rfl, h0, h1⟩ := h
  obtain ⟨p0, p2, rfl⟩ := h0.len
  obtain ⟨p3, p5, rfl⟩ := h1.len
  clear h0 h1 hs
  have X0 := hide ((boxF_new4 w (.slice p0 d.safe.length p2) (.slice p3 d.soft.length p5) (.int .i64 d.fuse) (.bool d.down) 24).up ((Below.refl _ _).alloc (Nat.le_refl _) (.cells #[.slice none 0 0, .slice none 0 0, .int .i64 0, .bool false] 24)))
  have Y0 := hide (boxF_new4 (w.alloc (.cells #[.slice p0 d.safe.length p2, .slice p3 d.soft.length p5, .int .i64 d.fuse, .bool d.down] 24)) (.slice none 0 0) (.slice none 0 0) (.int .i64 0) (.bool false) 24)
  cases hok : diskOkB d
  · rw [show wrV d [] = noDisk by simp [wrV, hok], show wrI d [] = 1 by simp [wrI, hok]]
    have NW := hide (show ∀ w1, Below w.heap.size w w1 → ∀ W, Turn [w.heap.size + 1] w1 W → RetDiskI noDisk 1 w (.returned (.tuple #[.agg #[.slice none 0 0, .slice none 0 0, .int .i64 0, .bool false], .int .i64 1])) W from fun w1 b1 W ht => retDiskI_no (b1.trans (ht.below b1.size (fun k hk => by simp at hk; omega))))
    rw [hok] at HK
    clear hok HCP
    go_enter Try.func7, Try.ntmps7
    go_wp2_with fail
    refine (unhide HK _ (by go_grown)).mono ?_
    rintro e w1 ⟨rfl, b1⟩
    have Y1 := hide (show BoxF w1 (w.heap.size + 1) [.slice none 0 0, .slice none 0 0, .int .i64 0, .bool false] by simpa using (unhide Y0).up b1)
    have B1 := hide (show Below w.heap.size w w1 from Below.trans (by go_grown) (b1.mono (by simp; omega)))
    clear b1 X0 Y0
    obtain ⟨⟨y0, y1, y2, y3⟩, j0, j1, j2, j3⟩ := (unhide Y1).four
    go_wp2_with fail
    refine bodyPost_ret (v := .tuple #[.agg #[.slice none 0 0, .slice none 0 0, .int .i64 0, .bool false], .int .i64 1]) (by simp [results, Try.results7, go_sem, y0, y1, y2, y3]) rfl ?_
    exact unhide NW w1 (unhide B1) _ (((((Turn.refl _ _).setCell (g := w.heap.size + 1) (by simp) _ _).setCell (g := w.heap.size + 1) (by simp) _ _).setCell (g := w.heap.size + 1) (by simp) _ _).setCell (g := w.heap.size + 1) (by simp) _ _)
  · rw [show wrV d [] = wrOut d [] by simp [wrV, hok], show wrI d [] = wrCode d [] by simp [wrI, hok]]
    rw [hok] at HK
    have hsm := disk_small hok
    obtain ⟨hf1, hf2⟩ := diskOk_fuse hok
    clear hok
    obtain ⟨xs, ys, fs, dn⟩ := d
    simp only at hsm hf1 hf2 HK HCP X0 Y0 ⊢
    have hs1 : (xs.length : Int) ≤ 8000 := by omega
    have hs2 : (ys.length : Int) ≤ 8000 := by omega
    cases dn
    · have HE := hide (show wrCode ⟨xs, ys, fs, false⟩ [] = 0 ∧ wrOut ⟨xs, ys, fs, false⟩ [] = ⟨xs, ys, fs, false⟩ by
        have hb : ¬ 8000 < xs.length + ys.length := by omega
        simp [wrCode, wrOut, hb, actC, actD, goneB, atD_zero]
        intro h1 h2
        omega)
      rw [(unhide HE).1, (unhide HE).2]
      have hg : (0 : Int) ≤ (8000 : Int) - (xs.length : Int) - (ys.length : Int) := by omega
      have hg2 : ¬ (8000 : Int) - (xs.length : Int) - (ys.length : Int) < 0 := by omega
      clear hsm HE hf1 hf2
      go_enter Try.func7, Try.ntmps7
      go_wp2_with fail
      refine (unhide HK _ (by go_grown)).mono ?_
      rintro e w1 ⟨rfl, b1⟩
      have X1 := hide ((unhide X0).up b1)
      have Y1 := hide (show BoxF w1 (w.heap.size + 1) [.slice none 0 0, .slice none 0 0, .int .i64 0, .bool false] by simpa using (unhide Y0).up b1)
      have B1 := hide (show Below w.heap.size w w1 from Below.trans (by go_grown) (b1.mono (by simp; omega)))
      clear b1 X0 Y0
      obtain ⟨⟨x0, x1, x2, x3⟩, f0, f1, f2, f3⟩ := (unhide X1).four
      go_wp2_with fail
      refine (unhide HCP _ (unhide B1)).mono ?_
      rintro e w2 ⟨v0, v1, rfl, T2, b2⟩
      simp only at T2
      obtain ⟨a0, c0, rfl⟩ := T2.1.slice
      obtain ⟨a1, c1, rfl⟩ := T2.2.1.slice
      have HZ1 := hide (show w.heap.size + 1 < w1.heap.size from (unhide Y1).1.1)
      have hz2 := b2.size
      have bA : Below w2.heap.size w2 (w2.alloc (.cells #[.slice a0 xs.length c0, .slice a1 ys.length c1, .int .i64 fs, .bool false] 24)) := (Below.refl _ _).alloc (Nat.le_refl _) _
      have DR := hide (show Drive w1.heap.size (w2.alloc (.cells #[.slice a0 xs.length c0, .slice a1 ys.length c1, .int .i64 fs, .bool false] 24)) w2.heap.size (.slice a0 xs.length c0) (.slice a1 ys.length c1) ⟨xs, ys, fs, false⟩ from drive_new (d := ⟨xs, ys, fs, false⟩) T2 hz2 24)
      have X2 := hide (((unhide X1).up b2).up bA)
      have Y2 := hide (((unhide Y1).up b2).up bA)
      have B2 := hide (((unhide B1).trans (b2.mono (unhide B1).size)).trans (bA.mono (((unhide B1).trans (b2.mono (unhide B1).size)).size)))
      have HZW := hide (show w1.heap.size ≤ (w2.alloc (.cells #[.slice a0 xs.length c0, .slice a1 ys.length c1, .int .i64 fs, .bool false] 24)).heap.size by simp; omega)
      clear b2 T2 x0 x1 x2 x3 f0 f1 f2 f3 X1 Y1 hz2 bA HK HCP
      obtain ⟨⟨x0, x1, x2, x3⟩, f0, f1, f2, f3⟩ := (unhide X2).four
      obtain ⟨⟨y0, y1, y2, y3⟩, j0, j1, j2, j3⟩ := (unhide Y2).four
      have c0' := (unhide DR).c0
      have c1' := (unhide DR).c1
      have c2' := (unhide DR).c2
      have c3' := (unhide DR).c3
      simp only at c2' c3'
      have KEY := hide (fun W ht => ret_drive (b := 0) (W := W) (unhide DR) (unhide HZ1) (unhide B2) ht)
      simp only at KEY
      go_wp2_with fail
      refine wp_loop_rounds 1 ?_
      rw [rounds_succ]
      go_wp2_with fail
      refine bodyPost_ret (v := .tuple #[.agg #[.slice a0 xs.length c0, .slice a1 ys.length c1, .int .i64 fs, .bool false], .int .i64 0]) (by simp [results, Try.results7, go_sem, y0, y1, y2, y3]) rfl ?_
      exact unhide KEY _ (((((Turn.refl [w.heap.size + 1] _).setCell (g := w.heap.size + 1) (by simp) _ _).setCell (g := w.heap.size + 1) (by simp) _ _).setCell (g := w.heap.size + 1) (by simp) _ _).setCell (g := w.heap.size + 1) (by simp) _ _)
    · rw [show wrCode ⟨xs, ys, fs, true⟩ [] = 2 by simp [wrCode], show wrOut ⟨xs, ys, fs, true⟩ [] = ⟨xs, ys, fs, true⟩ by simp [wrOut]]
      clear hsm hf1 hf2
      go_enter Try.func7, Try.ntmps7
      go_wp2_with fail
      refine (unhide HK _ (by go_grown)).mono ?_
      rintro e w1 ⟨rfl, b1⟩
      have X1 := hide ((unhide X0).up b1)
      have Y1 := hide (show BoxF w1 (w.heap.size + 1) [.slice none 0 0, .slice none 0 0, .int .i64 0, .bool false] by simpa using (unhide Y0).up b1)
      have B1 := hide (show Below w.heap.size w w1 from Below.trans (by go_grown) (b1.mono (by simp; omega)))
      clear b1 X0 Y0
      obtain ⟨⟨x0, x1, x2, x3⟩, f0, f1, f2, f3⟩ := (unhide X1).four
      go_wp2_with fail
      refine (unhide HCP _ (unhide B1)).mono ?_
      rintro e w2 ⟨v0, v1, rfl, T2, b2⟩
      simp only at T2
      obtain ⟨a0, c0, rfl⟩ := T2.1.slice
      obtain ⟨a1, c1, rfl⟩ := T2.2.1.slice
      have HZ1 := hide (show w.heap.size + 1 < w1.heap.size from (unhide Y1).1.1)
      have hz2 := b2.size
      have bA : Below w2.heap.size w2 (w2.alloc (.cells #[.slice a0 xs.length c0, .slice a1 ys.length c1, .int .i64 fs, .bool true] 24)) := (Below.refl _ _).alloc (Nat.le_refl _) _
      have DR := hide (show Drive w1.heap.size (w2.alloc (.cells #[.slice a0 xs.length c0, .slice a1 ys.length c1, .int .i64 fs, .bool true] 24)) w2.heap.size (.slice a0 xs.length c0) (.slice a1 ys.length c1) ⟨xs, ys, fs, true⟩ from drive_new (d := ⟨xs, ys, fs, true⟩) T2 hz2 24)
      have X2 := hide (((unhide X1).up b2).up bA)
      have Y2 := hide (((unhide Y1).up b2).up bA)
      have B2 := hide (((unhide B1).trans (b2.mono (unhide B1).size)).trans (bA.mono (((unhide B1).trans (b2.mono (unhide B1).size)).size)))
      have HZW := hide (show w1.heap.size ≤ (w2.alloc (.cells #[.slice a0 xs.length c0, .slice a1 ys.length c1, .int .i64 fs, .bool true] 24)).heap.size by simp; omega)
      clear b2 T2 x0 x1 x2 x3 f0 f1 f2 f3 X1 Y1 hz2 bA HK HCP
      obtain ⟨⟨x0, x1, x2, x3⟩, f0, f1, f2, f3⟩ := (unhide X2).four
      obtain ⟨⟨y0, y1, y2, y3⟩, j0, j1, j2, j3⟩ := (unhide Y2).four
      have c0' := (unhide DR).c0
      have c1' := (unhide DR).c1
      have c2' := (unhide DR).c2
      have c3' := (unhide DR).c3
      simp only at c2' c3'
      have KEY := hide (fun W ht => ret_drive (b := 2) (W := W) (unhide DR) (unhide HZ1) (unhide B2) ht)
      simp only at KEY
      go_wp2_with fail
      refine bodyPost_ret (v := .tuple #[.agg #[.slice a0 xs.length c0, .slice a1 ys.length c1, .int .i64 fs, .bool true], .int .i64 2]) (by simp [results, Try.results7, go_sem, y0, y1, y2, y3]) rfl ?_
      exact unhide KEY _ (((((Turn.refl [w.heap.size + 1] _).setCell (g := w.heap.size + 1) (by simp) _ _).setCell (g := w.heap.size + 1) (by simp) _ _).setCell (g := w.heap.size + 1) (by simp) _ _).setCell (g := w.heap.size + 1) (by simp) _ _)
theorem specWrite_any (d : DiskV) (v : Value) (bs : List UInt8) (vb : Value) (w : World) (hs : SmallDisk d) (hbl : bs.length ≤ 2000000) (h : DiskRd w v d) (hb : ByRd w vb bs) : Calls Try.prog 7 #[v, vb] w fun e w' => RetDiskI (wrV d bs) (wrI d bs) w e w' := by
  obtain ⟨a, cap, rfl, hb, _⟩ := hb
  rcases hb with rfl | ⟨rb, off, rfl, hlt, hc⟩
  · exact specWrite_none d v a cap w hs h
  · exact specWrite_row d v bs rb off cap w hs hbl h hlt hc
theorem small_wrV {d : DiskV} {bs : List UInt8} (h : SmallDisk d) : SmallDisk (wrV d bs) := by
  unfold wrV
  split
  · rename_i hb
    have := disk_small (d := d) hb
    unfold wrOut
    split
    · exact h
    · split
      · exact h
      · unfold actD
        split
        · simp only [SmallDisk, fellD, atD, List.length_append, List.length_take, List.length_nil]
          omega
        · simp only [SmallDisk, atD, List.length_append, List.length_take]
          omega
  · simp [SmallDisk, noDisk]
end Go.Proofs.Ytbbaiabcapbdoaa
