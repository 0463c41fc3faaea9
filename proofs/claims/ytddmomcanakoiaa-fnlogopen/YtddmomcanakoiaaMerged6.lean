/-
  DiskWrite of the specification, at no bytes, and at any.
-/
/-
  DiskSync of the program.
-/
/-
  A record put behind a log: what the disk is then.
-/
import Derived.Test.YtddmomcanakoiaaSpecWrite
import Derived.Test.YtddmomcanakoiaaMerged11
import Derived.Test.YtddmomcanakoiaaMerged16
set_option linter.unusedVariables false
namespace Go.Proofs.Ytddmomcanakoiaa
open Go.RowKit Go.Maps Go.Deep

set_option maxHeartbeats 6400000 in
theorem specWrite_none (d : DiskV) (v : Value) (ab : Option Addr) (eb : Nat) (w : World) (hs : SmallDisk d) (h : DiskRd w v d) : Calls Try.prog 40 #[v, .slice ab 0 eb] w fun e w' => RetDiskI (wrV d []) (wrI d []) w e w' := by
  have HK := hide (fun W (b : Below w.heap.size w W) => specDiskOk_any d v W ⟨by have := hs.1; unfold maxLen; omega, by have := hs.2; unfold maxLen; omega⟩ (h.up b))
  have HCP := hide (fun W (b : Below w.heap.size w W) => l6Copy_any d _ W hs (h.up b))
  obtain ⟨v0, v1, rfl, h0, h1⟩ := h
  obtain ⟨p0, p2, rfl⟩ := h0.len
  obtain ⟨p3, p5, rfl⟩ := h1.len
  clear h0 h1 hs
  have X0 := hide ((boxF_new4 w (.slice p0 d.safe.length p2) (.slice p3 d.soft.length p5) (.int .i64 d.fuse) (.bool d.down) 35).up ((Below.refl _ _).alloc (Nat.le_refl _) (.cells #[.slice none 0 0, .slice none 0 0, .int .i64 0, .bool false] 35)))
  have Y0 := hide (boxF_new4 (w.alloc (.cells #[.slice p0 d.safe.length p2, .slice p3 d.soft.length p5, .int .i64 d.fuse, .bool d.down] 35)) (.slice none 0 0) (.slice none 0 0) (.int .i64 0) (.bool false) 35)
  cases hok : diskOkB d
  · rw [show wrV d [] = noDisk by simp [wrV, hok], show wrI d [] = 1 by simp [wrI, hok]]
    have NW := hide (show ∀ w1, Below w.heap.size w w1 → ∀ W, Turn [w.heap.size + 1] w1 W → RetDiskI noDisk 1 w (.returned (.tuple #[.agg #[.slice none 0 0, .slice none 0 0, .int .i64 0, .bool false], .int .i64 1])) W from fun w1 b1 W ht => retDiskI_no (b1.trans (ht.below b1.size (fun k hk => by simp at hk; omega))))
    rw [hok] at HK
    clear hok HCP
    go_enter Try.func40, Try.ntmps40
    go_wp2_with fail
    refine (unhide HK _ (by go_grown)).mono ?_
    rintro e w1 ⟨rfl, b1⟩
    have Y1 := hide (show BoxF w1 (w.heap.size + 1) [.slice none 0 0, .slice none 0 0, .int .i64 0, .bool false] by simpa using (unhide Y0).up b1)
    have B1 := hide (show Below w.heap.size w w1 from Below.trans (by go_grown) (b1.mono (by simp; omega)))
    clear b1 X0 Y0
    obtain ⟨⟨y0, y1, y2, y3⟩, j0, j1, j2, j3⟩ := (unhide Y1).four
    go_wp2_with fail
    refine bodyPost_ret (v := .tuple #[.agg #[.slice none 0 0, .slice none 0 0, .int .i64 0, .bool false], .int .i64 1]) (by simp [results, Try.results40, go_sem, y0, y1, y2, y3]) rfl ?_
    exact unhide NW w1 (unhide B1) _ (((((Turn.refl _ _).setCell (g := w.heap.size + 1) (by simp) _ _).setCell (g := w.heap.size + 1) (by simp) _ _).setCell (g := w.heap.size + 1) (by simp) _ _).setCell (g := w.heap.size + 1) (by simp) _ _)
  · rw [show wrV d [] = wrOut d [] by simp [wrV, hok], show wrI d [] = wrCode d [] by simp [wrI, hok]]
    rw [hok] at HK
    have hsm := disk_small hok
    obtain ⟨hf1, hf2⟩ := diskOk_fuse hok
    clear hok
    obtain ⟨xs, ys, fs, dn⟩ := d
    simp only at hsm hf1 hf2 HK HCP X0 Y0 ⊢
    have hs1 : (xs.length : Int) ≤ 8000 := by omega
    have hs2 : (ys.length : Int) ≤ 8000 := by omega
    cases dn
    · have HE := hide (show wrCode ⟨xs, ys, fs, false⟩ [] = 0 ∧ wrOut ⟨xs, ys, fs, false⟩ [] = ⟨xs, ys, fs, false⟩ by
        have hb : ¬ 8000 < xs.length + ys.length := by omega
        simp [wrCode, wrOut, hb, actC, actD, goneB, atD_zero]
        intro h1 h2
        omega)
      rw [(unhide HE).1, (unhide HE).2]
      have hg : (0 : Int) ≤ (8000 : Int) - (xs.length : Int) - (ys.length : Int) := by omega
      have hg2 : ¬ (8000 : Int) - (xs.length : Int) - (ys.length : Int) < 0 := by omega
      clear hsm HE hf1 hf2
      go_enter Try.func40, Try.ntmps40
      go_wp2_with fail
      refine (unhide HK _ (by go_grown)).mono ?_
      rintro e w1 ⟨rfl, b1⟩
      have X1 := hide ((unhide X0).up b1)
      have Y1 := hide (show BoxF w1 (w.heap.size + 1) [.slice none 0 0, .slice none 0 0, .int .i64 0, .bool false] by simpa using (unhide Y0).up b1)
      have B1 := hide (show Below w.heap.size w w1 from Below.trans (by go_grown) (b1.mono (by simp; omega)))
      clear b1 X0 Y0
      obtain ⟨⟨x0, x1, x2, x3⟩, f0, f1, f2, f3⟩ := (unhide X1).four
      go_wp2_with fail
      refine (unhide HCP _ (unhide B1)).mono ?_
      rintro e w2 ⟨v0, v1, rfl, T2, b2⟩
      simp only at T2
      obtain ⟨a0, c0, rfl⟩ := T2.1.slice
      obtain ⟨a1, c1, rfl⟩ := T2.2.1.slice
      have HZ1 := hide (show w.heap.size + 1 < w1.heap.size from (unhide Y1).1.1)
      have hz2 := b2.size
      have bA : Below w2.heap.size w2 (w2.alloc (.cells #[.slice a0 xs.length c0, .slice a1 ys.length c1, .int .i64 fs, .bool false] 35)) := (Below.refl _ _).alloc (Nat.le_refl _) _
      have DR := hide (show Drive w1.heap.size (w2.alloc (.cells #[.slice a0 xs.length c0, .slice a1 ys.length c1, .int .i64 fs, .bool false] 35)) w2.heap.size (.slice a0 xs.length c0) (.slice a1 ys.length c1) ⟨xs, ys, fs, false⟩ from drive_new (d := ⟨xs, ys, fs, false⟩) T2 hz2 35)
      have X2 := hide (((unhide X1).up b2).up bA)
      have Y2 := hide (((unhide Y1).up b2).up bA)
      have B2 := hide (((unhide B1).trans (b2.mono (unhide B1).size)).trans (bA.mono (((unhide B1).trans (b2.mono (unhide B1).size)).size)))
      have HZW := hide (show w1.heap.size ≤ (w2.alloc (.cells #[.slice a0 xs.length c0, .slice a1 ys.length c1, .int .i64 fs, .bool false] 35)).heap.size by simp; omega)
      clear b2 T2 x0 x1 x2 x3 f0 f1 f2 f3 X1 Y1 hz2 bA HK HCP
      obtain ⟨⟨x0, x1, x2, x3⟩, f0, f1, f2, f3⟩ := (unhide X2).four
      obtain ⟨⟨y0, y1, y2, y3⟩, j0, j1, j2, j3⟩ := (unhide Y2).four
      have c0' := (unhide DR).c0
      have c1' := (unhide DR).c1
      have c2' := (unhide DR).c2
      have c3' := (unhide DR).c3
      simp only at c2' c3'
      have KEY := hide (fun W ht => ret_drive (b := 0) (W := W) (unhide DR) (unhide HZ1) (unhide B2) ht)
      simp only at KEY
      go_wp2_with fail
      refine wp_loop_rounds 1 ?_
      rw [rounds_succ]
      go_wp2_with fail
      refine bodyPost_ret (v := .tuple #[.agg #[.slice a0 xs.length c0, .slice a1 ys.length c1, .int .i64 fs, .bool false], .int .i64 0]) (by simp [results, Try.results40, go_sem, y0, y1, y2, y3]) rfl ?_
      exact unhide KEY _ (((((Turn.refl [w.heap.size + 1] _).setCell (g := w.heap.size + 1) (by simp) _ _).setCell (g := w.heap.size + 1) (by simp) _ _).setCell (g := w.heap.size + 1) (by simp) _ _).setCell (g := w.heap.size + 1) (by simp) _ _)
    · rw [show wrCode ⟨xs, ys, fs, true⟩ [] = 2 by simp [wrCode], show wrOut ⟨xs, ys, fs, true⟩ [] = ⟨xs, ys, fs, true⟩ by simp [wrOut]]
      clear hsm hf1 hf2
      go_enter Try.func40, Try.ntmps40
      go_wp2_with fail
      refine (unhide HK _ (by go_grown)).mono ?_
      rintro e w1 ⟨rfl, b1⟩
      have X1 := hide ((unhide X0).up b1)
      have Y1 := hide (show BoxF w1 (w.heap.size + 1) [.slice none 0 0, .slice none 0 0, .int .i64 0, .bool false] by simpa using (unhide Y0).up b1)
      have B1 := hide (show Below w.heap.size w w1 from Below.trans (by go_grown) (b1.mono (by simp; omega)))
      clear b1 X0 Y0
      obtain ⟨⟨x0, x1, x2, x3⟩, f0, f1, f2, f3⟩ := (unhide X1).four
      go_wp2_with fail
      refine (unhide HCP _ (unhide B1)).mono ?_
      rintro e w2 ⟨v0, v1, rfl, T2, b2⟩
      simp only at T2
      obtain ⟨a0, c0, rfl⟩ := T2.1.slice
      obtain ⟨a1, c1, rfl⟩ := T2.2.1.slice
      have HZ1 := hide (show w.heap.size + 1 < w1.heap.size from (unhide Y1).1.1)
      have hz2 := b2.size
      have bA : Below w2.heap.size w2 (w2.alloc (.cells #[.slice a0 xs.length c0, .slice a1 ys.length c1, .int .i64 fs, .bool true] 35)) := (Below.refl _ _).alloc (Nat.le_refl _) _
      have DR := hide (show Drive w1.heap.size (w2.alloc (.cells #[.slice a0 xs.length c0, .slice a1 ys.length c1, .int .i64 fs, .bool true] 35)) w2.heap.size (.slice a0 xs.length c0) (.slice a1 ys.length c1) ⟨xs, ys, fs, true⟩ from drive_new (d := ⟨xs, ys, fs, true⟩) T2 hz2 35)
      have X2 := hide (((unhide X1).up b2).up bA)
      have Y2 := hide (((unhide Y1).up b2).up bA)
      have B2 := hide (((unhide B1).trans (b2.mono (unhide B1).size)).trans (bA.mono (((unhide B1).trans (b2.mono (unhide B1).size)).size)))
      have HZW := hide (show w1.heap.size ≤ (w2.alloc (.cells #[.slice a0 xs.length c0, .slice a1 ys.length c1, .int .i64 fs, .bool true] 35)).heap.size by simp; omega)
      clear b2 T2 x0 x1 x2 x3 f0 f1 f2 f3 X1 Y1 hz2 bA HK HCP
      obtain ⟨⟨x0, x1, x2, x3⟩, f0, f1, f2, f3⟩ := (unhide X2).four
      obtain ⟨⟨y0, y1, y2, y3⟩, j0, j1, j2, j3⟩ := (unhide Y2).four
      have c0' := (unhide DR).c0
      have c1' := (unhide DR).c1
      have c2' := (unhide DR).c2
      have c3' := (unhide DR).c3
      simp only at c2' c3'
      have KEY := hide (fun W ht => ret_drive (b := 2) (W := W) (unhide DR) (unhide HZ1) (unhide B2) ht)
      simp only at KEY
      go_wp2_with fail
      refine bodyPost_ret (v := .tuple #[.agg #[.slice a0 xs.length c0, .slice a1 ys.length c1, .int .i64 fs, .bool true], .int .i64 2]) (by simp [results, Try.results40, go_sem, y0, y1, y2, y3]) rfl ?_
      exact unhide KEY _ (((((Turn.refl [w.heap.size + 1] _).setCell (g := w.heap.size + 1) (by simp) _ _).setCell (g := w.heap.size + 1) (by simp) _ _).setCell (g := w.heap.size + 1) (by simp) _ _).setCell (g := w.heap.size + 1) (by simp) _ _)
theorem specWrite_any (d : DiskV) (v : Value) (bs : List UInt8) (vb : Value) (w : World) (hs : SmallDisk d) (hbl : bs.length ≤ 2000000) (h : DiskRd w v d) (hb : ByRd w vb bs) : Calls Try.prog 40 #[v, vb] w fun e w' => RetDiskI (wrV d bs) (wrI d bs) w e w' := by
  obtain ⟨a, cap, rfl, hb, _⟩ := hb
  rcases hb with rfl | ⟨rb, off, rfl, hlt, hc⟩
  · exact specWrite_none d v a cap w hs h
  · exact specWrite_row d v bs rb off cap w hs hbl h hlt hc
theorem small_wrV {d : DiskV} {bs : List UInt8} (h : SmallDisk d) : SmallDisk (wrV d bs) := by
  unfold wrV
  split
  · rename_i hb
    have := disk_small (d := d) hb
    unfold wrOut
    split
    · exact h
    · split
      · exact h
      · unfold actD
        split
        · simp only [SmallDisk, fellD, atD, List.length_append, List.length_take, List.length_nil]
          omega
        · simp only [SmallDisk, atD, List.length_append, List.length_take]
          omega
  · simp [SmallDisk, noDisk]
end Go.Proofs.Ytddmomcanakoiaa

set_option linter.unusedVariables false
namespace Go.Proofs.Ytddmomcanakoiaa
open Go.RowKit Go.Maps Go.Deep

def syncV (d : DiskV) : DiskV := if diskOkB d then cutOut d (d.safe.length + d.soft.length) else noDisk
def syncI (d : DiskV) : Int := if diskOkB d then cutCode d else 1
theorem sync_no {d : DiskV} (h : diskOkB d = false) : syncV d = noDisk ∧ syncI d = 1 := by simp [syncV, syncI, h]
set_option maxHeartbeats 3200000 in
theorem driveSync_any (B : Nat) (w : World) (g : Nat) (v0 v1 : Value) (d : DiskV) (hl : d.safe.length + d.soft.length ≤ 8000) (hB : B ≤ w.heap.size) (h : Drive B w g v0 v1 d) (hf1 : -1 ≤ d.fuse) (hf2 : d.fuse ≤ 400) :
    Calls Try.prog 60 #[.pointer (some ⟨g, 0, none⟩)] w fun e w' => RetCut B g d (d.safe.length + d.soft.length) w e w' := by
  have HD := hide h
  have c0 := h.c0
  have c1 := h.c1
  have c2 := h.c2
  have c3 := h.c3
  obtain ⟨a0, q0, rfl⟩ := h.r0.slice
  obtain ⟨a1, q1, rfl⟩ := h.r1.slice
  clear h
  go_enter Try.func60, Try.ntmps60
  go_wp2_with fail
  refine (size_val _ _ _ _ _ _ _ _ _ (by omega) (by omega)).mono ?_
  rintro e w1 ⟨rfl, b1⟩
  have D1 := hide ((unhide HD).up b1)
  have B1 := hide (b1.mono hB)
  have hz := b1.size
  clear b1 c0 c1 c2 c3
  go_wp2_with fail
  have HC := driveCut_any B w1 g (d.safe.length + d.soft.length) _ _ d hl (by omega) (Nat.le_refl _) (unhide D1) hf1 hf2
  rw [show ((d.safe.length + d.soft.length : Nat) : Int) = (d.safe.length : Int) + (d.soft.length : Int) by omega] at HC
  refine HC.mono ?_
  rintro e w2 ⟨rfl, P⟩
  have HP := hide P
  clear P HC
  generalize hC : cutCode d = CC at *
  go_wp2_with fail
  go_ret
  subst hC
  obtain ⟨v, v1, p1, p2⟩ := unhide HP
  exact ⟨rfl, v, v1, p1, (unhide B1).trans p2⟩
end Go.Proofs.Ytddmomcanakoiaa

set_option linter.unusedVariables false
namespace Go.Proofs.Ytddmomcanakoiaa
open Go.RowKit Go.Maps Go.Deep

def bookL (d : DiskV) : List UInt8 := d.safe ++ d.soft
theorem bookL_len (d : DiskV) : (bookL d).length = d.safe.length + d.soft.length := by simp [bookL]
def pbD (d : DiskV) (bs : List UInt8) : DiskV := if d.down = true then d else if logE (bookL d) < (bookL d).length then d else if (logRs (bookL d)).length = 200 then d else if wrCode d bs = 0 then cutOut (wrOut d bs) ((wrOut d bs).safe.length + (wrOut d bs).soft.length) else wrOut d bs
def pbC (d : DiskV) (bs : List UInt8) : Int := if d.down = true then 2 else if logE (bookL d) < (bookL d).length then 1 else if (logRs (bookL d)).length = 200 then 3 else if wrCode d bs = 0 then cutCode (wrOut d bs) else wrCode d bs
theorem pb_down {d : DiskV} {bs : List UInt8} (h : d.down = true) : pbD d bs = d ∧ pbC d bs = 2 := by simp [pbD, pbC, h]
theorem pb_cut {d : DiskV} {bs : List UInt8} (h : d.down = false) (h1 : logE (bookL d) < (bookL d).length) : pbD d bs = d ∧ pbC d bs = 1 := by simp [pbD, pbC, h, h1]
theorem pb_full {d : DiskV} {bs : List UInt8} (h : d.down = false) (h1 : ¬ logE (bookL d) < (bookL d).length) (h2 : (logRs (bookL d)).length = 200) : pbD d bs = d ∧ pbC d bs = 3 := by simp [pbD, pbC, h, h1, h2]
theorem pb_no {d : DiskV} {bs : List UInt8} (h : d.down = false) (h1 : ¬ logE (bookL d) < (bookL d).length) (h2 : ¬ (logRs (bookL d)).length = 200) (h3 : ¬ wrCode d bs = 0) : pbD d bs = wrOut d bs ∧ pbC d bs = wrCode d bs := by simp [pbD, pbC, h, h1, h2, h3]
theorem pb_yes {d : DiskV} {bs : List UInt8} (h : d.down = false) (h1 : ¬ logE (bookL d) < (bookL d).length) (h2 : ¬ (logRs (bookL d)).length = 200) (h3 : wrCode d bs = 0) : pbD d bs = cutOut (wrOut d bs) ((wrOut d bs).safe.length + (wrOut d bs).soft.length) ∧ pbC d bs = cutCode (wrOut d bs) := by simp [pbD, pbC, h, h1, h2, h3]
theorem wr_ok {d : DiskV} {bs : List UInt8} (h : diskOkB d = true) (hc : wrCode d bs = 0) : diskOkB (wrOut d bs) = true := by
  unfold wrCode at hc
  split at hc
  · cases hc
  · rename_i hd
    split at hc
    · cases hc
    · rename_i hf
      unfold actC at hc
      split at hc
      · cases hc
      · rename_i hg
        have hg' : goneB d bs = false := by simpa using hg
        have hd' : d.down = false := by simpa using hd
        simp only [wrOut, if_neg hd, if_neg hf, actD, if_neg hg, atD, List.take_length, fz]
        simp only [goneB, Bool.and_eq_false_iff, decide_eq_false_iff_not] at hg'
        simp only [diskOkB, hd', Bool.and_eq_true, decide_eq_true_eq, Bool.not_false, Bool.true_or, and_true, List.length_append] at h ⊢
        split <;> omega
theorem pbC_one {d : DiskV} {bs : List UInt8} : pbC d bs = 1 ↔ d.down = false ∧ logE (bookL d) < (bookL d).length := by
  have hw : wrCode d bs ≠ 1 := by unfold wrCode actC; (repeat' split) <;> simp
  have hc : ∀ e, cutCode e ≠ 1 := fun e => by unfold cutCode; (repeat' split) <;> simp
  unfold pbC
  cases d.down
  · by_cases h1 : logE (bookL d) < (bookL d).length
    · simp [h1]
    · by_cases h2 : (logRs (bookL d)).length = 200
      · simp [h1, h2]
      · by_cases h3 : wrCode d bs = 0
        · simp [h1, h2, h3, hc]
        · simp [h1, h2, h3, hw]
  · simp
def lpG (d : DiskV) (r : RecV) : Bool := diskOkB d && recOkB r
def lpV (d : DiskV) (r : RecV) : DiskV := if lpG d r = true then (if pbC d (recBytesL r) = 1 then noDisk else pbD d (recBytesL r)) else noDisk
def lpI (d : DiskV) (r : RecV) : Int := if lpG d r = true then pbC d (recBytesL r) else 1
theorem lp_bad {d : DiskV} {r : RecV} (h : lpG d r = false) : lpV d r = noDisk ∧ lpI d r = 1 := by simp [lpV, lpI, h]
theorem lp_cut {d : DiskV} {r : RecV} (h : lpG d r = true) (hc : pbC d (recBytesL r) = 1) : lpV d r = noDisk ∧ lpI d r = 1 := by simp [lpV, lpI, h, hc]
theorem lp_yes {d : DiskV} {r : RecV} (h : lpG d r = true) (hc : ¬ pbC d (recBytesL r) = 1) : lpV d r = pbD d (recBytesL r) ∧ lpI d r = pbC d (recBytesL r) := by simp [lpV, lpI, h, hc]
theorem small_cutOut {d : DiskV} {n : Nat} (h : SmallDisk d) (h8 : d.safe.length + d.soft.length ≤ 8000) : SmallDisk (cutOut d n) := by
  unfold cutOut
  split
  · exact h
  · split
    · unfold SmallDisk fellD
      simp
      omega
    · unfold SmallDisk cutD
      simp
      omega
theorem small_lpV {d : DiskV} (h : SmallDisk d) (r : RecV) : SmallDisk (lpV d r) := by
  have none : SmallDisk noDisk := by simp [SmallDisk, noDisk]
  unfold lpV
  split
  · rename_i hg
    have hk : diskOkB d = true := by simp only [lpG, Bool.and_eq_true] at hg; exact hg.1
    have hw : SmallDisk (wrOut d (recBytesL r)) := by have h' := small_wrV (bs := recBytesL r) h; simpa [wrV, hk] using h'
    split
    · exact none
    · unfold pbD
      split
      · exact h
      · split
        · exact h
        · split
          · exact h
          · split
            · rename_i h3
              exact small_cutOut hw (disk_small (wr_ok hk h3))
            · exact hw
  · exact none
end Go.Proofs.Ytddmomcanakoiaa
