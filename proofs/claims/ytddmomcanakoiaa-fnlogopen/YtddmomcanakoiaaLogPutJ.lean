/-
  LogPut of the program, at its face. (Made by wip/mklogputi.py.)
-/
import Derived.Test.YtddmomcanakoiaaMerged21
import Derived.Test.YtddmomcanakoiaaMerged15
set_option linter.unusedVariables false
namespace Go.Proofs.Ytddmomcanakoiaa
open Go.RowKit Go.Maps Go.Deep

set_option maxHeartbeats 6400000 in
theorem implLogPut_rec (d : DiskV) (v : Value) (r : RecV) (w : World) (hs : SmallDisk d) (hf : RecFit r) (h : DiskRd w v d) (hg : recOkB r = false) : Calls Try.prog 17 #[v, recVal r] w fun e w' => RetDiskI (lpV d r) (lpI d r) w e w' := by
  obtain ⟨e1, e2⟩ := lp_bad (d := d) (r := r) (by simp [lpG, hg])
  rw [e1, e2]
  clear e1 e2
  have HRB := hide (fun W => implRecBytes_any r W hf)
  unfold RetRec at HRB
  rw [hg] at HRB
  clear hg hs
  obtain ⟨v0, v1, rfl, h0, h1⟩ := h
  obtain ⟨p0, p2, rfl⟩ := h0.len
  obtain ⟨p3, p5, rfl⟩ := h1.len
  clear h0 h1
  obtain ⟨x0, r0, y0, b0, z0⟩ := boxes3 w [.slice p0 d.safe.length p2, .slice p3 d.soft.length p5, .int .i64 d.fuse, .bool d.down] [.int .i64 r.kind, .string r.name, .int .i64 r.num, .string r.text] [.slice none 0 0, .slice none 0 0, .int .i64 0, .bool false] 35 32 35
  have X0 := hide x0
  have Y0 := hide y0
  have R0 := hide r0
  have B0 := hide b0
  have Z0 := hide z0
  clear x0 r0 y0 b0 z0
  have NW := hide (show ∀ w1, Below w.heap.size w w1 → ∀ W, Turn [w.heap.size + 2] w1 W → RetDiskI noDisk 1 w (.returned (.tuple #[.agg #[.slice none 0 0, .slice none 0 0, .int .i64 0, .bool false], .int .i64 1])) W from fun w1 b1 W ht => retDiskI_no (b1.trans (ht.below b1.size (fun k hk => by simp at hk; omega))))
  unfold recVal at HRB ⊢
  go_enter Try.func17, Try.ntmps17
  go_wp2_with fail
  refine (unhide HRB _).mono ?_
  rintro e w1 ⟨ra, rn, rc, rfl, r1, b1⟩
  have X1 := hide ((unhide X0).up b1)
  have Y1 := hide ((unhide Y0).up b1)
  have B1 := hide ((unhide B0).trans (b1.mono (by have := unhide Z0; omega)))
  have HZ1 := hide (show w.heap.size + 3 ≤ w1.heap.size by have := unhide Z0; have := b1.size; omega)
  clear b1 X0 Y0 B0 r1 HRB
  obtain ⟨⟨y0, y1, y2, y3⟩, j0, j1, j2, j3⟩ := (unhide Y1).four
  go_wp2_with fail
  refine bodyPost_ret (v := .tuple #[.agg #[.slice none 0 0, .slice none 0 0, .int .i64 0, .bool false], .int .i64 1]) (by simp [results, Try.results17, go_sem, y0, y1, y2, y3]) rfl ?_
  exact unhide NW w1 (unhide B1) _ (((((Turn.refl [w.heap.size + 2] w1).setCell (g := w.heap.size + 2) (by simp) _ _).setCell (g := w.heap.size + 2) (by simp) _ _).setCell (g := w.heap.size + 2) (by simp) _ _).setCell (g := w.heap.size + 2) (by simp) _ _)
set_option maxHeartbeats 6400000 in
theorem implLogPut_disk (d : DiskV) (v : Value) (r : RecV) (w : World) (hs : SmallDisk d) (hf : RecFit r) (h : DiskRd w v d) (hr : recOkB r = true) (hg : diskOkB d = false) : Calls Try.prog 17 #[v, recVal r] w fun e w' => RetDiskI (lpV d r) (lpI d r) w e w' := by
  obtain ⟨e1, e2⟩ := lp_bad (d := d) (r := r) (by simp [lpG, hg])
  rw [e1, e2]
  clear e1 e2
  have HK := hide (fun W (b : Below w.heap.size w W) => implDiskOk_any d v W (by have := hs.1; omega) (by have := hs.2; omega) (h.up b))
  rw [hg] at HK
  have HRB := hide (fun W => implRecBytes_any r W hf)
  unfold RetRec at HRB
  rw [hr] at HRB
  clear hg hr hs
  obtain ⟨v0, v1, rfl, h0, h1⟩ := h
  obtain ⟨p0, p2, rfl⟩ := h0.len
  obtain ⟨p3, p5, rfl⟩ := h1.len
  clear h0 h1
  obtain ⟨x0, r0, y0, b0, z0⟩ := boxes3 w [.slice p0 d.safe.length p2, .slice p3 d.soft.length p5, .int .i64 d.fuse, .bool d.down] [.int .i64 r.kind, .string r.name, .int .i64 r.num, .string r.text] [.slice none 0 0, .slice none 0 0, .int .i64 0, .bool false] 35 32 35
  have X0 := hide x0
  have Y0 := hide y0
  have R0 := hide r0
  have B0 := hide b0
  have Z0 := hide z0
  clear x0 r0 y0 b0 z0
  have NW := hide (show ∀ w1, Below w.heap.size w w1 → ∀ W, Turn [w.heap.size + 2] w1 W → RetDiskI noDisk 1 w (.returned (.tuple #[.agg #[.slice none 0 0, .slice none 0 0, .int .i64 0, .bool false], .int .i64 1])) W from fun w1 b1 W ht => retDiskI_no (b1.trans (ht.below b1.size (fun k hk => by simp at hk; omega))))
  unfold recVal at HRB ⊢
  go_enter Try.func17, Try.ntmps17
  go_wp2_with fail
  refine (unhide HRB _).mono ?_
  rintro e w1 ⟨ra, rn, rc, rfl, r1, b1⟩
  have X1 := hide ((unhide X0).up b1)
  have Y1 := hide ((unhide Y0).up b1)
  have B1 := hide ((unhide B0).trans (b1.mono (by have := unhide Z0; omega)))
  have HZ1 := hide (show w.heap.size + 3 ≤ w1.heap.size by have := unhide Z0; have := b1.size; omega)
  obtain ⟨⟨x0, x1, x2, x3⟩, f0, f1, f2, f3⟩ := (unhide X1).four
  clear b1 X0 Y0 B0 r1 HRB
  go_wp2_with fail
  refine (unhide HK _ (unhide B1)).mono ?_
  rintro e w2 ⟨rfl, b2⟩
  have X2 := hide ((unhide X1).up b2)
  have Y2 := hide ((unhide Y1).up b2)
  have B2 := hide ((unhide B1).trans (b2.mono (unhide B1).size))
  clear b2 x0 x1 x2 x3 f0 f1 f2 f3 X1 Y1 B1
  obtain ⟨⟨y0, y1, y2, y3⟩, j0, j1, j2, j3⟩ := (unhide Y2).four
  go_wp2_with fail
  refine bodyPost_ret (v := .tuple #[.agg #[.slice none 0 0, .slice none 0 0, .int .i64 0, .bool false], .int .i64 1]) (by simp [results, Try.results17, go_sem, y0, y1, y2, y3]) rfl ?_
  exact unhide NW w2 (unhide B2) _ (((((Turn.refl [w.heap.size + 2] w2).setCell (g := w.heap.size + 2) (by simp) _ _).setCell (g := w.heap.size + 2) (by simp) _ _).setCell (g := w.heap.size + 2) (by simp) _ _).setCell (g := w.heap.size + 2) (by simp) _ _)
set_option maxHeartbeats 6400000 in
theorem implLogPut_cut (d : DiskV) (v : Value) (r : RecV) (w : World) (hs : SmallDisk d) (hf : RecFit r) (h : DiskRd w v d) (hr : recOkB r = true) (hg : diskOkB d = true) (hc : pbC d (recBytesL r) = 1) : Calls Try.prog 17 #[v, recVal r] w fun e w' => RetDiskI (lpV d r) (lpI d r) w e w' := by
  have HK := hide (fun W (b : Below w.heap.size w W) => implDiskOk_any d v W (by have := hs.1; omega) (by have := hs.2; omega) (h.up b))
  rw [hg] at HK
  obtain ⟨e1, e2⟩ := lp_cut (show lpG d r = true by simp [lpG, hg, hr]) hc
  rw [e1, e2]
  clear e1 e2
  have HC := hide hc
  clear hc
  have hsm := disk_small hg
  have HRB := hide (fun W => implRecBytes_any r W hf)
  unfold RetRec at HRB
  rw [hr] at HRB
  have HNW := hide (fun W (b : Below w.heap.size w W) => newLogbook_any d v W (by omega) (by omega) (h.up b))
  have HPB := hide (fun B W g v0 v1 vb (hB : B ≤ W.heap.size) (D : Drive B W g v0 v1 d) (hr : ByLow B W vb (recBytesL r)) => bookPut_any B W g v0 v1 vb d (recBytesL r) hg (by have := recBytesL_len r; omega) hB D hr)
  clear hg hr hs
  obtain ⟨v0, v1, rfl, h0, h1⟩ := h
  obtain ⟨p0, p2, rfl⟩ := h0.len
  obtain ⟨p3, p5, rfl⟩ := h1.len
  clear h0 h1
  obtain ⟨x0, r0, y0, b0, z0⟩ := boxes3 w [.slice p0 d.safe.length p2, .slice p3 d.soft.length p5, .int .i64 d.fuse, .bool d.down] [.int .i64 r.kind, .string r.name, .int .i64 r.num, .string r.text] [.slice none 0 0, .slice none 0 0, .int .i64 0, .bool false] 35 32 35
  have X0 := hide x0
  have Y0 := hide y0
  have R0 := hide r0
  have B0 := hide b0
  have Z0 := hide z0
  clear x0 r0 y0 b0 z0
  have NW := hide (show ∀ w1, Below w.heap.size w w1 → ∀ W, Turn [w.heap.size + 2] w1 W → RetDiskI noDisk 1 w (.returned (.tuple #[.agg #[.slice none 0 0, .slice none 0 0, .int .i64 0, .bool false], .int .i64 1])) W from fun w1 b1 W ht => retDiskI_no (b1.trans (ht.below b1.size (fun k hk => by simp at hk; omega))))
  unfold recVal at HRB ⊢
  go_enter Try.func17, Try.ntmps17
  go_wp2_with fail
  refine (unhide HRB _).mono ?_
  rintro e w1 ⟨ra, rn, rc, rfl, r1, b1⟩
  have X1 := hide ((unhide X0).up b1)
  have Y1 := hide ((unhide Y0).up b1)
  have B1 := hide ((unhide B0).trans (b1.mono (by have := unhide Z0; omega)))
  have HZ1 := hide (show w.heap.size + 3 ≤ w1.heap.size by have := unhide Z0; have := b1.size; omega)
  have HRY := hide r1.rd
  have hz1 := b1.size
  obtain ⟨⟨x0, x1, x2, x3⟩, f0, f1, f2, f3⟩ := (unhide X1).four
  clear b1 X0 Y0 B0 r1 HRB
  go_wp2_with fail
  refine (unhide HK _ (unhide B1)).mono ?_
  rintro e w2 ⟨rfl, b2⟩
  have X2 := hide ((unhide X1).up b2)
  have Y2 := hide ((unhide Y1).up b2)
  have B2 := hide ((unhide B1).trans (b2.mono (unhide B1).size))
  have HRY2 := hide ((unhide HRY).up b2)
  have HZ2 := hide (show w.heap.size + 3 ≤ w2.heap.size by have := unhide HZ1; have := b2.size; omega)
  clear b2 x0 x1 x2 x3 f0 f1 f2 f3 X1 Y1 B1 HRY hz1
  obtain ⟨⟨x0, x1, x2, x3⟩, f0, f1, f2, f3⟩ := (unhide X2).four
  go_wp2_with fail
  refine (unhide HNW _ (unhide B2)).mono ?_
  rintro e w3 ⟨a0, n0, c0, a1, n1, c1, rfl, T3, b3⟩
  have Y3 := hide ((unhide Y2).up b3)
  have B3 := hide ((unhide B2).trans (b3.mono (unhide B2).size))
  have HZ3 := hide b3.size
  have DR := hide (drive_new (d := d) (unhide T3) (unhide HZ3) 59)
  have bA : Below w3.heap.size w3 (w3.alloc (.cells #[.slice a0 n0 c0, .slice a1 n1 c1, .int .i64 d.fuse, .bool d.down] 59)) := (Below.refl _ _).alloc (Nat.le_refl _) _
  have LW := hide (ByLow.of (unhide HRY2) (Nat.le_refl _) (b3.trans (bA.mono b3.size)))
  have YW := hide ((unhide Y3).up bA)
  have BW := hide ((unhide B3).trans (bA.mono (unhide B3).size))
  have HZW := hide bA.size
  clear b3 x0 x1 x2 x3 f0 f1 f2 f3 X2 Y2 HRY2 Y3 bA
  go_wp2_with fail
  generalize w3.alloc (.cells #[.slice a0 n0 c0, .slice a1 n1 c1, .int .i64 d.fuse, .bool d.down] 59) = W3 at *
  refine (unhide HPB w2.heap.size W3 w3.heap.size _ _ _ (by have := unhide HZ3; have := unhide HZW; omega) (unhide DR) (unhide LW)).mono ?_
  rintro e w4 ⟨rfl, v4, v5, D4, b4⟩
  obtain ⟨q0, q1, q2, rfl⟩ : ∃ a n c, v4 = .slice a n c := by obtain ⟨a, c, e⟩ := D4.r0.slice; exact ⟨a, _, c, e⟩
  obtain ⟨q3, q4, q5, rfl⟩ : ∃ a n c, v5 = .slice a n c := by obtain ⟨a, c, e⟩ := D4.r1.slice; exact ⟨a, _, c, e⟩
  have Y4 := hide ((unhide YW).below b4 (by have := unhide HZ2; omega))
  have B4 := hide ((unhide BW).trans (b4.mono (unhide B2).size))
  have DD4 := hide D4
  have c0' := D4.c0
  have c1' := D4.c1
  have c2' := D4.c2
  have c3' := D4.c3
  clear D4 b4 DR LW YW BW T3 HPB
  rw [unhide HC]
  clear c0' c1' c2' c3' DD4
  obtain ⟨⟨y0, y1, y2, y3⟩, j0, j1, j2, j3⟩ := (unhide Y4).four
  go_wp2_with fail
  refine bodyPost_ret (v := .tuple #[.agg #[.slice none 0 0, .slice none 0 0, .int .i64 0, .bool false], .int .i64 1]) (by simp [results, Try.results17, go_sem, y0, y1, y2, y3]) rfl ?_
  exact unhide NW w4 (unhide B4) _ (((((Turn.refl [w.heap.size + 2] w4).setCell (g := w.heap.size + 2) (by simp) _ _).setCell (g := w.heap.size + 2) (by simp) _ _).setCell (g := w.heap.size + 2) (by simp) _ _).setCell (g := w.heap.size + 2) (by simp) _ _)
set_option maxHeartbeats 6400000 in
theorem implLogPut_yes (d : DiskV) (v : Value) (r : RecV) (w : World) (hs : SmallDisk d) (hf : RecFit r) (h : DiskRd w v d) (hr : recOkB r = true) (hg : diskOkB d = true) (hc : ¬ pbC d (recBytesL r) = 1) : Calls Try.prog 17 #[v, recVal r] w fun e w' => RetDiskI (lpV d r) (lpI d r) w e w' := by
  have HK := hide (fun W (b : Below w.heap.size w W) => implDiskOk_any d v W (by have := hs.1; omega) (by have := hs.2; omega) (h.up b))
  rw [hg] at HK
  obtain ⟨e1, e2⟩ := lp_yes (show lpG d r = true by simp [lpG, hg, hr]) hc
  rw [e1, e2]
  clear e1 e2
  have qc : (pbC d (recBytesL r) == 1) = false := by rw [beq_eq_false_iff_ne]; exact hc
  clear hc
  have hsm := disk_small hg
  have HRB := hide (fun W => implRecBytes_any r W hf)
  unfold RetRec at HRB
  rw [hr] at HRB
  have HNW := hide (fun W (b : Below w.heap.size w W) => newLogbook_any d v W (by omega) (by omega) (h.up b))
  have HPB := hide (fun B W g v0 v1 vb (hB : B ≤ W.heap.size) (D : Drive B W g v0 v1 d) (hr : ByLow B W vb (recBytesL r)) => bookPut_any B W g v0 v1 vb d (recBytesL r) hg (by have := recBytesL_len r; omega) hB D hr)
  clear hg hr hs
  obtain ⟨v0, v1, rfl, h0, h1⟩ := h
  obtain ⟨p0, p2, rfl⟩ := h0.len
  obtain ⟨p3, p5, rfl⟩ := h1.len
  clear h0 h1
  obtain ⟨x0, r0, y0, b0, z0⟩ := boxes3 w [.slice p0 d.safe.length p2, .slice p3 d.soft.length p5, .int .i64 d.fuse, .bool d.down] [.int .i64 r.kind, .string r.name, .int .i64 r.num, .string r.text] [.slice none 0 0, .slice none 0 0, .int .i64 0, .bool false] 35 32 35
  have X0 := hide x0
  have Y0 := hide y0
  have R0 := hide r0
  have B0 := hide b0
  have Z0 := hide z0
  clear x0 r0 y0 b0 z0
  have NW := hide (show ∀ w1, Below w.heap.size w w1 → ∀ W, Turn [w.heap.size + 2] w1 W → RetDiskI noDisk 1 w (.returned (.tuple #[.agg #[.slice none 0 0, .slice none 0 0, .int .i64 0, .bool false], .int .i64 1])) W from fun w1 b1 W ht => retDiskI_no (b1.trans (ht.below b1.size (fun k hk => by simp at hk; omega))))
  unfold recVal at HRB ⊢
  go_enter Try.func17, Try.ntmps17
  go_wp2_with fail
  refine (unhide HRB _).mono ?_
  rintro e w1 ⟨ra, rn, rc, rfl, r1, b1⟩
  have X1 := hide ((unhide X0).up b1)
  have Y1 := hide ((unhide Y0).up b1)
  have B1 := hide ((unhide B0).trans (b1.mono (by have := unhide Z0; omega)))
  have HZ1 := hide (show w.heap.size + 3 ≤ w1.heap.size by have := unhide Z0; have := b1.size; omega)
  have HRY := hide r1.rd
  have hz1 := b1.size
  obtain ⟨⟨x0, x1, x2, x3⟩, f0, f1, f2, f3⟩ := (unhide X1).four
  clear b1 X0 Y0 B0 r1 HRB
  go_wp2_with fail
  refine (unhide HK _ (unhide B1)).mono ?_
  rintro e w2 ⟨rfl, b2⟩
  have X2 := hide ((unhide X1).up b2)
  have Y2 := hide ((unhide Y1).up b2)
  have B2 := hide ((unhide B1).trans (b2.mono (unhide B1).size))
  have HRY2 := hide ((unhide HRY).up b2)
  have HZ2 := hide (show w.heap.size + 3 ≤ w2.heap.size by have := unhide HZ1; have := b2.size; omega)
  clear b2 x0 x1 x2 x3 f0 f1 f2 f3 X1 Y1 B1 HRY hz1
  obtain ⟨⟨x0, x1, x2, x3⟩, f0, f1, f2, f3⟩ := (unhide X2).four
  go_wp2_with fail
  refine (unhide HNW _ (unhide B2)).mono ?_
  rintro e w3 ⟨a0, n0, c0, a1, n1, c1, rfl, T3, b3⟩
  have Y3 := hide ((unhide Y2).up b3)
  have B3 := hide ((unhide B2).trans (b3.mono (unhide B2).size))
  have HZ3 := hide b3.size
  have DR := hide (drive_new (d := d) (unhide T3) (unhide HZ3) 59)
  have bA : Below w3.heap.size w3 (w3.alloc (.cells #[.slice a0 n0 c0, .slice a1 n1 c1, .int .i64 d.fuse, .bool d.down] 59)) := (Below.refl _ _).alloc (Nat.le_refl _) _
  have LW := hide (ByLow.of (unhide HRY2) (Nat.le_refl _) (b3.trans (bA.mono b3.size)))
  have YW := hide ((unhide Y3).up bA)
  have BW := hide ((unhide B3).trans (bA.mono (unhide B3).size))
  have HZW := hide bA.size
  clear b3 x0 x1 x2 x3 f0 f1 f2 f3 X2 Y2 HRY2 Y3 bA
  go_wp2_with fail
  generalize w3.alloc (.cells #[.slice a0 n0 c0, .slice a1 n1 c1, .int .i64 d.fuse, .bool d.down] 59) = W3 at *
  refine (unhide HPB w2.heap.size W3 w3.heap.size _ _ _ (by have := unhide HZ3; have := unhide HZW; omega) (unhide DR) (unhide LW)).mono ?_
  rintro e w4 ⟨rfl, v4, v5, D4, b4⟩
  obtain ⟨q0, q1, q2, rfl⟩ : ∃ a n c, v4 = .slice a n c := by obtain ⟨a, c, e⟩ := D4.r0.slice; exact ⟨a, _, c, e⟩
  obtain ⟨q3, q4, q5, rfl⟩ : ∃ a n c, v5 = .slice a n c := by obtain ⟨a, c, e⟩ := D4.r1.slice; exact ⟨a, _, c, e⟩
  have Y4 := hide ((unhide YW).below b4 (by have := unhide HZ2; omega))
  have B4 := hide ((unhide BW).trans (b4.mono (unhide B2).size))
  have DD4 := hide D4
  have c0' := D4.c0
  have c1' := D4.c1
  have c2' := D4.c2
  have c3' := D4.c3
  clear D4 b4 DR LW YW BW T3 HPB
  obtain ⟨⟨y0, y1, y2, y3⟩, j0, j1, j2, j3⟩ := (unhide Y4).four
  generalize hO : pbD d (recBytesL r) = O at c0' c1' c2' c3' DD4 ⊢
  generalize hC : pbC d (recBytesL r) = CC at qc ⊢
  go_wp2_with fail
  refine bodyPost_ret (v := .tuple #[.agg #[.slice q0 q1 q2, .slice q3 q4 q5, .int .i64 O.fuse, .bool O.down], .int .i64 CC]) (by simp [results, Try.results17, go_sem, y0, y1, y2, y3]) rfl ?_
  have key : ∀ W, Turn [w.heap.size + 2] w4 W → RetDiskI O CC w (.returned (.tuple #[.agg #[.slice q0 q1 q2, .slice q3 q4 q5, .int .i64 O.fuse, .bool O.down], .int .i64 CC])) W := fun W ht =>
    retDiskI_two (B := w2.heap.size) (TwoRows.turn ⟨(unhide DD4).r0, (unhide DD4).r1, (unhide DD4).n01⟩ ht (fun k hk => by have := unhide HZ2; simp at hk; omega)) (unhide B2).size ((unhide B4).trans (ht.below (unhide B4).size (fun k hk => by simp at hk; omega)))
  subst hO
  subst hC
  exact key _ (((((Turn.refl [w.heap.size + 2] w4).setCell (g := w.heap.size + 2) (by simp) _ _).setCell (g := w.heap.size + 2) (by simp) _ _).setCell (g := w.heap.size + 2) (by simp) _ _).setCell (g := w.heap.size + 2) (by simp) _ _)
theorem implLogPut_any (d : DiskV) (v : Value) (r : RecV) (w : World) (hs : SmallDisk d) (hf : RecFit r) (h : DiskRd w v d) : Calls Try.prog 17 #[v, recVal r] w fun e w' => RetDiskI (lpV d r) (lpI d r) w e w' := by
  cases hr : recOkB r
  · exact implLogPut_rec d v r w hs hf h hr
  · cases hg : diskOkB d
    · exact implLogPut_disk d v r w hs hf h hr hg
    · by_cases hc : pbC d (recBytesL r) = 1
      · exact implLogPut_cut d v r w hs hf h hr hg hc
      · exact implLogPut_yes d v r w hs hf h hr hg hc
end Go.Proofs.Ytddmomcanakoiaa
