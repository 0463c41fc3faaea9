/-
  LogPut of the specification. (Made by wip/mklogputs.py.)
-/
import Derived.Test.YtddmomcanakoiaaMerged6
import Derived.Test.YtddmomcanakoiaaMerged15
import Derived.Test.YtddmomcanakoiaaMerged10
import Derived.Test.YtddmomcanakoiaaSpecSync
import Derived.Test.YtddmomcanakoiaaMerged1
set_option linter.unusedVariables false
namespace Go.Proofs.Ytddmomcanakoiaa
open Go.RowKit Go.Maps Go.Deep

set_option maxHeartbeats 6400000 in
theorem specLogPut_disk (d : DiskV) (v : Value) (r : RecV) (w : World) (hs : SmallDisk d) (hf : RecFit r) (h : DiskRd w v d) (hg : diskOkB d = false) : Calls Try.prog 18 #[v, recVal r] w fun e w' => RetDiskI (lpV d r) (lpI d r) w e w' := by
  obtain ⟨e1, e2⟩ := lp_bad (d := d) (r := r) (by simp [lpG, hg])
  rw [e1, e2]
  clear e1 e2
  have HK := hide (fun W (b : Below w.heap.size w W) => specDiskOk_any d v W ⟨by have := hs.1; unfold maxLen; omega, by have := hs.2; unfold maxLen; omega⟩ (h.up b))
  have HRK := hide (fun W => specRecOk_any r W hf)
  rw [hg] at HK
  clear hg hs
  obtain ⟨v0, v1, rfl, h0, h1⟩ := h
  obtain ⟨p0, p2, rfl⟩ := h0.len
  obtain ⟨p3, p5, rfl⟩ := h1.len
  clear h0 h1
  obtain ⟨x0, r0, y0, b0, z0⟩ := boxes3 w [.slice p0 d.safe.length p2, .slice p3 d.soft.length p5, .int .i64 d.fuse, .bool d.down] [.int .i64 r.kind, .string r.name, .int .i64 r.num, .string r.text] [.slice none 0 0, .slice none 0 0, .int .i64 0, .bool false] 35 32 35
  have X0 := hide x0
  have Y0 := hide y0
  have R0 := hide r0
  have B0 := hide b0
  have Z0 := hide z0
  clear x0 r0 y0 b0 z0
  have NW := hide (show ∀ w1, Below w.heap.size w w1 → ∀ W, Turn [w.heap.size + 2] w1 W → RetDiskI noDisk 1 w (.returned (.tuple #[.agg #[.slice none 0 0, .slice none 0 0, .int .i64 0, .bool false], .int .i64 1])) W from fun w1 b1 W ht => retDiskI_no (b1.trans (ht.below b1.size (fun k hk => by simp at hk; omega))))
  unfold recVal at HRK⊢
  go_enter Try.func18, Try.ntmps18
  go_wp2_with fail
  refine (unhide HK _ (unhide B0)).mono ?_
  rintro e w1 ⟨rfl, b1⟩
  have X1 := hide ((unhide X0).up b1)
  have R1 := hide ((unhide R0).up b1)
  have Y1 := hide ((unhide Y0).up b1)
  have B1 := hide ((unhide B0).trans (b1.mono (unhide B0).size))
  clear X0 R0 Y0 B0
  clear b1
  obtain ⟨⟨y0, y1, y2, y3⟩, j0, j1, j2, j3⟩ := (unhide Y1).four
  go_wp2_with fail
  refine bodyPost_ret (v := .tuple #[.agg #[.slice none 0 0, .slice none 0 0, .int .i64 0, .bool false], .int .i64 1]) (by simp [results, Try.results18, go_sem, y0, y1, y2, y3]) rfl ?_
  exact unhide NW w1 (unhide B1) _ (((((Turn.refl [w.heap.size + 2] w1).setCell (g := w.heap.size + 2) (by simp) _ _).setCell (g := w.heap.size + 2) (by simp) _ _).setCell (g := w.heap.size + 2) (by simp) _ _).setCell (g := w.heap.size + 2) (by simp) _ _)
set_option maxHeartbeats 6400000 in
theorem specLogPut_rec (d : DiskV) (v : Value) (r : RecV) (w : World) (hs : SmallDisk d) (hf : RecFit r) (h : DiskRd w v d) (hk : diskOkB d = true) (hg : recOkB r = false) : Calls Try.prog 18 #[v, recVal r] w fun e w' => RetDiskI (lpV d r) (lpI d r) w e w' := by
  obtain ⟨e1, e2⟩ := lp_bad (d := d) (r := r) (by simp [lpG, hg])
  rw [e1, e2]
  clear e1 e2
  have HK := hide (fun W (b : Below w.heap.size w W) => specDiskOk_any d v W ⟨by have := hs.1; unfold maxLen; omega, by have := hs.2; unfold maxLen; omega⟩ (h.up b))
  have HRK := hide (fun W => specRecOk_any r W hf)
  rw [hk] at HK
  rw [hg] at HRK
  clear hg hk hs
  obtain ⟨v0, v1, rfl, h0, h1⟩ := h
  obtain ⟨p0, p2, rfl⟩ := h0.len
  obtain ⟨p3, p5, rfl⟩ := h1.len
  clear h0 h1
  obtain ⟨x0, r0, y0, b0, z0⟩ := boxes3 w [.slice p0 d.safe.length p2, .slice p3 d.soft.length p5, .int .i64 d.fuse, .bool d.down] [.int .i64 r.kind, .string r.name, .int .i64 r.num, .string r.text] [.slice none 0 0, .slice none 0 0, .int .i64 0, .bool false] 35 32 35
  have X0 := hide x0
  have Y0 := hide y0
  have R0 := hide r0
  have B0 := hide b0
  have Z0 := hide z0
  clear x0 r0 y0 b0 z0
  have NW := hide (show ∀ w1, Below w.heap.size w w1 → ∀ W, Turn [w.heap.size + 2] w1 W → RetDiskI noDisk 1 w (.returned (.tuple #[.agg #[.slice none 0 0, .slice none 0 0, .int .i64 0, .bool false], .int .i64 1])) W from fun w1 b1 W ht => retDiskI_no (b1.trans (ht.below b1.size (fun k hk => by simp at hk; omega))))
  unfold recVal at HRK⊢
  go_enter Try.func18, Try.ntmps18
  go_wp2_with fail
  refine (unhide HK _ (unhide B0)).mono ?_
  rintro e w1 ⟨rfl, b1⟩
  have X1 := hide ((unhide X0).up b1)
  have R1 := hide ((unhide R0).up b1)
  have Y1 := hide ((unhide Y0).up b1)
  have B1 := hide ((unhide B0).trans (b1.mono (unhide B0).size))
  clear X0 R0 Y0 B0
  clear b1
  obtain ⟨⟨rc0, rc1, rc2, rc3⟩, rc4, rc5, rc6, rc7⟩ := (unhide R1).four
  go_wp2_with fail
  refine (unhide HRK _).mono ?_
  rintro e w2 ⟨rfl, b2⟩
  have X2 := hide ((unhide X1).up b2)
  have R2 := hide ((unhide R1).up b2)
  have Y2 := hide ((unhide Y1).up b2)
  have B2 := hide ((unhide B1).trans (b2.mono (unhide B1).size))
  clear X1 R1 Y1 B1
  clear b2
  clear rc0 rc1 rc2 rc3 rc4 rc5 rc6 rc7
  obtain ⟨⟨y0, y1, y2, y3⟩, j0, j1, j2, j3⟩ := (unhide Y2).four
  go_wp2_with fail
  refine bodyPost_ret (v := .tuple #[.agg #[.slice none 0 0, .slice none 0 0, .int .i64 0, .bool false], .int .i64 1]) (by simp [results, Try.results18, go_sem, y0, y1, y2, y3]) rfl ?_
  exact unhide NW w2 (unhide B2) _ (((((Turn.refl [w.heap.size + 2] w2).setCell (g := w.heap.size + 2) (by simp) _ _).setCell (g := w.heap.size + 2) (by simp) _ _).setCell (g := w.heap.size + 2) (by simp) _ _).setCell (g := w.heap.size + 2) (by simp) _ _)
set_option maxHeartbeats 6400000 in
theorem specLogPut_down (d : DiskV) (v : Value) (r : RecV) (w : World) (hs : SmallDisk d) (hf : RecFit r) (h : DiskRd w v d) (hk : diskOkB d = true) (hg : recOkB r = true) (hd : d.down = true) : Calls Try.prog 18 #[v, recVal r] w fun e w' => RetDiskI (lpV d r) (lpI d r) w e w' := by
  have hlp : lpG d r = true := by simp [lpG, hk, hg]
  obtain ⟨q1, q2⟩ := pb_down (bs := recBytesL r) hd
  obtain ⟨e1, e2⟩ := lp_yes hlp (by rw [q2]; simp)
  rw [q1] at e1
  rw [q2] at e2
  clear q1 q2
  rw [e1, e2]
  clear e1 e2
  have HK := hide (fun W (b : Below w.heap.size w W) => specDiskOk_any d v W ⟨by have := hs.1; unfold maxLen; omega, by have := hs.2; unfold maxLen; omega⟩ (h.up b))
  have HRK := hide (fun W => specRecOk_any r W hf)
  rw [hk] at HK
  rw [hg] at HRK
  have HCP := hide (fun W (b : Below w.heap.size w W) => l6Copy_any d v W hs (h.up b))
  clear hk hg hlp hs
  obtain ⟨v0, v1, rfl, h0, h1⟩ := h
  obtain ⟨p0, p2, rfl⟩ := h0.len
  obtain ⟨p3, p5, rfl⟩ := h1.len
  clear h0 h1
  obtain ⟨x0, r0, y0, b0, z0⟩ := boxes3 w [.slice p0 d.safe.length p2, .slice p3 d.soft.length p5, .int .i64 d.fuse, .bool d.down] [.int .i64 r.kind, .string r.name, .int .i64 r.num, .string r.text] [.slice none 0 0, .slice none 0 0, .int .i64 0, .bool false] 35 32 35
  have X0 := hide x0
  have Y0 := hide y0
  have R0 := hide r0
  have B0 := hide b0
  have Z0 := hide z0
  clear x0 r0 y0 b0 z0
  have NW := hide (show ∀ w1, Below w.heap.size w w1 → ∀ W, Turn [w.heap.size + 2] w1 W → RetDiskI noDisk 1 w (.returned (.tuple #[.agg #[.slice none 0 0, .slice none 0 0, .int .i64 0, .bool false], .int .i64 1])) W from fun w1 b1 W ht => retDiskI_no (b1.trans (ht.below b1.size (fun k hk => by simp at hk; omega))))
  rw [hd] at X0 Y0 R0 B0 Z0 HK HCP ⊢
  have HDN := hide hd
  clear hd
  unfold recVal at HRK⊢
  go_enter Try.func18, Try.ntmps18
  go_wp2_with fail
  refine (unhide HK _ (unhide B0)).mono ?_
  rintro e w1 ⟨rfl, b1⟩
  have X1 := hide ((unhide X0).up b1)
  have R1 := hide ((unhide R0).up b1)
  have Y1 := hide ((unhide Y0).up b1)
  have B1 := hide ((unhide B0).trans (b1.mono (unhide B0).size))
  clear X0 R0 Y0 B0
  clear b1
  obtain ⟨⟨rc0, rc1, rc2, rc3⟩, rc4, rc5, rc6, rc7⟩ := (unhide R1).four
  go_wp2_with fail
  refine (unhide HRK _).mono ?_
  rintro e w2 ⟨rfl, b2⟩
  have X2 := hide ((unhide X1).up b2)
  have R2 := hide ((unhide R1).up b2)
  have Y2 := hide ((unhide Y1).up b2)
  have B2 := hide ((unhide B1).trans (b2.mono (unhide B1).size))
  clear X1 R1 Y1 B1
  clear b2
  clear rc0 rc1 rc2 rc3 rc4 rc5 rc6 rc7
  obtain ⟨⟨xc0, xc1, xc2, xc3⟩, xc4, xc5, xc6, xc7⟩ := (unhide X2).four
  go_wp2_with fail
  refine (unhide HCP _ (unhide B2)).mono ?_
  rintro e w3 ⟨v2, v3, he, T3, b3⟩
  rw [unhide HDN] at he
  subst he
  have HZ := hide (show w.heap.size + 3 ≤ w2.heap.size by have := (unhide Y2).1.1; omega)
  obtain ⟨q0, q1, q2, rfl⟩ : ∃ a n c, v2 = .slice a n c := by obtain ⟨a, c, e⟩ := T3.1.slice; exact ⟨a, _, c, e⟩
  obtain ⟨q3, q4, q5, rfl⟩ : ∃ a n c, v3 = .slice a n c := by obtain ⟨a, c, e⟩ := T3.2.1.slice; exact ⟨a, _, c, e⟩
  have TT := hide T3
  have HB := hide (unhide B2).size
  have X3 := hide ((unhide X2).up b3)
  have R3 := hide ((unhide R2).up b3)
  have Y3 := hide ((unhide Y2).up b3)
  have B3 := hide ((unhide B2).trans (b3.mono (unhide B2).size))
  clear X2 R2 Y2 B2
  clear b3 T3 
  obtain ⟨⟨yc0, yc1, yc2, yc3⟩, yc4, yc5, yc6, yc7⟩ := (unhide Y3).four
  go_wp2_with fail
  refine bodyPost_ret (v := .tuple #[.agg #[.slice q0 q1 q2, .slice q3 q4 q5, .int .i64 d.fuse, .bool true], .int .i64 2]) (by simp [results, Try.results18, go_sem, yc0, yc1, yc2, yc3]) rfl ?_
  have key : ∀ W, Turn [w.heap.size + 2] w3 W → RetDiskI d 2 w (.returned (.tuple #[.agg #[.slice q0 q1 q2, .slice q3 q4 q5, .int .i64 d.fuse, .bool d.down], .int .i64 2])) W := fun W ht =>
    retDiskI_two (B := w2.heap.size) (TwoRows.turn (unhide TT) ht (fun k hk => by have := unhide HZ; simp at hk; omega)) (unhide HB) ((unhide B3).trans (ht.below (unhide B3).size (fun k hk => by simp at hk; omega)))
  rw [unhide HDN] at key
  exact key _ (((((Turn.refl [w.heap.size + 2] w3).setCell (g := w.heap.size + 2) (by simp) _ _).setCell (g := w.heap.size + 2) (by simp) _ _).setCell (g := w.heap.size + 2) (by simp) _ _).setCell (g := w.heap.size + 2) (by simp) _ _)
set_option maxHeartbeats 6400000 in
theorem specLogPut_cut (d : DiskV) (v : Value) (r : RecV) (w : World) (hs : SmallDisk d) (hf : RecFit r) (h : DiskRd w v d) (hk : diskOkB d = true) (hg : recOkB r = true) (hd : d.down = false) (h1 : logE (bookL d) < (bookL d).length) : Calls Try.prog 18 #[v, recVal r] w fun e w' => RetDiskI (lpV d r) (lpI d r) w e w' := by
  have hlp : lpG d r = true := by simp [lpG, hk, hg]
  obtain ⟨e1, e2⟩ := lp_cut hlp (pbC_one.2 ⟨hd, h1⟩)
  rw [e1, e2]
  clear e1 e2
  have HK := hide (fun W (b : Below w.heap.size w W) => specDiskOk_any d v W ⟨by have := hs.1; unfold maxLen; omega, by have := hs.2; unfold maxLen; omega⟩ (h.up b))
  have HRK := hide (fun W => specRecOk_any r W hf)
  rw [hk] at HK
  rw [hg] at HRK
  have HAL := hide (fun W (b : Below w.heap.size w W) => specAll_any d v W ⟨by have := hs.1; unfold maxLen; omega, by have := hs.2; unfold maxLen; omega⟩ (h.up b))
  have HVE := hide (show allV d = bookL d from (allV_yes hk hd).1)
  have HLR := hide (fun (v : Value) (W : World) (hv : ByRd W v (bookL d)) => specLogRead_any (bookL d) v W (by have := disk_small hk; rw [bookL_len]; omega) hv)
  have hE : ((logE (bookL d) : Nat) : Int) < (((bookL d).length : Nat) : Int) := by omega
  clear hk hg hlp hs h1
  obtain ⟨v0, v1, rfl, h0, h1⟩ := h
  obtain ⟨p0, p2, rfl⟩ := h0.len
  obtain ⟨p3, p5, rfl⟩ := h1.len
  clear h0 h1
  obtain ⟨x0, r0, y0, b0, z0⟩ := boxes3 w [.slice p0 d.safe.length p2, .slice p3 d.soft.length p5, .int .i64 d.fuse, .bool d.down] [.int .i64 r.kind, .string r.name, .int .i64 r.num, .string r.text] [.slice none 0 0, .slice none 0 0, .int .i64 0, .bool false] 35 32 35
  have X0 := hide x0
  have Y0 := hide y0
  have R0 := hide r0
  have B0 := hide b0
  have Z0 := hide z0
  clear x0 r0 y0 b0 z0
  have NW := hide (show ∀ w1, Below w.heap.size w w1 → ∀ W, Turn [w.heap.size + 2] w1 W → RetDiskI noDisk 1 w (.returned (.tuple #[.agg #[.slice none 0 0, .slice none 0 0, .int .i64 0, .bool false], .int .i64 1])) W from fun w1 b1 W ht => retDiskI_no (b1.trans (ht.below b1.size (fun k hk => by simp at hk; omega))))
  rw [hd] at X0 Y0 R0 B0 Z0 HK HAL ⊢
  have HDN := hide hd
  clear hd
  unfold recVal at HRK⊢
  go_enter Try.func18, Try.ntmps18
  go_wp2_with fail
  refine (unhide HK _ (unhide B0)).mono ?_
  rintro e w1 ⟨rfl, b1⟩
  have X1 := hide ((unhide X0).up b1)
  have R1 := hide ((unhide R0).up b1)
  have Y1 := hide ((unhide Y0).up b1)
  have B1 := hide ((unhide B0).trans (b1.mono (unhide B0).size))
  clear X0 R0 Y0 B0
  clear b1
  obtain ⟨⟨rc0, rc1, rc2, rc3⟩, rc4, rc5, rc6, rc7⟩ := (unhide R1).four
  go_wp2_with fail
  refine (unhide HRK _).mono ?_
  rintro e w2 ⟨rfl, b2⟩
  have X2 := hide ((unhide X1).up b2)
  have R2 := hide ((unhide R1).up b2)
  have Y2 := hide ((unhide Y1).up b2)
  have B2 := hide ((unhide B1).trans (b2.mono (unhide B1).size))
  clear X1 R1 Y1 B1
  clear b2
  clear rc0 rc1 rc2 rc3 rc4 rc5 rc6 rc7
  obtain ⟨⟨xc0, xc1, xc2, xc3⟩, xc4, xc5, xc6, xc7⟩ := (unhide X2).four
  go_wp2_with fail
  refine (unhide HAL _ (unhide B2)).mono ?_
  rintro e w3 ⟨xa, xn, xd, rfl, HN, r3, b3⟩
  have HAV := hide (show ByRd w3 (.slice xa xn xd) (bookL d) by have h := r3.rd; rw [unhide HVE] at h; exact h)
  have hxn : xn = (bookL d).length := by rw [unhide HN, unhide HVE]
  subst hxn
  clear r3 HN
  have X3 := hide ((unhide X2).up b3)
  have R3 := hide ((unhide R2).up b3)
  have Y3 := hide ((unhide Y2).up b3)
  have B3 := hide ((unhide B2).trans (b3.mono (unhide B2).size))
  clear X2 R2 Y2 B2
  clear b3
  clear xc0 xc1 xc2 xc3 xc4 xc5 xc6 xc7
  go_wp2_with fail
  refine (unhide HLR _ _ (unhide HAV)).mono ?_
  rintro e w4 ⟨vr, rfl, RL, b4⟩
  obtain ⟨ra, rc, hvr⟩ := (unhide RL).slice
  subst hvr
  have X4 := hide ((unhide X3).up b4)
  have R4 := hide ((unhide R3).up b4)
  have Y4 := hide ((unhide Y3).up b4)
  have B4 := hide ((unhide B3).trans (b4.mono (unhide B3).size))
  clear X3 R3 Y3 B3
  clear b4 RL HAV HLR HAL HVE
  generalize logE (bookL d) = E at *
  generalize (logRs (bookL d)).length = rl at *
  generalize (bookL d).length = bl at *
  generalize allB d = qb at *
  obtain ⟨⟨y0, y1, y2, y3⟩, j0, j1, j2, j3⟩ := (unhide Y4).four
  go_wp2_with fail
  refine bodyPost_ret (v := .tuple #[.agg #[.slice none 0 0, .slice none 0 0, .int .i64 0, .bool false], .int .i64 1]) (by simp [results, Try.results18, go_sem, y0, y1, y2, y3]) rfl ?_
  exact unhide NW w4 (unhide B4) _ (((((Turn.refl [w.heap.size + 2] w4).setCell (g := w.heap.size + 2) (by simp) _ _).setCell (g := w.heap.size + 2) (by simp) _ _).setCell (g := w.heap.size + 2) (by simp) _ _).setCell (g := w.heap.size + 2) (by simp) _ _)
set_option maxHeartbeats 6400000 in
theorem specLogPut_full (d : DiskV) (v : Value) (r : RecV) (w : World) (hs : SmallDisk d) (hf : RecFit r) (h : DiskRd w v d) (hk : diskOkB d = true) (hg : recOkB r = true) (hd : d.down = false) (h1 : ¬ logE (bookL d) < (bookL d).length) (h2 : (logRs (bookL d)).length = 200) : Calls Try.prog 18 #[v, recVal r] w fun e w' => RetDiskI (lpV d r) (lpI d r) w e w' := by
  have hlp : lpG d r = true := by simp [lpG, hk, hg]
  obtain ⟨q1, q2⟩ := pb_full (bs := recBytesL r) hd h1 h2
  obtain ⟨e1, e2⟩ := lp_yes hlp (by rw [q2]; simp)
  rw [q1] at e1
  rw [q2] at e2
  clear q1 q2
  rw [e1, e2]
  clear e1 e2
  have HK := hide (fun W (b : Below w.heap.size w W) => specDiskOk_any d v W ⟨by have := hs.1; unfold maxLen; omega, by have := hs.2; unfold maxLen; omega⟩ (h.up b))
  have HRK := hide (fun W => specRecOk_any r W hf)
  rw [hk] at HK
  rw [hg] at HRK
  have HAL := hide (fun W (b : Below w.heap.size w W) => specAll_any d v W ⟨by have := hs.1; unfold maxLen; omega, by have := hs.2; unfold maxLen; omega⟩ (h.up b))
  have HVE := hide (show allV d = bookL d from (allV_yes hk hd).1)
  have HLR := hide (fun (v : Value) (W : World) (hv : ByRd W v (bookL d)) => specLogRead_any (bookL d) v W (by have := disk_small hk; rw [bookL_len]; omega) hv)
  have HCP := hide (fun W (b : Below w.heap.size w W) => l6Copy_any d v W hs (h.up b))
  have hE : ¬ ((logE (bookL d) : Nat) : Int) < (((bookL d).length : Nat) : Int) := by omega
  have hR : ((((logRs (bookL d)).length : Nat) : Int) == 200) = true := by rw [h2]; rfl
  clear hk hg hlp hs h1 h2
  obtain ⟨v0, v1, rfl, h0, h1⟩ := h
  obtain ⟨p0, p2, rfl⟩ := h0.len
  obtain ⟨p3, p5, rfl⟩ := h1.len
  clear h0 h1
  obtain ⟨x0, r0, y0, b0, z0⟩ := boxes3 w [.slice p0 d.safe.length p2, .slice p3 d.soft.length p5, .int .i64 d.fuse, .bool d.down] [.int .i64 r.kind, .string r.name, .int .i64 r.num, .string r.text] [.slice none 0 0, .slice none 0 0, .int .i64 0, .bool false] 35 32 35
  have X0 := hide x0
  have Y0 := hide y0
  have R0 := hide r0
  have B0 := hide b0
  have Z0 := hide z0
  clear x0 r0 y0 b0 z0
  have NW := hide (show ∀ w1, Below w.heap.size w w1 → ∀ W, Turn [w.heap.size + 2] w1 W → RetDiskI noDisk 1 w (.returned (.tuple #[.agg #[.slice none 0 0, .slice none 0 0, .int .i64 0, .bool false], .int .i64 1])) W from fun w1 b1 W ht => retDiskI_no (b1.trans (ht.below b1.size (fun k hk => by simp at hk; omega))))
  rw [hd] at X0 Y0 R0 B0 Z0 HK HAL HCP ⊢
  have HDN := hide hd
  clear hd
  unfold recVal at HRK⊢
  go_enter Try.func18, Try.ntmps18
  go_wp2_with fail
  refine (unhide HK _ (unhide B0)).mono ?_
  rintro e w1 ⟨rfl, b1⟩
  have X1 := hide ((unhide X0).up b1)
  have R1 := hide ((unhide R0).up b1)
  have Y1 := hide ((unhide Y0).up b1)
  have B1 := hide ((unhide B0).trans (b1.mono (unhide B0).size))
  clear X0 R0 Y0 B0
  clear b1
  obtain ⟨⟨rc0, rc1, rc2, rc3⟩, rc4, rc5, rc6, rc7⟩ := (unhide R1).four
  go_wp2_with fail
  refine (unhide HRK _).mono ?_
  rintro e w2 ⟨rfl, b2⟩
  have X2 := hide ((unhide X1).up b2)
  have R2 := hide ((unhide R1).up b2)
  have Y2 := hide ((unhide Y1).up b2)
  have B2 := hide ((unhide B1).trans (b2.mono (unhide B1).size))
  clear X1 R1 Y1 B1
  clear b2
  clear rc0 rc1 rc2 rc3 rc4 rc5 rc6 rc7
  obtain ⟨⟨xc0, xc1, xc2, xc3⟩, xc4, xc5, xc6, xc7⟩ := (unhide X2).four
  go_wp2_with fail
  refine (unhide HAL _ (unhide B2)).mono ?_
  rintro e w3 ⟨xa, xn, xd, rfl, HN, r3, b3⟩
  have HAV := hide (show ByRd w3 (.slice xa xn xd) (bookL d) by have h := r3.rd; rw [unhide HVE] at h; exact h)
  have hxn : xn = (bookL d).length := by rw [unhide HN, unhide HVE]
  subst hxn
  clear r3 HN
  have X3 := hide ((unhide X2).up b3)
  have R3 := hide ((unhide R2).up b3)
  have Y3 := hide ((unhide Y2).up b3)
  have B3 := hide ((unhide B2).trans (b3.mono (unhide B2).size))
  clear X2 R2 Y2 B2
  clear b3
  clear xc0 xc1 xc2 xc3 xc4 xc5 xc6 xc7
  go_wp2_with fail
  refine (unhide HLR _ _ (unhide HAV)).mono ?_
  rintro e w4 ⟨vr, rfl, RL, b4⟩
  obtain ⟨ra, rc, hvr⟩ := (unhide RL).slice
  subst hvr
  have X4 := hide ((unhide X3).up b4)
  have R4 := hide ((unhide R3).up b4)
  have Y4 := hide ((unhide Y3).up b4)
  have B4 := hide ((unhide B3).trans (b4.mono (unhide B3).size))
  clear X3 R3 Y3 B3
  clear b4 RL HAV HLR HAL HVE
  generalize logE (bookL d) = E at *
  generalize (logRs (bookL d)).length = rl at *
  generalize (bookL d).length = bl at *
  generalize allB d = qb at *
  obtain ⟨⟨xc0, xc1, xc2, xc3⟩, xc4, xc5, xc6, xc7⟩ := (unhide X4).four
  go_wp2_with fail
  refine (unhide HCP _ (unhide B4)).mono ?_
  rintro e w5 ⟨v2, v3, he, T5, b5⟩
  rw [unhide HDN] at he
  subst he
  have HZ := hide (show w.heap.size + 3 ≤ w4.heap.size by have := (unhide Y4).1.1; omega)
  obtain ⟨q0, q1, q2, rfl⟩ : ∃ a n c, v2 = .slice a n c := by obtain ⟨a, c, e⟩ := T5.1.slice; exact ⟨a, _, c, e⟩
  obtain ⟨q3, q4, q5, rfl⟩ : ∃ a n c, v3 = .slice a n c := by obtain ⟨a, c, e⟩ := T5.2.1.slice; exact ⟨a, _, c, e⟩
  have TT := hide T5
  have HB := hide (unhide B4).size
  have X5 := hide ((unhide X4).up b5)
  have R5 := hide ((unhide R4).up b5)
  have Y5 := hide ((unhide Y4).up b5)
  have B5 := hide ((unhide B4).trans (b5.mono (unhide B4).size))
  clear X4 R4 Y4 B4
  clear b5 T5 
  obtain ⟨⟨yc0, yc1, yc2, yc3⟩, yc4, yc5, yc6, yc7⟩ := (unhide Y5).four
  go_wp2_with fail
  refine bodyPost_ret (v := .tuple #[.agg #[.slice q0 q1 q2, .slice q3 q4 q5, .int .i64 d.fuse, .bool false], .int .i64 3]) (by simp [results, Try.results18, go_sem, yc0, yc1, yc2, yc3]) rfl ?_
  have key : ∀ W, Turn [w.heap.size + 2] w5 W → RetDiskI d 3 w (.returned (.tuple #[.agg #[.slice q0 q1 q2, .slice q3 q4 q5, .int .i64 d.fuse, .bool d.down], .int .i64 3])) W := fun W ht =>
    retDiskI_two (B := w4.heap.size) (TwoRows.turn (unhide TT) ht (fun k hk => by have := unhide HZ; simp at hk; omega)) (unhide HB) ((unhide B5).trans (ht.below (unhide B5).size (fun k hk => by simp at hk; omega)))
  rw [unhide HDN] at key
  exact key _ (((((Turn.refl [w.heap.size + 2] w5).setCell (g := w.heap.size + 2) (by simp) _ _).setCell (g := w.heap.size + 2) (by simp) _ _).setCell (g := w.heap.size + 2) (by simp) _ _).setCell (g := w.heap.size + 2) (by simp) _ _)
set_option maxHeartbeats 6400000 in
theorem specLogPut_no (d : DiskV) (v : Value) (r : RecV) (w : World) (hs : SmallDisk d) (hf : RecFit r) (h : DiskRd w v d) (hk : diskOkB d = true) (hg : recOkB r = true) (hd : d.down = false) (h1 : ¬ logE (bookL d) < (bookL d).length) (h2 : ¬ (logRs (bookL d)).length = 200) (h3 : ¬ wrCode d (recBytesL r) = 0) : Calls Try.prog 18 #[v, recVal r] w fun e w' => RetDiskI (lpV d r) (lpI d r) w e w' := by
  have hlp : lpG d r = true := by simp [lpG, hk, hg]
  obtain ⟨q1, q2⟩ := pb_no (bs := recBytesL r) hd h1 h2 h3
  obtain ⟨e1, e2⟩ := lp_yes hlp (fun e => h1 (pbC_one.1 e).2)
  rw [q1] at e1
  rw [q2] at e2
  clear q1 q2
  rw [e1, e2]
  clear e1 e2
  have HK := hide (fun W (b : Below w.heap.size w W) => specDiskOk_any d v W ⟨by have := hs.1; unfold maxLen; omega, by have := hs.2; unfold maxLen; omega⟩ (h.up b))
  have HRK := hide (fun W => specRecOk_any r W hf)
  rw [hk] at HK
  rw [hg] at HRK
  have HAL := hide (fun W (b : Below w.heap.size w W) => specAll_any d v W ⟨by have := hs.1; unfold maxLen; omega, by have := hs.2; unfold maxLen; omega⟩ (h.up b))
  have HVE := hide (show allV d = bookL d from (allV_yes hk hd).1)
  have HLR := hide (fun (v : Value) (W : World) (hv : ByRd W v (bookL d)) => specLogRead_any (bookL d) v W (by have := disk_small hk; rw [bookL_len]; omega) hv)
  have HRB := hide (fun W => specRecBytes_any r W hf)
  unfold RetRec at HRB
  rw [hg] at HRB
  have HWR := hide (fun W (b : Below w.heap.size w W) vb (hv : ByRd W vb (recBytesL r)) => specWrite_any d v (recBytesL r) vb W hs (by have := recBytesL_len r; omega) (h.up b) hv)
  unfold RetDiskI at HWR
  rw [show wrV d (recBytesL r) = wrOut d (recBytesL r) by simp [wrV, hk], show wrI d (recBytesL r) = wrCode d (recBytesL r) by simp [wrI, hk]] at HWR
  have hE : ¬ ((logE (bookL d) : Nat) : Int) < (((bookL d).length : Nat) : Int) := by omega
  have hR : ((((logRs (bookL d)).length : Nat) : Int) == 200) = false := by rw [beq_eq_false_iff_ne]; omega
  have q3 : (wrCode d (recBytesL r) != 0) = true := by simpa using h3
  clear hk hg hlp hs h1 h2 h3
  obtain ⟨v0, v1, rfl, h0, h1⟩ := h
  obtain ⟨p0, p2, rfl⟩ := h0.len
  obtain ⟨p3, p5, rfl⟩ := h1.len
  clear h0 h1
  obtain ⟨x0, r0, y0, b0, z0⟩ := boxes3 w [.slice p0 d.safe.length p2, .slice p3 d.soft.length p5, .int .i64 d.fuse, .bool d.down] [.int .i64 r.kind, .string r.name, .int .i64 r.num, .string r.text] [.slice none 0 0, .slice none 0 0, .int .i64 0, .bool false] 35 32 35
  have X0 := hide x0
  have Y0 := hide y0
  have R0 := hide r0
  have B0 := hide b0
  have Z0 := hide z0
  clear x0 r0 y0 b0 z0
  have NW := hide (show ∀ w1, Below w.heap.size w w1 → ∀ W, Turn [w.heap.size + 2] w1 W → RetDiskI noDisk 1 w (.returned (.tuple #[.agg #[.slice none 0 0, .slice none 0 0, .int .i64 0, .bool false], .int .i64 1])) W from fun w1 b1 W ht => retDiskI_no (b1.trans (ht.below b1.size (fun k hk => by simp at hk; omega))))
  rw [hd] at X0 Y0 R0 B0 Z0 HK HAL HWR ⊢
  have HDN := hide hd
  clear hd
  unfold recVal at HRK HRB⊢
  go_enter Try.func18, Try.ntmps18
  go_wp2_with fail
  refine (unhide HK _ (unhide B0)).mono ?_
  rintro e w1 ⟨rfl, b1⟩
  have X1 := hide ((unhide X0).up b1)
  have R1 := hide ((unhide R0).up b1)
  have Y1 := hide ((unhide Y0).up b1)
  have B1 := hide ((unhide B0).trans (b1.mono (unhide B0).size))
  clear X0 R0 Y0 B0
  clear b1
  obtain ⟨⟨rc0, rc1, rc2, rc3⟩, rc4, rc5, rc6, rc7⟩ := (unhide R1).four
  go_wp2_with fail
  refine (unhide HRK _).mono ?_
  rintro e w2 ⟨rfl, b2⟩
  have X2 := hide ((unhide X1).up b2)
  have R2 := hide ((unhide R1).up b2)
  have Y2 := hide ((unhide Y1).up b2)
  have B2 := hide ((unhide B1).trans (b2.mono (unhide B1).size))
  clear X1 R1 Y1 B1
  clear b2
  clear rc0 rc1 rc2 rc3 rc4 rc5 rc6 rc7
  obtain ⟨⟨xc0, xc1, xc2, xc3⟩, xc4, xc5, xc6, xc7⟩ := (unhide X2).four
  go_wp2_with fail
  refine (unhide HAL _ (unhide B2)).mono ?_
  rintro e w3 ⟨xa, xn, xd, rfl, HN, r3, b3⟩
  have HAV := hide (show ByRd w3 (.slice xa xn xd) (bookL d) by have h := r3.rd; rw [unhide HVE] at h; exact h)
  have hxn : xn = (bookL d).length := by rw [unhide HN, unhide HVE]
  subst hxn
  clear r3 HN
  have X3 := hide ((unhide X2).up b3)
  have R3 := hide ((unhide R2).up b3)
  have Y3 := hide ((unhide Y2).up b3)
  have B3 := hide ((unhide B2).trans (b3.mono (unhide B2).size))
  clear X2 R2 Y2 B2
  clear b3
  clear xc0 xc1 xc2 xc3 xc4 xc5 xc6 xc7
  go_wp2_with fail
  refine (unhide HLR _ _ (unhide HAV)).mono ?_
  rintro e w4 ⟨vr, rfl, RL, b4⟩
  obtain ⟨ra, rc, hvr⟩ := (unhide RL).slice
  subst hvr
  have X4 := hide ((unhide X3).up b4)
  have R4 := hide ((unhide R3).up b4)
  have Y4 := hide ((unhide Y3).up b4)
  have B4 := hide ((unhide B3).trans (b4.mono (unhide B3).size))
  clear X3 R3 Y3 B3
  clear b4 RL HAV HLR HAL HVE
  generalize logE (bookL d) = E at *
  generalize (logRs (bookL d)).length = rl at *
  generalize (bookL d).length = bl at *
  generalize allB d = qb at *
  obtain ⟨⟨rc0, rc1, rc2, rc3⟩, rc4, rc5, rc6, rc7⟩ := (unhide R4).four
  go_wp2_with fail
  refine (unhide HRB _).mono ?_
  rintro e w5 ⟨ba, bn, bc, rfl, r5, b5⟩
  have RB := hide r5.rd
  clear r5
  have X5 := hide ((unhide X4).up b5)
  have R5 := hide ((unhide R4).up b5)
  have Y5 := hide ((unhide Y4).up b5)
  have B5 := hide ((unhide B4).trans (b5.mono (unhide B4).size))
  clear X4 R4 Y4 B4
  clear b5
  clear rc0 rc1 rc2 rc3 rc4 rc5 rc6 rc7
  obtain ⟨⟨xc0, xc1, xc2, xc3⟩, xc4, xc5, xc6, xc7⟩ := (unhide X5).four
  go_wp2_with fail
  refine (unhide HWR _ (unhide B5) _ (unhide RB)).mono ?_
  rintro e w6 ⟨vo, SS, rfl, O6, L6, b6⟩
  obtain ⟨o0, o1, o2, o3, o4, o5, o6, o7, rfl⟩ := (unhide O6).rd.form
  have HB5 := hide (unhide B5).size
  have HZ5 := hide (show w.heap.size + 2 < w5.heap.size from (unhide Y5).1.1)
  have X6 := hide ((unhide X5).up b6)
  have R6 := hide ((unhide R5).up b6)
  have Y6 := hide ((unhide Y5).up b6)
  have B6 := hide ((unhide B5).trans (b6.mono (unhide B5).size))
  clear X5 R5 Y5 B5
  clear b6 HRB HWR RB
  clear xc0 xc1 xc2 xc3 xc4 xc5 xc6 xc7
  have bO := (Below.refl w6.heap.size w6).alloc (Nat.le_refl _) (.cells #[.slice o0 o1 o2, .slice o3 o4 o5, .int .i64 o6, .bool o7] 35)
  have OX := hide (boxF_new4 w6 (.slice o0 o1 o2) (.slice o3 o4 o5) (.int .i64 o6) (.bool o7) 35)
  have O7 := hide ((unhide O6).up bO)
  have Y7 := hide ((unhide Y6).up bO)
  have B7 := hide ((unhide B6).trans (bO.mono (unhide B6).size))
  clear bO O6 X6 R6 Y6 B6
  obtain ⟨⟨oc0, oc1, oc2, oc3⟩, oc4, oc5, oc6, oc7⟩ := (unhide OX).four
  obtain ⟨⟨yc0, yc1, yc2, yc3⟩, yc4, yc5, yc6, yc7⟩ := (unhide Y7).four
  have key : ∀ W, Turn [w.heap.size + 2] (w6.alloc (.cells #[.slice o0 o1 o2, .slice o3 o4 o5, .int .i64 o6, .bool o7] 35)) W → RetDiskI (wrOut d (recBytesL r)) (wrCode d (recBytesL r)) w (.returned (.tuple #[.agg #[.slice o0 o1 o2, .slice o3 o4 o5, .int .i64 o6, .bool o7], .int .i64 (wrCode d (recBytesL r))])) W := fun W ht =>
    ⟨_, SS, rfl, hide ((unhide O7).turn ht (fun k hk hm => by have := unhide L6 k hk; have := unhide HZ5; simp at hm; omega)), hide (fun k hk => Nat.le_trans (unhide HB5) (unhide L6 k hk)), (unhide B7).trans (ht.below (unhide B7).size (fun k hk => by simp at hk; omega))⟩
  have KEY := hide key
  clear key
  generalize hCC : wrCode d (recBytesL r) = CC at q3 ⊢
  go_wp2_with fail
  refine bodyPost_ret (v := .tuple #[.agg #[.slice o0 o1 o2, .slice o3 o4 o5, .int .i64 o6, .bool o7], .int .i64 CC]) (by simp [results, Try.results18, go_sem, yc0, yc1, yc2, yc3]) rfl ?_
  subst hCC
  exact unhide KEY _ (((((Turn.refl [w.heap.size + 2] _).setCell (g := w.heap.size + 2) (by simp) _ _).setCell (g := w.heap.size + 2) (by simp) _ _).setCell (g := w.heap.size + 2) (by simp) _ _).setCell (g := w.heap.size + 2) (by simp) _ _)
set_option maxHeartbeats 6400000 in
theorem specLogPut_yes (d : DiskV) (v : Value) (r : RecV) (w : World) (hs : SmallDisk d) (hf : RecFit r) (h : DiskRd w v d) (hk : diskOkB d = true) (hg : recOkB r = true) (hd : d.down = false) (h1 : ¬ logE (bookL d) < (bookL d).length) (h2 : ¬ (logRs (bookL d)).length = 200) (h3 : wrCode d (recBytesL r) = 0) : Calls Try.prog 18 #[v, recVal r] w fun e w' => RetDiskI (lpV d r) (lpI d r) w e w' := by
  have hlp : lpG d r = true := by simp [lpG, hk, hg]
  obtain ⟨q1, q2⟩ := pb_yes (bs := recBytesL r) hd h1 h2 h3
  obtain ⟨e1, e2⟩ := lp_yes hlp (fun e => h1 (pbC_one.1 e).2)
  rw [q1] at e1
  rw [q2] at e2
  clear q1 q2
  rw [e1, e2]
  clear e1 e2
  have HK := hide (fun W (b : Below w.heap.size w W) => specDiskOk_any d v W ⟨by have := hs.1; unfold maxLen; omega, by have := hs.2; unfold maxLen; omega⟩ (h.up b))
  have HRK := hide (fun W => specRecOk_any r W hf)
  rw [hk] at HK
  rw [hg] at HRK
  have HAL := hide (fun W (b : Below w.heap.size w W) => specAll_any d v W ⟨by have := hs.1; unfold maxLen; omega, by have := hs.2; unfold maxLen; omega⟩ (h.up b))
  have HVE := hide (show allV d = bookL d from (allV_yes hk hd).1)
  have HLR := hide (fun (v : Value) (W : World) (hv : ByRd W v (bookL d)) => specLogRead_any (bookL d) v W (by have := disk_small hk; rw [bookL_len]; omega) hv)
  have HRB := hide (fun W => specRecBytes_any r W hf)
  unfold RetRec at HRB
  rw [hg] at HRB
  have HWR := hide (fun W (b : Below w.heap.size w W) vb (hv : ByRd W vb (recBytesL r)) => specWrite_any d v (recBytesL r) vb W hs (by have := recBytesL_len r; omega) (h.up b) hv)
  unfold RetDiskI at HWR
  rw [show wrV d (recBytesL r) = wrOut d (recBytesL r) by simp [wrV, hk], show wrI d (recBytesL r) = wrCode d (recBytesL r) by simp [wrI, hk]] at HWR
  have HSY := hide (fun W v (hv : DiskRd W v (wrOut d (recBytesL r))) => specSync_any (wrOut d (recBytesL r)) v W (by have h := small_wrV (bs := recBytesL r) hs; simpa [wrV, hk] using h) hv)
  unfold RetDiskI at HSY
  rw [show syncV (wrOut d (recBytesL r)) = cutOut (wrOut d (recBytesL r)) ((wrOut d (recBytesL r)).safe.length + (wrOut d (recBytesL r)).soft.length) by simp [syncV, wr_ok hk h3], show syncI (wrOut d (recBytesL r)) = cutCode (wrOut d (recBytesL r)) by simp [syncI, wr_ok hk h3]] at HSY
  rw [h3] at HWR
  have hE : ¬ ((logE (bookL d) : Nat) : Int) < (((bookL d).length : Nat) : Int) := by omega
  have hR : ((((logRs (bookL d)).length : Nat) : Int) == 200) = false := by rw [beq_eq_false_iff_ne]; omega
  clear hk hg hlp hs h1 h2 h3
  obtain ⟨v0, v1, rfl, h0, h1⟩ := h
  obtain ⟨p0, p2, rfl⟩ := h0.len
  obtain ⟨p3, p5, rfl⟩ := h1.len
  clear h0 h1
  obtain ⟨x0, r0, y0, b0, z0⟩ := boxes3 w [.slice p0 d.safe.length p2, .slice p3 d.soft.length p5, .int .i64 d.fuse, .bool d.down] [.int .i64 r.kind, .string r.name, .int .i64 r.num, .string r.text] [.slice none 0 0, .slice none 0 0, .int .i64 0, .bool false] 35 32 35
  have X0 := hide x0
  have Y0 := hide y0
  have R0 := hide r0
  have B0 := hide b0
  have Z0 := hide z0
  clear x0 r0 y0 b0 z0
  have NW := hide (show ∀ w1, Below w.heap.size w w1 → ∀ W, Turn [w.heap.size + 2] w1 W → RetDiskI noDisk 1 w (.returned (.tuple #[.agg #[.slice none 0 0, .slice none 0 0, .int .i64 0, .bool false], .int .i64 1])) W from fun w1 b1 W ht => retDiskI_no (b1.trans (ht.below b1.size (fun k hk => by simp at hk; omega))))
  rw [hd] at X0 Y0 R0 B0 Z0 HK HAL HWR ⊢
  have HDN := hide hd
  clear hd
  unfold recVal at HRK HRB⊢
  go_enter Try.func18, Try.ntmps18
  go_wp2_with fail
  refine (unhide HK _ (unhide B0)).mono ?_
  rintro e w1 ⟨rfl, b1⟩
  have X1 := hide ((unhide X0).up b1)
  have R1 := hide ((unhide R0).up b1)
  have Y1 := hide ((unhide Y0).up b1)
  have B1 := hide ((unhide B0).trans (b1.mono (unhide B0).size))
  clear X0 R0 Y0 B0
  clear b1
  obtain ⟨⟨rc0, rc1, rc2, rc3⟩, rc4, rc5, rc6, rc7⟩ := (unhide R1).four
  go_wp2_with fail
  refine (unhide HRK _).mono ?_
  rintro e w2 ⟨rfl, b2⟩
  have X2 := hide ((unhide X1).up b2)
  have R2 := hide ((unhide R1).up b2)
  have Y2 := hide ((unhide Y1).up b2)
  have B2 := hide ((unhide B1).trans (b2.mono (unhide B1).size))
  clear X1 R1 Y1 B1
  clear b2
  clear rc0 rc1 rc2 rc3 rc4 rc5 rc6 rc7
  obtain ⟨⟨xc0, xc1, xc2, xc3⟩, xc4, xc5, xc6, xc7⟩ := (unhide X2).four
  go_wp2_with fail
  refine (unhide HAL _ (unhide B2)).mono ?_
  rintro e w3 ⟨xa, xn, xd, rfl, HN, r3, b3⟩
  have HAV := hide (show ByRd w3 (.slice xa xn xd) (bookL d) by have h := r3.rd; rw [unhide HVE] at h; exact h)
  have hxn : xn = (bookL d).length := by rw [unhide HN, unhide HVE]
  subst hxn
  clear r3 HN
  have X3 := hide ((unhide X2).up b3)
  have R3 := hide ((unhide R2).up b3)
  have Y3 := hide ((unhide Y2).up b3)
  have B3 := hide ((unhide B2).trans (b3.mono (unhide B2).size))
  clear X2 R2 Y2 B2
  clear b3
  clear xc0 xc1 xc2 xc3 xc4 xc5 xc6 xc7
  go_wp2_with fail
  refine (unhide HLR _ _ (unhide HAV)).mono ?_
  rintro e w4 ⟨vr, rfl, RL, b4⟩
  obtain ⟨ra, rc, hvr⟩ := (unhide RL).slice
  subst hvr
  have X4 := hide ((unhide X3).up b4)
  have R4 := hide ((unhide R3).up b4)
  have Y4 := hide ((unhide Y3).up b4)
  have B4 := hide ((unhide B3).trans (b4.mono (unhide B3).size))
  clear X3 R3 Y3 B3
  clear b4 RL HAV HLR HAL HVE
  generalize logE (bookL d) = E at *
  generalize (logRs (bookL d)).length = rl at *
  generalize (bookL d).length = bl at *
  generalize allB d = qb at *
  obtain ⟨⟨rc0, rc1, rc2, rc3⟩, rc4, rc5, rc6, rc7⟩ := (unhide R4).four
  go_wp2_with fail
  refine (unhide HRB _).mono ?_
  rintro e w5 ⟨ba, bn, bc, rfl, r5, b5⟩
  have RB := hide r5.rd
  clear r5
  have X5 := hide ((unhide X4).up b5)
  have R5 := hide ((unhide R4).up b5)
  have Y5 := hide ((unhide Y4).up b5)
  have B5 := hide ((unhide B4).trans (b5.mono (unhide B4).size))
  clear X4 R4 Y4 B4
  clear b5
  clear rc0 rc1 rc2 rc3 rc4 rc5 rc6 rc7
  obtain ⟨⟨xc0, xc1, xc2, xc3⟩, xc4, xc5, xc6, xc7⟩ := (unhide X5).four
  go_wp2_with fail
  refine (unhide HWR _ (unhide B5) _ (unhide RB)).mono ?_
  rintro e w6 ⟨vo, SS, rfl, O6, L6, b6⟩
  obtain ⟨o0, o1, o2, o3, o4, o5, o6, o7, rfl⟩ := (unhide O6).rd.form
  have HB5 := hide (unhide B5).size
  have HZ5 := hide (show w.heap.size + 2 < w5.heap.size from (unhide Y5).1.1)
  have X6 := hide ((unhide X5).up b6)
  have R6 := hide ((unhide R5).up b6)
  have Y6 := hide ((unhide Y5).up b6)
  have B6 := hide ((unhide B5).trans (b6.mono (unhide B5).size))
  clear X5 R5 Y5 B5
  clear b6 HRB HWR RB
  clear xc0 xc1 xc2 xc3 xc4 xc5 xc6 xc7
  have bO := (Below.refl w6.heap.size w6).alloc (Nat.le_refl _) (.cells #[.slice o0 o1 o2, .slice o3 o4 o5, .int .i64 o6, .bool o7] 35)
  have OX := hide (boxF_new4 w6 (.slice o0 o1 o2) (.slice o3 o4 o5) (.int .i64 o6) (.bool o7) 35)
  have O7 := hide ((unhide O6).up bO)
  have Y7 := hide ((unhide Y6).up bO)
  have B7 := hide ((unhide B6).trans (bO.mono (unhide B6).size))
  clear bO O6 X6 R6 Y6 B6
  obtain ⟨⟨oc0, oc1, oc2, oc3⟩, oc4, oc5, oc6, oc7⟩ := (unhide OX).four
  have OR7 := hide (unhide O7).rd
  have HZ7 := hide (show w.heap.size + 2 < (w6.alloc (.cells #[.slice o0 o1 o2, .slice o3 o4 o5, .int .i64 o6, .bool o7] 35)).heap.size from (unhide Y7).1.1)
  go_wp2_with fail
  refine (unhide HSY _ _ (unhide OR7)).mono ?_
  rintro e w8 ⟨vs, ST, rfl, O8, L8, b8⟩
  obtain ⟨s0, s1, s2, s3, s4, s5, s6, s7, rfl⟩ := (unhide O8).rd.form
  have Y8 := hide ((unhide Y7).up b8)
  have B8 := hide ((unhide B7).trans (b8.mono (unhide B7).size))
  have HB7 := hide (unhide B7).size
  clear b8 oc0 oc1 oc2 oc3 oc4 oc5 oc6 oc7 Y7 B7 O7 OX OR7 HSY
  obtain ⟨⟨yc0, yc1, yc2, yc3⟩, yc4, yc5, yc6, yc7⟩ := (unhide Y8).four
  have key : ∀ W, Turn [w.heap.size + 2] w8 W → RetDiskI (cutOut (wrOut d (recBytesL r)) ((wrOut d (recBytesL r)).safe.length + (wrOut d (recBytesL r)).soft.length)) (cutCode (wrOut d (recBytesL r))) w (.returned (.tuple #[.agg #[.slice s0 s1 s2, .slice s3 s4 s5, .int .i64 s6, .bool s7], .int .i64 (cutCode (wrOut d (recBytesL r)))])) W := fun W ht =>
    ⟨_, ST, rfl, hide ((unhide O8).turn ht (fun k hk hm => by have := unhide L8 k hk; have := unhide HZ7; simp at hm; omega)), hide (fun k hk => Nat.le_trans (unhide HB7) (unhide L8 k hk)), (unhide B8).trans (ht.below (unhide B8).size (fun k hk => by simp at hk; omega))⟩
  have KEY := hide key
  clear key
  generalize hCC : cutCode (wrOut d (recBytesL r)) = CC at ⊢
  go_wp2_with fail
  refine bodyPost_ret (v := .tuple #[.agg #[.slice s0 s1 s2, .slice s3 s4 s5, .int .i64 s6, .bool s7], .int .i64 CC]) (by simp [results, Try.results18, go_sem, yc0, yc1, yc2, yc3]) rfl ?_
  subst hCC
  exact unhide KEY _ (((((Turn.refl [w.heap.size + 2] _).setCell (g := w.heap.size + 2) (by simp) _ _).setCell (g := w.heap.size + 2) (by simp) _ _).setCell (g := w.heap.size + 2) (by simp) _ _).setCell (g := w.heap.size + 2) (by simp) _ _)
theorem specLogPut_any (d : DiskV) (v : Value) (r : RecV) (w : World) (hs : SmallDisk d) (hf : RecFit r) (h : DiskRd w v d) : Calls Try.prog 18 #[v, recVal r] w fun e w' => RetDiskI (lpV d r) (lpI d r) w e w' := by
  cases hk : diskOkB d
  · exact specLogPut_disk d v r w hs hf h hk
  · cases hg : recOkB r
    · exact specLogPut_rec d v r w hs hf h hk hg
    · cases hd : d.down
      · by_cases h1 : logE (bookL d) < (bookL d).length
        · exact specLogPut_cut d v r w hs hf h hk hg hd h1
        · by_cases h2 : (logRs (bookL d)).length = 200
          · exact specLogPut_full d v r w hs hf h hk hg hd h1 h2
          · by_cases h3 : wrCode d (recBytesL r) = 0
            · exact specLogPut_yes d v r w hs hf h hk hg hd h1 h2 h3
            · exact specLogPut_no d v r w hs hf h hk hg hd h1 h2 h3
      · exact specLogPut_down d v r w hs hf h hk hg hd
end Go.Proofs.Ytddmomcanakoiaa
