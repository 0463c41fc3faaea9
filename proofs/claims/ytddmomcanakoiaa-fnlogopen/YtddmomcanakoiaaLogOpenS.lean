/-
  LogOpen of the specification. (Made by wip/mklogopen.py.)
-/
import Derived.Test.YtddmomcanakoiaaMerged14
import Derived.Test.YtddmomcanakoiaaMerged15
import Derived.Test.YtddmomcanakoiaaMerged10
import Derived.Test.YtddmomcanakoiaaSpecDiskCut
import Derived.Test.YtddmomcanakoiaaMerged1
import Derived.Test.YtddmomcanakoiaaMerged21
set_option linter.unusedVariables false
namespace Go.Proofs.Ytddmomcanakoiaa
open Go.RowKit Go.Maps Go.Deep

def RetLoR (V : DiskV) (R : List RecV) (I : Int) (w : World) (e : Ending) (w' : World) : Prop := ∃ v vr, e = .returned (.tuple #[v, vr, .int .i64 I]) ∧ Hid (DiskRd w' v V) ∧ Hid (RecSRd w' vr R) ∧ Below w.heap.size w w'
theorem retLoR_no {w w' : World} (hb : Below w.heap.size w w') : RetLoR noDisk [] 1 w (.returned (.tuple #[.agg #[.slice none 0 0, .slice none 0 0, .int .i64 0, .bool false], .slice none 0 0, .int .i64 1])) w' := by
  obtain ⟨v, S, vr, Q, he, h1, _, h2, _, _, hb⟩ := retLo_no hb
  cases he
  exact ⟨_, _, rfl, hide (unhide h1).rd, hide (unhide h2).rd, hb⟩
theorem RecSRd.keepT {S : List Nat} {B : Nat} {w w' : World} {vr : Value} {R : List RecV} (r : RcRow B w vr R) (ht : Turn S w w') (hS : ∀ k ∈ S, k < B) : RecSRd w' vr R :=
  RcRow.rd (r.keep (fun k hk => ht.block k (r.lt k hk) (fun hm => by have := hS k hm; have := r.ge k hk; omega)))
set_option maxHeartbeats 6400000 in
theorem specLogOpen_bad (d : DiskV) (v : Value) (w : World) (hs : SmallDisk d) (h : DiskRd w v d) (hg : diskOkB d = false) : Calls Try.prog 14 #[v] w fun e w' => RetLoR (loV d) (loR d) (loI d) w e w' := by
  obtain ⟨e1, e2, e3⟩ := lo_bad hg
  rw [e1, e2, e3]
  clear e1 e2 e3
  have HK := hide (fun W (b : Below w.heap.size w W) => specDiskOk_any d v W ⟨by have := hs.1; unfold maxLen; omega, by have := hs.2; unfold maxLen; omega⟩ (h.up b))
  rw [hg] at HK
  clear hg hs
  obtain ⟨v0, v1, rfl, h0, h1⟩ := h
  obtain ⟨p0, p2, rfl⟩ := h0.len
  obtain ⟨p3, p5, rfl⟩ := h1.len
  clear h0 h1
  obtain ⟨x0, y0, b0, z0⟩ := boxes2 w [.slice p0 d.safe.length p2, .slice p3 d.soft.length p5, .int .i64 d.fuse, .bool d.down] [.slice none 0 0, .slice none 0 0, .int .i64 0, .bool false] 35 35
  have X0 := hide x0
  have Y0 := hide y0
  have B0 := hide b0
  have Z0 := hide z0
  clear x0 y0 b0 z0
  go_enter Try.func14, Try.ntmps14
  go_wp2_with fail
  refine (unhide HK _ (unhide B0)).mono ?_
  rintro e w1 ⟨rfl, b1⟩
  have X1 := hide ((unhide X0).up b1)
  have Y1 := hide ((unhide Y0).up b1)
  have B1 := hide ((unhide B0).trans (b1.mono (unhide B0).size))
  clear b1 X0 Y0 B0 HK
  obtain ⟨⟨y0, y1, y2, y3⟩, j0, j1, j2, j3⟩ := (unhide Y1).four
  go_wp2_with fail
  refine bodyPost_ret (v := .tuple #[.agg #[.slice none 0 0, .slice none 0 0, .int .i64 0, .bool false], .slice none 0 0, .int .i64 1]) (by simp [results, Try.results14, go_sem, y0, y1, y2, y3]) rfl ?_
  have key : ∀ W, Turn [w.heap.size + 1] w1 W → RetLoR noDisk [] 1 w (.returned (.tuple #[.agg #[.slice none 0 0, .slice none 0 0, .int .i64 0, .bool false], .slice none 0 0, .int .i64 1])) W := fun W ht => retLoR_no ((unhide B1).trans (ht.below (unhide B1).size (fun k hk => by simp at hk; omega)))
  exact key _ (((((Turn.refl [w.heap.size + 1] w1).setCell (g := w.heap.size + 1) (by simp) _ _).setCell (g := w.heap.size + 1) (by simp) _ _).setCell (g := w.heap.size + 1) (by simp) _ _).setCell (g := w.heap.size + 1) (by simp) _ _)
set_option maxHeartbeats 6400000 in
theorem specLogOpen_down (d : DiskV) (v : Value) (w : World) (hs : SmallDisk d) (h : DiskRd w v d) (hg : diskOkB d = true) (hd : d.down = true) : Calls Try.prog 14 #[v] w fun e w' => RetLoR (loV d) (loR d) (loI d) w e w' := by
  obtain ⟨e1, e2, e3⟩ := lo_yes hg
  rw [e1, e2, e3]
  obtain ⟨e1, e2, e3⟩ := bo_down hd
  rw [e1, e2, e3]
  clear e1 e2 e3
  have HK := hide (fun W (b : Below w.heap.size w W) => specDiskOk_any d v W ⟨by have := hs.1; unfold maxLen; omega, by have := hs.2; unfold maxLen; omega⟩ (h.up b))
  rw [hg] at HK
  have HCP := hide (fun W (b : Below w.heap.size w W) => l6Copy_any d v W hs (h.up b))
  clear hg hs
  obtain ⟨v0, v1, rfl, h0, h1⟩ := h
  obtain ⟨p0, p2, rfl⟩ := h0.len
  obtain ⟨p3, p5, rfl⟩ := h1.len
  clear h0 h1
  obtain ⟨x0, y0, b0, z0⟩ := boxes2 w [.slice p0 d.safe.length p2, .slice p3 d.soft.length p5, .int .i64 d.fuse, .bool d.down] [.slice none 0 0, .slice none 0 0, .int .i64 0, .bool false] 35 35
  have X0 := hide x0
  have Y0 := hide y0
  have B0 := hide b0
  have Z0 := hide z0
  clear x0 y0 b0 z0
  rw [hd] at X0 Y0 B0 Z0 HK HCP ⊢
  have HDN := hide hd
  clear hd
  go_enter Try.func14, Try.ntmps14
  go_wp2_with fail
  refine (unhide HK _ (unhide B0)).mono ?_
  rintro e w1 ⟨rfl, b1⟩
  have X1 := hide ((unhide X0).up b1)
  have Y1 := hide ((unhide Y0).up b1)
  have B1 := hide ((unhide B0).trans (b1.mono (unhide B0).size))
  clear b1 X0 Y0 B0 HK
  obtain ⟨⟨xc0, xc1, xc2, xc3⟩, xc4, xc5, xc6, xc7⟩ := (unhide X1).four
  go_wp2_with fail
  refine (unhide HCP _ (unhide B1)).mono ?_
  rintro e w2 ⟨v2, v3, he, T5, b5⟩
  rw [unhide HDN] at he
  subst he
  have HZ := hide (show w.heap.size + 1 < w1.heap.size from (unhide Y1).1.1)
  obtain ⟨q0, q1, q2, rfl⟩ : ∃ a n c, v2 = .slice a n c := by obtain ⟨a, c, e⟩ := T5.1.slice; exact ⟨a, _, c, e⟩
  obtain ⟨q3, q4, q5, rfl⟩ : ∃ a n c, v3 = .slice a n c := by obtain ⟨a, c, e⟩ := T5.2.1.slice; exact ⟨a, _, c, e⟩
  have TT := hide T5
  have Y2 := hide ((unhide Y1).up b5)
  have B2 := hide ((unhide B1).trans (b5.mono (unhide B1).size))
  clear b5 T5 xc0 xc1 xc2 xc3 xc4 xc5 xc6 xc7
  obtain ⟨⟨yc0, yc1, yc2, yc3⟩, yc4, yc5, yc6, yc7⟩ := (unhide Y2).four
  go_wp2_with fail
  refine bodyPost_ret (v := .tuple #[.agg #[.slice q0 q1 q2, .slice q3 q4 q5, .int .i64 d.fuse, .bool true], .slice none 0 0, .int .i64 2]) (by simp [results, Try.results14, go_sem, yc0, yc1, yc2, yc3]) rfl ?_
  have key : ∀ W, Turn [w.heap.size + 1] w2 W → RetLoR d [] 2 w (.returned (.tuple #[.agg #[.slice q0 q1 q2, .slice q3 q4 q5, .int .i64 d.fuse, .bool d.down], .slice none 0 0, .int .i64 2])) W := fun W ht => by
    have tr := TwoRows.turn (unhide TT) ht (fun k hk => by have := unhide HZ; simp at hk; omega)
    exact ⟨_, _, rfl, hide ⟨_, _, rfl, tr.1.rd, tr.2.1.rd⟩, hide (recs_none W).rd, (unhide B2).trans (ht.below (unhide B2).size (fun k hk => by simp at hk; omega))⟩
  rw [unhide HDN] at key
  exact key _ (((((Turn.refl [w.heap.size + 1] w2).setCell (g := w.heap.size + 1) (by simp) _ _).setCell (g := w.heap.size + 1) (by simp) _ _).setCell (g := w.heap.size + 1) (by simp) _ _).setCell (g := w.heap.size + 1) (by simp) _ _)
set_option maxHeartbeats 6400000 in
theorem specLogOpen_whole (d : DiskV) (v : Value) (w : World) (hs : SmallDisk d) (h : DiskRd w v d) (hg : diskOkB d = true) (hd : d.down = false) (h1 : logE (bookL d) = (bookL d).length) : Calls Try.prog 14 #[v] w fun e w' => RetLoR (loV d) (loR d) (loI d) w e w' := by
  obtain ⟨e1, e2, e3⟩ := lo_yes hg
  rw [e1, e2, e3]
  obtain ⟨e1, e2, e3⟩ := bo_whole hd h1
  rw [e1, e2, e3]
  clear e1 e2 e3
  have hE : (((logE (bookL d) : Nat) : Int) == (((bookL d).length : Nat) : Int)) = true := by rw [h1]; simp
  have HK := hide (fun W (b : Below w.heap.size w W) => specDiskOk_any d v W ⟨by have := hs.1; unfold maxLen; omega, by have := hs.2; unfold maxLen; omega⟩ (h.up b))
  rw [hg] at HK
  have HAL := hide (fun W (b : Below w.heap.size w W) => specAll_any d v W ⟨by have := hs.1; unfold maxLen; omega, by have := hs.2; unfold maxLen; omega⟩ (h.up b))
  have HVE := hide (show allV d = bookL d from (allV_yes hg hd).1)
  have HLR := hide (fun (v : Value) (W : World) (hv : ByRd W v (bookL d)) => specLogRead_any (bookL d) v W (by have := disk_small hg; rw [bookL_len]; omega) hv)
  have HCP := hide (fun W (b : Below w.heap.size w W) => l6Copy_any d v W hs (h.up b))
  clear hg hs h1
  obtain ⟨v0, v1, rfl, h0, h1⟩ := h
  obtain ⟨p0, p2, rfl⟩ := h0.len
  obtain ⟨p3, p5, rfl⟩ := h1.len
  clear h0 h1
  obtain ⟨x0, y0, b0, z0⟩ := boxes2 w [.slice p0 d.safe.length p2, .slice p3 d.soft.length p5, .int .i64 d.fuse, .bool d.down] [.slice none 0 0, .slice none 0 0, .int .i64 0, .bool false] 35 35
  have X0 := hide x0
  have Y0 := hide y0
  have B0 := hide b0
  have Z0 := hide z0
  clear x0 y0 b0 z0
  rw [hd] at X0 Y0 B0 Z0 HK HCP HAL ⊢
  have HDN := hide hd
  clear hd
  go_enter Try.func14, Try.ntmps14
  go_wp2_with fail
  refine (unhide HK _ (unhide B0)).mono ?_
  rintro e w1 ⟨rfl, b1⟩
  have X1 := hide ((unhide X0).up b1)
  have Y1 := hide ((unhide Y0).up b1)
  have B1 := hide ((unhide B0).trans (b1.mono (unhide B0).size))
  clear b1 X0 Y0 B0 HK
  obtain ⟨⟨xc0, xc1, xc2, xc3⟩, xc4, xc5, xc6, xc7⟩ := (unhide X1).four
  go_wp2_with fail
  refine (unhide HAL _ (unhide B1)).mono ?_
  rintro e w3 ⟨xa, xn, xd, rfl, HN, r3, b3⟩
  have HAV := hide (show ByRd w3 (.slice xa xn xd) (bookL d) by have h := r3.rd; rw [unhide HVE] at h; exact h)
  have hxn : xn = (bookL d).length := by rw [unhide HN, unhide HVE]
  subst hxn
  clear r3 HN
  have X3 := hide ((unhide X1).up b3)
  have Y3 := hide ((unhide Y1).up b3)
  have B3 := hide ((unhide B1).trans (b3.mono (unhide B1).size))
  clear X1 Y1 B1
  clear b3
  clear xc0 xc1 xc2 xc3 xc4 xc5 xc6 xc7
  go_wp2_with fail
  refine (unhide HLR _ _ (unhide HAV)).mono ?_
  rintro e w4 ⟨vr, rfl, RL, b4⟩
  obtain ⟨ra, rc, hvr⟩ := (unhide RL).slice
  subst hvr
  have HZ3 := hide (show w.heap.size + 1 < w3.heap.size from (unhide Y3).1.1)
  have RL4 := hide ((unhide RL).mono (show w.heap.size + 2 ≤ w3.heap.size by have := unhide HZ3; omega))
  have X4 := hide ((unhide X3).up b4)
  have Y4 := hide ((unhide Y3).up b4)
  have B4 := hide ((unhide B3).trans (b4.mono (unhide B3).size))
  clear X3 Y3 B3
  clear b4 RL HAV HLR HAL HVE
  generalize logE (bookL d) = E at *
  generalize hRS : logRs (bookL d) = RS at *
  have HRS := hide hRS
  clear hRS
  obtain ⟨rl, hrl⟩ : ∃ rl, rl = RS.length := ⟨_, rfl⟩
  rw [← hrl] at RL4 ⊢
  have HRL := hide hrl
  clear hrl
  generalize (bookL d).length = bl at *
  generalize allB d = qb at *
  obtain ⟨⟨xc0, xc1, xc2, xc3⟩, xc4, xc5, xc6, xc7⟩ := (unhide X4).four
  go_wp2_with fail
  refine (unhide HCP _ (unhide B4)).mono ?_
  rintro e w5 ⟨v2, v3, he, T5, b5⟩
  rw [unhide HDN] at he
  subst he
  have HZ := hide (show w.heap.size + 1 < w4.heap.size from (unhide Y4).1.1)
  obtain ⟨q0, q1, q2, rfl⟩ : ∃ a n c, v2 = .slice a n c := by obtain ⟨a, c, e⟩ := T5.1.slice; exact ⟨a, _, c, e⟩
  obtain ⟨q3, q4, q5, rfl⟩ : ∃ a n c, v3 = .slice a n c := by obtain ⟨a, c, e⟩ := T5.2.1.slice; exact ⟨a, _, c, e⟩
  have TT := hide T5
  have Y5 := hide ((unhide Y4).up b5)
  have B5 := hide ((unhide B4).trans (b5.mono (unhide B4).size))
  have RL5 := hide ((unhide RL4).up b5)
  clear b5 T5 xc0 xc1 xc2 xc3 xc4 xc5 xc6 xc7
  obtain ⟨⟨yc0, yc1, yc2, yc3⟩, yc4, yc5, yc6, yc7⟩ := (unhide Y5).four
  go_wp2_with fail
  refine bodyPost_ret (v := .tuple #[.agg #[.slice q0 q1 q2, .slice q3 q4 q5, .int .i64 d.fuse, .bool false], .slice ra rl rc, .int .i64 0]) (by simp [results, Try.results14, go_sem, yc0, yc1, yc2, yc3]) rfl ?_
  have key : ∀ W, Turn [w.heap.size + 1] w5 W → RetLoR d RS 0 w (.returned (.tuple #[.agg #[.slice q0 q1 q2, .slice q3 q4 q5, .int .i64 d.fuse, .bool d.down], .slice ra rl rc, .int .i64 0])) W := fun W ht => by
    have tr := TwoRows.turn (unhide TT) ht (fun k hk => by have := unhide HZ; simp at hk; omega)
    exact ⟨_, _, rfl, hide ⟨_, _, rfl, tr.1.rd, tr.2.1.rd⟩, hide (RecSRd.keepT (unhide RL5) ht (by intro k hk; simp at hk; omega)), (unhide B5).trans (ht.below (unhide B5).size (fun k hk => by simp at hk; omega))⟩
  rw [unhide HDN, ← unhide HRS] at key
  exact key _ (((((Turn.refl [w.heap.size + 1] w5).setCell (g := w.heap.size + 1) (by simp) _ _).setCell (g := w.heap.size + 1) (by simp) _ _).setCell (g := w.heap.size + 1) (by simp) _ _).setCell (g := w.heap.size + 1) (by simp) _ _)
set_option maxHeartbeats 6400000 in
theorem specLogOpen_fell (d : DiskV) (v : Value) (w : World) (hs : SmallDisk d) (h : DiskRd w v d) (hg : diskOkB d = true) (hd : d.down = false) (h1 : ¬ logE (bookL d) = (bookL d).length) (hf : d.fuse = 0) : Calls Try.prog 14 #[v] w fun e w' => RetLoR (loV d) (loR d) (loI d) w e w' := by
  obtain ⟨e1, e2, e3⟩ := lo_yes hg
  rw [e1, e2, e3]
  obtain ⟨e1, e2, e3, hcc⟩ := bo_fell hd h1 hf
  rw [e1, e2, e3, hcc]
  clear e1 e2 e3
  generalize hOUT : cutOut d (logE (bookL d)) = OUT at *
  have hE : (((logE (bookL d) : Nat) : Int) == (((bookL d).length : Nat) : Int)) = false := by rw [beq_eq_false_iff_ne]; omega
  have hcg : cutGood d ((logE (bookL d) : Nat) : Int) = true := by
    have := (log_facts (bookL d)).2.1
    rw [bookL_len] at this
    simp [cutGood, hg]
    omega
  have HCU := hide (fun W (b : Below w.heap.size w W) => specCut_any d v ((logE (bookL d) : Nat) : Int) W hs (h.up b))
  rw [show cutV d ((logE (bookL d) : Nat) : Int) = OUT by rw [← hOUT]; simp [cutV, hcg], show cutI d ((logE (bookL d) : Nat) : Int) = 2 by simp [cutI, hcg, hcc]] at HCU
  clear hcg hcc hOUT
  have HK := hide (fun W (b : Below w.heap.size w W) => specDiskOk_any d v W ⟨by have := hs.1; unfold maxLen; omega, by have := hs.2; unfold maxLen; omega⟩ (h.up b))
  rw [hg] at HK
  have HAL := hide (fun W (b : Below w.heap.size w W) => specAll_any d v W ⟨by have := hs.1; unfold maxLen; omega, by have := hs.2; unfold maxLen; omega⟩ (h.up b))
  have HVE := hide (show allV d = bookL d from (allV_yes hg hd).1)
  have HLR := hide (fun (v : Value) (W : World) (hv : ByRd W v (bookL d)) => specLogRead_any (bookL d) v W (by have := disk_small hg; rw [bookL_len]; omega) hv)
  clear hg hs h1 hf
  obtain ⟨v0, v1, rfl, h0, h1⟩ := h
  obtain ⟨p0, p2, rfl⟩ := h0.len
  obtain ⟨p3, p5, rfl⟩ := h1.len
  clear h0 h1
  obtain ⟨x0, y0, b0, z0⟩ := boxes2 w [.slice p0 d.safe.length p2, .slice p3 d.soft.length p5, .int .i64 d.fuse, .bool d.down] [.slice none 0 0, .slice none 0 0, .int .i64 0, .bool false] 35 35
  have X0 := hide x0
  have Y0 := hide y0
  have B0 := hide b0
  have Z0 := hide z0
  clear x0 y0 b0 z0
  rw [hd] at X0 Y0 B0 Z0 HK HCU HAL ⊢
  have HDN := hide hd
  clear hd
  go_enter Try.func14, Try.ntmps14
  go_wp2_with fail
  refine (unhide HK _ (unhide B0)).mono ?_
  rintro e w1 ⟨rfl, b1⟩
  have X1 := hide ((unhide X0).up b1)
  have Y1 := hide ((unhide Y0).up b1)
  have B1 := hide ((unhide B0).trans (b1.mono (unhide B0).size))
  clear b1 X0 Y0 B0 HK
  obtain ⟨⟨xc0, xc1, xc2, xc3⟩, xc4, xc5, xc6, xc7⟩ := (unhide X1).four
  go_wp2_with fail
  refine (unhide HAL _ (unhide B1)).mono ?_
  rintro e w3 ⟨xa, xn, xd, rfl, HN, r3, b3⟩
  have HAV := hide (show ByRd w3 (.slice xa xn xd) (bookL d) by have h := r3.rd; rw [unhide HVE] at h; exact h)
  have hxn : xn = (bookL d).length := by rw [unhide HN, unhide HVE]
  subst hxn
  clear r3 HN
  have X3 := hide ((unhide X1).up b3)
  have Y3 := hide ((unhide Y1).up b3)
  have B3 := hide ((unhide B1).trans (b3.mono (unhide B1).size))
  clear X1 Y1 B1
  clear b3
  clear xc0 xc1 xc2 xc3 xc4 xc5 xc6 xc7
  go_wp2_with fail
  refine (unhide HLR _ _ (unhide HAV)).mono ?_
  rintro e w4 ⟨vr, rfl, RL, b4⟩
  obtain ⟨ra, rc, hvr⟩ := (unhide RL).slice
  subst hvr
  have HZ3 := hide (show w.heap.size + 1 < w3.heap.size from (unhide Y3).1.1)
  have RL4 := hide ((unhide RL).mono (show w.heap.size + 2 ≤ w3.heap.size by have := unhide HZ3; omega))
  have X4 := hide ((unhide X3).up b4)
  have Y4 := hide ((unhide Y3).up b4)
  have B4 := hide ((unhide B3).trans (b4.mono (unhide B3).size))
  clear X3 Y3 B3
  clear b4 RL HAV HLR HAL HVE
  generalize logE (bookL d) = E at *
  generalize hRS : logRs (bookL d) = RS at *
  have HRS := hide hRS
  clear hRS
  obtain ⟨rl, hrl⟩ : ∃ rl, rl = RS.length := ⟨_, rfl⟩
  rw [← hrl] at RL4 ⊢
  have HRL := hide hrl
  clear hrl
  generalize (bookL d).length = bl at *
  generalize allB d = qb at *
  obtain ⟨⟨xc0, xc1, xc2, xc3⟩, xc4, xc5, xc6, xc7⟩ := (unhide X4).four
  go_wp2_with fail
  refine (unhide HCU _ (unhide B4)).mono ?_
  rintro e w6 ⟨vo, SS, rfl, O6, L6, b6⟩
  obtain ⟨o0, o1, o2, o3, o4, o5, o6, o7, rfl⟩ := (unhide O6).rd.form
  have HZ5 := hide (show w.heap.size + 1 < w4.heap.size from (unhide Y4).1.1)
  have Y6 := hide ((unhide Y4).up b6)
  have B6 := hide ((unhide B4).trans (b6.mono (unhide B4).size))
  have RL6 := hide ((unhide RL4).up b6)
  clear X4 Y4 B4 b6 HCU RL4
  clear xc0 xc1 xc2 xc3 xc4 xc5 xc6 xc7
  have bO := (Below.refl w6.heap.size w6).alloc (Nat.le_refl _) (.cells #[.slice o0 o1 o2, .slice o3 o4 o5, .int .i64 o6, .bool o7] 35)
  have OX := hide (boxF_new4 w6 (.slice o0 o1 o2) (.slice o3 o4 o5) (.int .i64 o6) (.bool o7) 35)
  have O7 := hide ((unhide O6).up bO)
  have Y7 := hide ((unhide Y6).up bO)
  have RL7 := hide ((unhide RL6).up bO)
  have B7 := hide ((unhide B6).trans (bO.mono (unhide B6).size))
  clear bO O6 Y6 B6 RL6
  obtain ⟨⟨oc0, oc1, oc2, oc3⟩, oc4, oc5, oc6, oc7⟩ := (unhide OX).four
  obtain ⟨⟨yc0, yc1, yc2, yc3⟩, yc4, yc5, yc6, yc7⟩ := (unhide Y7).four
  have key : ∀ W, Turn [w.heap.size + 1] (w6.alloc (.cells #[.slice o0 o1 o2, .slice o3 o4 o5, .int .i64 o6, .bool o7] 35)) W → RetLoR OUT [] 2 w (.returned (.tuple #[.agg #[.slice o0 o1 o2, .slice o3 o4 o5, .int .i64 o6, .bool o7], .slice none 0 0, .int .i64 2])) W := fun W ht =>
    ⟨_, _, rfl, hide ((unhide O7).turn ht (fun k hk hm => by have := unhide L6 k hk; have := unhide HZ5; simp at hm; omega)).rd, hide (recs_none W).rd, (unhide B7).trans (ht.below (unhide B7).size (fun k hk => by simp at hk; omega))⟩
  have KEY := hide key
  clear key
  go_wp2_with fail
  refine bodyPost_ret (v := .tuple #[.agg #[.slice o0 o1 o2, .slice o3 o4 o5, .int .i64 o6, .bool o7], .slice none 0 0, .int .i64 2]) (by simp [results, Try.results14, go_sem, yc0, yc1, yc2, yc3]) rfl ?_
  exact unhide KEY _ (((((Turn.refl [w.heap.size + 1] _).setCell (g := w.heap.size + 1) (by simp) _ _).setCell (g := w.heap.size + 1) (by simp) _ _).setCell (g := w.heap.size + 1) (by simp) _ _).setCell (g := w.heap.size + 1) (by simp) _ _)
set_option maxHeartbeats 6400000 in
theorem specLogOpen_cut (d : DiskV) (v : Value) (w : World) (hs : SmallDisk d) (h : DiskRd w v d) (hg : diskOkB d = true) (hd : d.down = false) (h1 : ¬ logE (bookL d) = (bookL d).length) (hf : d.fuse ≠ 0) : Calls Try.prog 14 #[v] w fun e w' => RetLoR (loV d) (loR d) (loI d) w e w' := by
  obtain ⟨e1, e2, e3⟩ := lo_yes hg
  rw [e1, e2, e3]
  obtain ⟨e1, e2, e3⟩ := bo_cut hd h1 hf
  rw [e1, e2, e3]
  clear e1 e2 e3
  have hcc : cutCode d = 0 := by simp [cutCode, hd, hf]
  have hco : cutOut d (logE (bookL d)) = cutD d (logE (bookL d)) := by simp [cutOut, hd, hf]
  rw [← hco]
  clear hco
  generalize hOUT : cutOut d (logE (bookL d)) = OUT at *
  have hE : (((logE (bookL d) : Nat) : Int) == (((bookL d).length : Nat) : Int)) = false := by rw [beq_eq_false_iff_ne]; omega
  have hcg : cutGood d ((logE (bookL d) : Nat) : Int) = true := by
    have := (log_facts (bookL d)).2.1
    rw [bookL_len] at this
    simp [cutGood, hg]
    omega
  have HCU := hide (fun W (b : Below w.heap.size w W) => specCut_any d v ((logE (bookL d) : Nat) : Int) W hs (h.up b))
  rw [show cutV d ((logE (bookL d) : Nat) : Int) = OUT by rw [← hOUT]; simp [cutV, hcg], show cutI d ((logE (bookL d) : Nat) : Int) = 0 by simp [cutI, hcg, hcc]] at HCU
  clear hcg hcc hOUT
  have HK := hide (fun W (b : Below w.heap.size w W) => specDiskOk_any d v W ⟨by have := hs.1; unfold maxLen; omega, by have := hs.2; unfold maxLen; omega⟩ (h.up b))
  rw [hg] at HK
  have HAL := hide (fun W (b : Below w.heap.size w W) => specAll_any d v W ⟨by have := hs.1; unfold maxLen; omega, by have := hs.2; unfold maxLen; omega⟩ (h.up b))
  have HVE := hide (show allV d = bookL d from (allV_yes hg hd).1)
  have HLR := hide (fun (v : Value) (W : World) (hv : ByRd W v (bookL d)) => specLogRead_any (bookL d) v W (by have := disk_small hg; rw [bookL_len]; omega) hv)
  clear hg hs h1 hf
  obtain ⟨v0, v1, rfl, h0, h1⟩ := h
  obtain ⟨p0, p2, rfl⟩ := h0.len
  obtain ⟨p3, p5, rfl⟩ := h1.len
  clear h0 h1
  obtain ⟨x0, y0, b0, z0⟩ := boxes2 w [.slice p0 d.safe.length p2, .slice p3 d.soft.length p5, .int .i64 d.fuse, .bool d.down] [.slice none 0 0, .slice none 0 0, .int .i64 0, .bool false] 35 35
  have X0 := hide x0
  have Y0 := hide y0
  have B0 := hide b0
  have Z0 := hide z0
  clear x0 y0 b0 z0
  rw [hd] at X0 Y0 B0 Z0 HK HCU HAL ⊢
  have HDN := hide hd
  clear hd
  go_enter Try.func14, Try.ntmps14
  go_wp2_with fail
  refine (unhide HK _ (unhide B0)).mono ?_
  rintro e w1 ⟨rfl, b1⟩
  have X1 := hide ((unhide X0).up b1)
  have Y1 := hide ((unhide Y0).up b1)
  have B1 := hide ((unhide B0).trans (b1.mono (unhide B0).size))
  clear b1 X0 Y0 B0 HK
  obtain ⟨⟨xc0, xc1, xc2, xc3⟩, xc4, xc5, xc6, xc7⟩ := (unhide X1).four
  go_wp2_with fail
  refine (unhide HAL _ (unhide B1)).mono ?_
  rintro e w3 ⟨xa, xn, xd, rfl, HN, r3, b3⟩
  have HAV := hide (show ByRd w3 (.slice xa xn xd) (bookL d) by have h := r3.rd; rw [unhide HVE] at h; exact h)
  have hxn : xn = (bookL d).length := by rw [unhide HN, unhide HVE]
  subst hxn
  clear r3 HN
  have X3 := hide ((unhide X1).up b3)
  have Y3 := hide ((unhide Y1).up b3)
  have B3 := hide ((unhide B1).trans (b3.mono (unhide B1).size))
  clear X1 Y1 B1
  clear b3
  clear xc0 xc1 xc2 xc3 xc4 xc5 xc6 xc7
  go_wp2_with fail
  refine (unhide HLR _ _ (unhide HAV)).mono ?_
  rintro e w4 ⟨vr, rfl, RL, b4⟩
  obtain ⟨ra, rc, hvr⟩ := (unhide RL).slice
  subst hvr
  have HZ3 := hide (show w.heap.size + 1 < w3.heap.size from (unhide Y3).1.1)
  have RL4 := hide ((unhide RL).mono (show w.heap.size + 2 ≤ w3.heap.size by have := unhide HZ3; omega))
  have X4 := hide ((unhide X3).up b4)
  have Y4 := hide ((unhide Y3).up b4)
  have B4 := hide ((unhide B3).trans (b4.mono (unhide B3).size))
  clear X3 Y3 B3
  clear b4 RL HAV HLR HAL HVE
  generalize logE (bookL d) = E at *
  generalize hRS : logRs (bookL d) = RS at *
  have HRS := hide hRS
  clear hRS
  obtain ⟨rl, hrl⟩ : ∃ rl, rl = RS.length := ⟨_, rfl⟩
  rw [← hrl] at RL4 ⊢
  have HRL := hide hrl
  clear hrl
  generalize (bookL d).length = bl at *
  generalize allB d = qb at *
  obtain ⟨⟨xc0, xc1, xc2, xc3⟩, xc4, xc5, xc6, xc7⟩ := (unhide X4).four
  go_wp2_with fail
  refine (unhide HCU _ (unhide B4)).mono ?_
  rintro e w6 ⟨vo, SS, rfl, O6, L6, b6⟩
  obtain ⟨o0, o1, o2, o3, o4, o5, o6, o7, rfl⟩ := (unhide O6).rd.form
  have HZ5 := hide (show w.heap.size + 1 < w4.heap.size from (unhide Y4).1.1)
  have Y6 := hide ((unhide Y4).up b6)
  have B6 := hide ((unhide B4).trans (b6.mono (unhide B4).size))
  have RL6 := hide ((unhide RL4).up b6)
  clear X4 Y4 B4 b6 HCU RL4
  clear xc0 xc1 xc2 xc3 xc4 xc5 xc6 xc7
  have bO := (Below.refl w6.heap.size w6).alloc (Nat.le_refl _) (.cells #[.slice o0 o1 o2, .slice o3 o4 o5, .int .i64 o6, .bool o7] 35)
  have OX := hide (boxF_new4 w6 (.slice o0 o1 o2) (.slice o3 o4 o5) (.int .i64 o6) (.bool o7) 35)
  have O7 := hide ((unhide O6).up bO)
  have Y7 := hide ((unhide Y6).up bO)
  have RL7 := hide ((unhide RL6).up bO)
  have B7 := hide ((unhide B6).trans (bO.mono (unhide B6).size))
  clear bO O6 Y6 B6 RL6
  obtain ⟨⟨oc0, oc1, oc2, oc3⟩, oc4, oc5, oc6, oc7⟩ := (unhide OX).four
  obtain ⟨⟨yc0, yc1, yc2, yc3⟩, yc4, yc5, yc6, yc7⟩ := (unhide Y7).four
  have key : ∀ W, Turn [w.heap.size + 1] (w6.alloc (.cells #[.slice o0 o1 o2, .slice o3 o4 o5, .int .i64 o6, .bool o7] 35)) W → RetLoR OUT RS 0 w (.returned (.tuple #[.agg #[.slice o0 o1 o2, .slice o3 o4 o5, .int .i64 o6, .bool o7], .slice ra rl rc, .int .i64 0])) W := fun W ht =>
    ⟨_, _, rfl, hide ((unhide O7).turn ht (fun k hk hm => by have := unhide L6 k hk; have := unhide HZ5; simp at hm; omega)).rd, hide (RecSRd.keepT (unhide RL7) ht (by intro k hk; simp at hk; omega)), (unhide B7).trans (ht.below (unhide B7).size (fun k hk => by simp at hk; omega))⟩
  have KEY := hide key
  clear key
  go_wp2_with fail
  refine bodyPost_ret (v := .tuple #[.agg #[.slice o0 o1 o2, .slice o3 o4 o5, .int .i64 o6, .bool o7], .slice ra rl rc, .int .i64 0]) (by simp [results, Try.results14, go_sem, yc0, yc1, yc2, yc3]) rfl ?_
  rw [← unhide HRS] at KEY
  exact unhide KEY _ (((((Turn.refl [w.heap.size + 1] _).setCell (g := w.heap.size + 1) (by simp) _ _).setCell (g := w.heap.size + 1) (by simp) _ _).setCell (g := w.heap.size + 1) (by simp) _ _).setCell (g := w.heap.size + 1) (by simp) _ _)
theorem specLogOpen_any (d : DiskV) (v : Value) (w : World) (hs : SmallDisk d) (h : DiskRd w v d) : Calls Try.prog 14 #[v] w fun e w' => RetLoR (loV d) (loR d) (loI d) w e w' := by
  cases hg : diskOkB d
  · exact specLogOpen_bad d v w hs h hg
  · cases hd : d.down
    · by_cases h1 : logE (bookL d) = (bookL d).length
      · exact specLogOpen_whole d v w hs h hg hd h1
      · by_cases hf : d.fuse = 0
        · exact specLogOpen_fell d v w hs h hg hd h1 hf
        · exact specLogOpen_cut d v w hs h hg hd h1 hf
    · exact specLogOpen_down d v w hs h hg hd
end Go.Proofs.Ytddmomcanakoiaa
