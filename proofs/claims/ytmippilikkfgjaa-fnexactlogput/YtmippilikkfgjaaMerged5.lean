/-
  DiskSync of the program.
-/
/-
  A record put behind a log: what the disk is then.
-/
import Derived.Test.YtmippilikkfgjaaMerged4
import Derived.Test.YtmippilikkfgjaaLogRd
import Derived.Test.YtmippilikkfgjaaSpecWriteN
set_option linter.unusedVariables false
namespace Go.Proofs.Ytmippilikkfgjaa
open Go.RowKit Go.Maps Go.Deep

def syncV (d : DiskV) : DiskV := if diskOkB d then cutOut d (d.safe.length + d.soft.length) else noDisk
def syncI (d : DiskV) : Int := if diskOkB d then cutCode d else 1
theorem sync_no {d : DiskV} (h : diskOkB d = false) : syncV d = noDisk ∧ syncI d = 1 := by simp [syncV, syncI, h]
set_option maxHeartbeats 3200000 in
theorem driveSync_any (B : Nat) (w : World) (g : Nat) (v0 v1 : Value) (d : DiskV) (hl : d.safe.length + d.soft.length ≤ 8000) (hB : B ≤ w.heap.size) (h : Drive B w g v0 v1 d) (hf1 : -1 ≤ d.fuse) (hf2 : d.fuse ≤ 400) :
    Calls Try.prog 56 #[.pointer (some ⟨g, 0, none⟩)] w fun e w' => RetCut B g d (d.safe.length + d.soft.length) w e w' := by
  have HD := hide h
  have c0 := h.c0
  have c1 := h.c1
  have c2 := h.c2
  have c3 := h.c3
  obtain ⟨a0, q0, rfl⟩ := h.r0.slice
  obtain ⟨a1, q1, rfl⟩ := h.r1.slice
  clear h
  go_enter Try.func56, Try.ntmps56
  go_wp2_with fail
  refine (size_val _ _ _ _ _ _ _ _ _ (by omega) (by omega)).mono ?_
  rintro e w1 ⟨rfl, b1⟩
  have D1 := hide ((unhide HD).up b1)
  have B1 := hide (b1.mono hB)
  have hz := b1.size
  clear b1 c0 c1 c2 c3
  go_wp2_with fail
  have HC := driveCut_any B w1 g (d.safe.length + d.soft.length) _ _ d hl (by omega) (Nat.le_refl _) (unhide D1) hf1 hf2
  rw [show ((d.safe.length + d.soft.length : Nat) : Int) = (d.safe.length : Int) + (d.soft.length : Int) by omega] at HC
  refine HC.mono ?_
  rintro e w2 ⟨rfl, P⟩
  have HP := hide P
  clear P HC
  generalize hC : cutCode d = CC at *
  go_wp2_with fail
  go_ret
  subst hC
  obtain ⟨v, v1, p1, p2⟩ := unhide HP
  exact ⟨rfl, v, v1, p1, (unhide B1).trans p2⟩
end Go.Proofs.Ytmippilikkfgjaa

set_option linter.unusedVariables false
namespace Go.Proofs.Ytmippilikkfgjaa
open Go.RowKit Go.Maps Go.Deep

def bookL (d : DiskV) : List UInt8 := d.safe ++ d.soft
theorem bookL_len (d : DiskV) : (bookL d).length = d.safe.length + d.soft.length := by simp [bookL]
def pbD (d : DiskV) (bs : List UInt8) : DiskV := if d.down = true then d else if logE (bookL d) < (bookL d).length then d else if (logRs (bookL d)).length = 200 then d else if wrCode d bs = 0 then cutOut (wrOut d bs) ((wrOut d bs).safe.length + (wrOut d bs).soft.length) else wrOut d bs
def pbC (d : DiskV) (bs : List UInt8) : Int := if d.down = true then 2 else if logE (bookL d) < (bookL d).length then 1 else if (logRs (bookL d)).length = 200 then 3 else if wrCode d bs = 0 then cutCode (wrOut d bs) else wrCode d bs
theorem pb_down {d : DiskV} {bs : List UInt8} (h : d.down = true) : pbD d bs = d ∧ pbC d bs = 2 := by simp [pbD, pbC, h]
theorem pb_cut {d : DiskV} {bs : List UInt8} (h : d.down = false) (h1 : logE (bookL d) < (bookL d).length) : pbD d bs = d ∧ pbC d bs = 1 := by simp [pbD, pbC, h, h1]
theorem pb_full {d : DiskV} {bs : List UInt8} (h : d.down = false) (h1 : ¬ logE (bookL d) < (bookL d).length) (h2 : (logRs (bookL d)).length = 200) : pbD d bs = d ∧ pbC d bs = 3 := by simp [pbD, pbC, h, h1, h2]
theorem pb_no {d : DiskV} {bs : List UInt8} (h : d.down = false) (h1 : ¬ logE (bookL d) < (bookL d).length) (h2 : ¬ (logRs (bookL d)).length = 200) (h3 : ¬ wrCode d bs = 0) : pbD d bs = wrOut d bs ∧ pbC d bs = wrCode d bs := by simp [pbD, pbC, h, h1, h2, h3]
theorem pb_yes {d : DiskV} {bs : List UInt8} (h : d.down = false) (h1 : ¬ logE (bookL d) < (bookL d).length) (h2 : ¬ (logRs (bookL d)).length = 200) (h3 : wrCode d bs = 0) : pbD d bs = cutOut (wrOut d bs) ((wrOut d bs).safe.length + (wrOut d bs).soft.length) ∧ pbC d bs = cutCode (wrOut d bs) := by simp [pbD, pbC, h, h1, h2, h3]
theorem wr_ok {d : DiskV} {bs : List UInt8} (h : diskOkB d = true) (hc : wrCode d bs = 0) : diskOkB (wrOut d bs) = true := by
  unfold wrCode at hc
  split at hc
  · cases hc
  · rename_i hd
    split at hc
    · cases hc
    · rename_i hf
      unfold actC at hc
      split at hc
      · cases hc
      · rename_i hg
        have hg' : goneB d bs = false := by simpa using hg
        have hd' : d.down = false := by simpa using hd
        simp only [wrOut, if_neg hd, if_neg hf, actD, if_neg hg, atD, List.take_length, fz]
        simp only [goneB, Bool.and_eq_false_iff, decide_eq_false_iff_not] at hg'
        simp only [diskOkB, hd', Bool.and_eq_true, decide_eq_true_eq, Bool.not_false, Bool.true_or, and_true, List.length_append] at h ⊢
        split <;> omega
theorem pbC_one {d : DiskV} {bs : List UInt8} : pbC d bs = 1 ↔ d.down = false ∧ logE (bookL d) < (bookL d).length := by
  have hw : wrCode d bs ≠ 1 := by unfold wrCode actC; (repeat' split) <;> simp
  have hc : ∀ e, cutCode e ≠ 1 := fun e => by unfold cutCode; (repeat' split) <;> simp
  unfold pbC
  cases d.down
  · by_cases h1 : logE (bookL d) < (bookL d).length
    · simp [h1]
    · by_cases h2 : (logRs (bookL d)).length = 200
      · simp [h1, h2]
      · by_cases h3 : wrCode d bs = 0
        · simp [h1, h2, h3, hc]
        · simp [h1, h2, h3, hw]
  · simp
def lpG (d : DiskV) (r : RecV) : Bool := diskOkB d && recOkB r
def lpV (d : DiskV) (r : RecV) : DiskV := if lpG d r = true then (if pbC d (recBytesL r) = 1 then noDisk else pbD d (recBytesL r)) else noDisk
def lpI (d : DiskV) (r : RecV) : Int := if lpG d r = true then pbC d (recBytesL r) else 1
theorem lp_bad {d : DiskV} {r : RecV} (h : lpG d r = false) : lpV d r = noDisk ∧ lpI d r = 1 := by simp [lpV, lpI, h]
theorem lp_cut {d : DiskV} {r : RecV} (h : lpG d r = true) (hc : pbC d (recBytesL r) = 1) : lpV d r = noDisk ∧ lpI d r = 1 := by simp [lpV, lpI, h, hc]
theorem lp_yes {d : DiskV} {r : RecV} (h : lpG d r = true) (hc : ¬ pbC d (recBytesL r) = 1) : lpV d r = pbD d (recBytesL r) ∧ lpI d r = pbC d (recBytesL r) := by simp [lpV, lpI, h, hc]
theorem small_cutOut {d : DiskV} {n : Nat} (h : SmallDisk d) (h8 : d.safe.length + d.soft.length ≤ 8000) : SmallDisk (cutOut d n) := by
  unfold cutOut
  split
  · exact h
  · split
    · unfold SmallDisk fellD
      simp
      omega
    · unfold SmallDisk cutD
      simp
      omega
theorem small_lpV {d : DiskV} (h : SmallDisk d) (r : RecV) : SmallDisk (lpV d r) := by
  have none : SmallDisk noDisk := by simp [SmallDisk, noDisk]
  unfold lpV
  split
  · rename_i hg
    have hk : diskOkB d = true := by simp only [lpG, Bool.and_eq_true] at hg; exact hg.1
    have hw : SmallDisk (wrOut d (recBytesL r)) := by have h' := small_wrV (bs := recBytesL r) h; simpa [wrV, hk] using h'
    split
    · exact none
    · unfold pbD
      split
      · exact h
      · split
        · exact h
        · split
          · exact h
          · split
            · rename_i h3
              exact small_cutOut hw (disk_small (wr_ok hk h3))
            · exact hw
  · exact none
end Go.Proofs.Ytmippilikkfgjaa
