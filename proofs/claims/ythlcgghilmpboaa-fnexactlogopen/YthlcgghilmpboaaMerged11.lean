/-
  A record put behind a log: what the disk is then.
-/
/-
  A log that is opened: what it tells and what the disk is then. (Made by wip/mklogopen.py.)
-/
import Derived.Test.YthlcgghilmpboaaLogRd
import Derived.Test.YthlcgghilmpboaaMerged2
set_option linter.unusedVariables false
namespace Go.Proofs.Ythlcgghilmpboaa
open Go.RowKit Go.Maps Go.Deep

def bookL (d : DiskV) : List UInt8 := d.safe ++ d.soft
theorem bookL_len (d : DiskV) : (bookL d).length = d.safe.length + d.soft.length := by simp [bookL]
def pbD (d : DiskV) (bs : List UInt8) : DiskV := if d.down = true then d else if logE (bookL d) < (bookL d).length then d else if (logRs (bookL d)).length = 200 then d else if wrCode d bs = 0 then cutOut (wrOut d bs) ((wrOut d bs).safe.length + (wrOut d bs).soft.length) else wrOut d bs
def pbC (d : DiskV) (bs : List UInt8) : Int := if d.down = true then 2 else if logE (bookL d) < (bookL d).length then 1 else if (logRs (bookL d)).length = 200 then 3 else if wrCode d bs = 0 then cutCode (wrOut d bs) else wrCode d bs
theorem pb_down {d : DiskV} {bs : List UInt8} (h : d.down = true) : pbD d bs = d ∧ pbC d bs = 2 := by simp [pbD, pbC, h]
theorem pb_cut {d : DiskV} {bs : List UInt8} (h : d.down = false) (h1 : logE (bookL d) < (bookL d).length) : pbD d bs = d ∧ pbC d bs = 1 := by simp [pbD, pbC, h, h1]
theorem pb_full {d : DiskV} {bs : List UInt8} (h : d.down = false) (h1 : ¬ logE (bookL d) < (bookL d).length) (h2 : (logRs (bookL d)).length = 200) : pbD d bs = d ∧ pbC d bs = 3 := by simp [pbD, pbC, h, h1, h2]
theorem pb_no {d : DiskV} {bs : List UInt8} (h : d.down = false) (h1 : ¬ logE (bookL d) < (bookL d).length) (h2 : ¬ (logRs (bookL d)).length = 200) (h3 : ¬ wrCode d bs = 0) : pbD d bs = wrOut d bs ∧ pbC d bs = wrCode d bs := by simp [pbD, pbC, h, h1, h2, h3]
theorem pb_yes {d : DiskV} {bs : List UInt8} (h : d.down = false) (h1 : ¬ logE (bookL d) < (bookL d).length) (h2 : ¬ (logRs (bookL d)).length = 200) (h3 : wrCode d bs = 0) : pbD d bs = cutOut (wrOut d bs) ((wrOut d bs).safe.length + (wrOut d bs).soft.length) ∧ pbC d bs = cutCode (wrOut d bs) := by simp [pbD, pbC, h, h1, h2, h3]
theorem wr_ok {d : DiskV} {bs : List UInt8} (h : diskOkB d = true) (hc : wrCode d bs = 0) : diskOkB (wrOut d bs) = true := by
  unfold wrCode at hc
  split at hc
  · cases hc
  · rename_i hd
    split at hc
    · cases hc
    · rename_i hf
      unfold actC at hc
      split at hc
      · cases hc
      · rename_i hg
        have hg' : goneB d bs = false := by simpa using hg
        have hd' : d.down = false := by simpa using hd
        simp only [wrOut, if_neg hd, if_neg hf, actD, if_neg hg, atD, List.take_length, fz]
        simp only [goneB, Bool.and_eq_false_iff, decide_eq_false_iff_not] at hg'
        simp only [diskOkB, hd', Bool.and_eq_true, decide_eq_true_eq, Bool.not_false, Bool.true_or, and_true, List.length_append] at h ⊢
        split <;> omega
theorem pbC_one {d : DiskV} {bs : List UInt8} : pbC d bs = 1 ↔ d.down = false ∧ logE (bookL d) < (bookL d).length := by
  have hw : wrCode d bs ≠ 1 := by unfold wrCode actC; (repeat' split) <;> simp
  have hc : ∀ e, cutCode e ≠ 1 := fun e => by unfold cutCode; (repeat' split) <;> simp
  unfold pbC
  cases d.down
  · by_cases h1 : logE (bookL d) < (bookL d).length
    · simp [h1]
    · by_cases h2 : (logRs (bookL d)).length = 200
      · simp [h1, h2]
      · by_cases h3 : wrCode d bs = 0
        · simp [h1, h2, h3, hc]
        · simp [h1, h2, h3, hw]
  · simp
def lpG (d : DiskV) (r : RecV) : Bool := diskOkB d && recOkB r
def lpV (d : DiskV) (r : RecV) : DiskV := if lpG d r = true then (if pbC d (recBytesL r) = 1 then noDisk else pbD d (recBytesL r)) else noDisk
def lpI (d : DiskV) (r : RecV) : Int := if lpG d r = true then pbC d (recBytesL r) else 1
theorem lp_bad {d : DiskV} {r : RecV} (h : lpG d r = false) : lpV d r = noDisk ∧ lpI d r = 1 := by simp [lpV, lpI, h]
theorem lp_cut {d : DiskV} {r : RecV} (h : lpG d r = true) (hc : pbC d (recBytesL r) = 1) : lpV d r = noDisk ∧ lpI d r = 1 := by simp [lpV, lpI, h, hc]
theorem lp_yes {d : DiskV} {r : RecV} (h : lpG d r = true) (hc : ¬ pbC d (recBytesL r) = 1) : lpV d r = pbD d (recBytesL r) ∧ lpI d r = pbC d (recBytesL r) := by simp [lpV, lpI, h, hc]
theorem small_cutOut {d : DiskV} {n : Nat} (h : SmallDisk d) (h8 : d.safe.length + d.soft.length ≤ 8000) : SmallDisk (cutOut d n) := by
  unfold cutOut
  split
  · exact h
  · split
    · unfold SmallDisk fellD
      simp
      omega
    · unfold SmallDisk cutD
      simp
      omega
theorem small_lpV {d : DiskV} (h : SmallDisk d) (r : RecV) : SmallDisk (lpV d r) := by
  have none : SmallDisk noDisk := by simp [SmallDisk, noDisk]
  unfold lpV
  split
  · rename_i hg
    have hk : diskOkB d = true := by simp only [lpG, Bool.and_eq_true] at hg; exact hg.1
    have hw : SmallDisk (wrOut d (recBytesL r)) := by have h' := small_wrV (bs := recBytesL r) h; simpa [wrV, hk] using h'
    split
    · exact none
    · unfold pbD
      split
      · exact h
      · split
        · exact h
        · split
          · exact h
          · split
            · rename_i h3
              exact small_cutOut hw (disk_small (wr_ok hk h3))
            · exact hw
  · exact none
end Go.Proofs.Ythlcgghilmpboaa

set_option linter.unusedVariables false
namespace Go.Proofs.Ythlcgghilmpboaa
open Go.RowKit Go.Maps Go.Deep

def boD (d : DiskV) : DiskV := if d.down = true then d else if logE (bookL d) = (bookL d).length then d else cutOut d (logE (bookL d))
def boR (d : DiskV) : List RecV := if d.down = true then [] else if logE (bookL d) = (bookL d).length then logRs (bookL d) else if cutCode d = 0 then logRs (bookL d) else []
def boI (d : DiskV) : Int := if d.down = true then 2 else if logE (bookL d) = (bookL d).length then 0 else cutCode d
theorem bo_down {d : DiskV} (h : d.down = true) : boD d = d ∧ boR d = [] ∧ boI d = 2 := by simp [boD, boR, boI, h]
theorem bo_whole {d : DiskV} (h : d.down = false) (h1 : logE (bookL d) = (bookL d).length) : boD d = d ∧ boR d = logRs (bookL d) ∧ boI d = 0 := by simp [boD, boR, boI, h, h1]
theorem bo_fell {d : DiskV} (h : d.down = false) (h1 : ¬ logE (bookL d) = (bookL d).length) (hf : d.fuse = 0) : boD d = cutOut d (logE (bookL d)) ∧ boR d = [] ∧ boI d = cutCode d ∧ cutCode d = 2 := by simp [boD, boR, boI, h, h1, hf, cutCode]
theorem bo_cut {d : DiskV} (h : d.down = false) (h1 : ¬ logE (bookL d) = (bookL d).length) (hf : d.fuse ≠ 0) : boD d = cutD d (logE (bookL d)) ∧ boR d = logRs (bookL d) ∧ boI d = 0 := by simp [boD, boR, boI, h, h1, hf, cutOut, cutCode]
def loV (d : DiskV) : DiskV := if diskOkB d = true then boD d else noDisk
def loR (d : DiskV) : List RecV := if diskOkB d = true then boR d else []
def loI (d : DiskV) : Int := if diskOkB d = true then boI d else 1
theorem lo_bad {d : DiskV} (h : diskOkB d = false) : loV d = noDisk ∧ loR d = [] ∧ loI d = 1 := by simp [loV, loR, loI, h]
theorem lo_yes {d : DiskV} (h : diskOkB d = true) : loV d = boD d ∧ loR d = boR d ∧ loI d = boI d := by simp [loV, loR, loI, h]
theorem small_loV {d : DiskV} (h : SmallDisk d) : SmallDisk (loV d) := by
  unfold loV
  split
  · rename_i hb
    have h8 := disk_small (d := d) hb
    unfold boD
    split
    · exact h
    · split
      · exact h
      · exact small_cutOut h (by omega)
  · unfold SmallDisk noDisk
    simp
theorem small_loR (d : DiskV) : SmallRecS (loR d) := by
  have hn : SmallRecS [] := ⟨⟨by simp, fun x hx => absurd hx (by simp)⟩, fun x hx => absurd hx (by simp)⟩
  unfold loR boR
  split
  · split
    · exact hn
    · split
      · exact small_log _
      · split
        · exact small_log _
        · exact hn
  · exact hn
end Go.Proofs.Ythlcgghilmpboaa
