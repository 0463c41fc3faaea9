/-
  DiskAll of both sides.
-/
import Derived.Test.YtddmomcanakoiaaMerged22
import Derived.Test.YtddmomcanakoiaaMerged9
set_option linter.unusedVariables false
namespace Go.Proofs.Ytddmomcanakoiaa
open Go.RowKit Go.Maps Go.Deep

theorem disk_small {d : DiskV} (h : diskOkB d = true) : d.safe.length + d.soft.length ≤ 8000 := by
  simp [diskOkB] at h
  omega
def allB (d : DiskV) : Bool := diskOkB d && !d.down
def allV (d : DiskV) : List UInt8 := if allB d then d.safe ++ d.soft else []
theorem allV_yes {d : DiskV} (h : diskOkB d = true) (hd : d.down = false) : allV d = d.safe ++ d.soft ∧ allB d = true := by simp [allV, allB, h, hd]
theorem allV_no {d : DiskV} (h : allB d = false) : allV d = [] := by simp [allV, h]
theorem allB_down {d : DiskV} (hd : d.down = true) : allB d = false := by simp [allB, hd]
theorem allB_bad {d : DiskV} (hd : diskOkB d = false) : allB d = false := by simp [allB, hd]

set_option maxHeartbeats 1600000 in
theorem all_any (d : DiskV) (v : Value) (w : World) (hl : d.safe.length + d.soft.length ≤ 100000) (h : DiskRd w v d) : Calls Try.prog 42 #[v] w fun e w' => RetRow1 (d.safe ++ d.soft) w e w' := by
  obtain ⟨v0, v1, rfl, h0, h1⟩ := h
  have H0 := hide (fun W (b : Below w.heap.size w W) => h0.up b)
  have H1 := hide (fun W (b : Below w.heap.size w W) => h1.up b)
  obtain ⟨a0, c0, rfl⟩ := h0.len
  obtain ⟨a1, c1, rfl⟩ := h1.len
  clear h0 h1
  obtain ⟨safe, soft, fuse, down⟩ := d
  simp only at hl H0 H1 ⊢
  go_enter Try.func42, Try.ntmps42
  go_wp2_with fail
  refine (concat2_any _ _ _ (.slice a0 safe.length c0) (.slice a1 soft.length c1) safe soft (by simp) (by rw [World.cell?_alloc_at _ _ _ _ (by simp)]; rfl) (by rw [World.cell?_alloc_at _ _ _ _ (by simp)]; rfl) (unhide H0 _ (by go_grown)) (unhide H1 _ (by go_grown)) hl).mono ?_
  rintro e w1 ⟨a, n, c, rfl, hn, r1, b1⟩
  have R1 := hide (r1.mono (by simp; omega) : ByRow w.heap.size w1 _ _)
  have B1 := hide (show Below w.heap.size w w1 from Below.trans (by go_grown) (b1.mono (by simp; omega)))
  clear r1 b1
  go_wp2_with fail
  go_ret
  exact ⟨a, n, c, rfl, hn, unhide R1, unhide B1⟩

def RetAll (d : DiskV) (w : World) (e : Ending) (w' : World) : Prop := ∃ a n c, e = .returned (.tuple #[.slice a n c, .bool (allB d)]) ∧ Hid (n = (allV d).length) ∧ ByRow w.heap.size w' (.slice a n c) (allV d) ∧ Below w.heap.size w w'
theorem retAll_no (d : DiskV) (w w' : World) (h : allB d = false) (hb : Below w.heap.size w w') : RetAll d w (.returned (.tuple #[.slice none 0 0, .bool false])) w' := by
  refine ⟨none, 0, 0, ?_, ?_, ?_, hb⟩
  · rw [h]
  · rw [allV_no h]; exact hide rfl
  · rw [allV_no h]; exact ByRow.nil _ _
set_option maxHeartbeats 1600000 in
theorem specAll_any (d : DiskV) (v : Value) (w : World) (hf : DiskFit d) (h : DiskRd w v d) : Calls Try.prog 34 #[v] w fun e w' => RetAll d w e w' := by
  have HK := hide (fun W (b : Below w.heap.size w W) => specDiskOk_any d v W hf (h.up b))
  obtain ⟨v0, v1, rfl, h0, h1⟩ := h
  have H0 := hide (fun W (b : Below w.heap.size w W) => h0.up b)
  have H1 := hide (fun W (b : Below w.heap.size w W) => h1.up b)
  obtain ⟨a0, c0, rfl⟩ := h0.len
  obtain ⟨a1, c1, rfl⟩ := h1.len
  clear h0 h1
  have HN := hide (retAll_no d w)
  cases hok : diskOkB d
  · have HB := hide (allB_bad hok)
    generalize d.down = dn at *
    generalize d.fuse = fs at *
    generalize d.safe.length = n0 at *
    generalize d.soft.length = n1 at *
    go_enter Try.func34, Try.ntmps34
    go_wp2_with fail
    refine (unhide HK _ (by go_grown)).mono ?_
    rintro e w1 ⟨rfl, b1⟩
    rw [hok]
    have B1 := hide (show Below w.heap.size w w1 from Below.trans (by go_grown) (b1.mono (by simp)))
    clear b1
    go_wp2_with fail
    go_ret2
    exact unhide HN _ (unhide HB) (unhide B1)
  · cases hdn : d.down
    · have HY := hide (allV_yes hok hdn)
      have hsm := disk_small hok
      have HL := hide (fun W (b : Below w.heap.size w W) => l6Bytes_any W _ _ d.safe d.soft (unhide H0 W b) (unhide H1 W b) (by omega))
      clear HN
      generalize d.fuse = fs at *
      generalize hn0 : d.safe.length = n0 at *
      generalize hn1 : d.soft.length = n1 at *
      rw [hok] at HK
      rw [hdn] at HK
      clear hok hdn hn0 hn1
      go_enter Try.func34, Try.ntmps34
      go_wp2_with fail
      refine (unhide HK _ (by go_grown)).mono ?_
      rintro e w1 ⟨rfl, b1⟩
      have B1 := hide (show Below w.heap.size w w1 from Below.trans (by go_grown) (b1.mono (by simp)))
      obtain ⟨x0, x1, x2, x3⟩ := box4D b1
      clear b1
      go_wp2_with fail
      refine (unhide HL _ (unhide B1)).mono ?_
      rintro e w2 ⟨a, n, c, rfl, hn, r2, b2⟩
      have R2 := hide (r2.mono (unhide B1).size)
      have B2 := hide ((unhide B1).trans (b2.mono (unhide B1).size))
      clear r2 b2
      go_wp2_with fail
      go_ret2
      exact ⟨a, n, c, by rw [(unhide HY).2]; rfl, by rw [(unhide HY).1]; exact hn, by rw [(unhide HY).1]; exact unhide R2, unhide B2⟩
    · have HB := hide (allB_down hdn)
      generalize d.fuse = fs at *
      generalize d.safe.length = n0 at *
      generalize d.soft.length = n1 at *
      rw [hok, hdn] at HK
      clear hok hdn
      go_enter Try.func34, Try.ntmps34
      go_wp2_with fail
      refine (unhide HK _ (by go_grown)).mono ?_
      rintro e w1 ⟨rfl, b1⟩
      have B1 := hide (show Below w.heap.size w w1 from Below.trans (by go_grown) (b1.mono (by simp)))
      obtain ⟨x0, x1, x2, x3⟩ := box4D b1
      clear b1
      go_wp2_with fail
      go_ret2
      exact unhide HN _ (unhide HB) (unhide B1)
set_option maxHeartbeats 1600000 in
theorem implAll_any (d : DiskV) (v : Value) (w : World) (g0 : d.safe.length ≤ 281474976710656) (g1 : d.soft.length ≤ 281474976710656) (h : DiskRd w v d) : Calls Try.prog 19 #[v] w fun e w' => RetAll d w e w' := by
  have HK := hide (fun W (b : Below w.heap.size w W) => implDiskOk_any d v W g0 g1 (h.up b))
  have HD := hide (fun W (b : Below w.heap.size w W) => h.up b)
  obtain ⟨v0, v1, rfl, h0, h1⟩ := h
  obtain ⟨a0, c0, rfl⟩ := h0.len
  obtain ⟨a1, c1, rfl⟩ := h1.len
  clear h0 h1 g0 g1
  have HN := hide (retAll_no d w)
  cases hok : diskOkB d
  · have HB := hide (allB_bad hok)
    clear HD
    generalize d.down = dn at *
    generalize d.fuse = fs at *
    generalize d.safe.length = n0 at *
    generalize d.soft.length = n1 at *
    go_enter Try.func19, Try.ntmps19
    go_wp2_with fail
    refine (unhide HK _ (by go_grown)).mono ?_
    rintro e w1 ⟨rfl, b1⟩
    rw [hok]
    have B1 := hide (show Below w.heap.size w w1 from Below.trans (by go_grown) (b1.mono (by simp)))
    clear b1
    go_wp2_with fail
    go_ret2
    exact unhide HN _ (unhide HB) (unhide B1)
  · cases hdn : d.down
    · have HY := hide (allV_yes hok hdn)
      have hsm := disk_small hok
      have HL := hide (fun W (b : Below w.heap.size w W) => all_any d _ W (by omega) (unhide HD W b))
      clear HN HD
      generalize d.fuse = fs at *
      generalize hn0 : d.safe.length = n0 at *
      generalize hn1 : d.soft.length = n1 at *
      rw [hok] at HK
      rw [hdn] at HK HL
      clear hok hdn hn0 hn1
      go_enter Try.func19, Try.ntmps19
      go_wp2_with fail
      refine (unhide HK _ (by go_grown)).mono ?_
      rintro e w1 ⟨rfl, b1⟩
      have B1 := hide (show Below w.heap.size w w1 from Below.trans (by go_grown) (b1.mono (by simp)))
      obtain ⟨x0, x1, x2, x3⟩ := box4D b1
      clear b1
      go_wp2_with fail
      refine (unhide HL _ (unhide B1)).mono ?_
      rintro e w2 ⟨a, n, c, rfl, hn, r2, b2⟩
      have R2 := hide (r2.mono (unhide B1).size)
      have B2 := hide ((unhide B1).trans (b2.mono (unhide B1).size))
      clear r2 b2
      go_wp2_with fail
      go_ret2
      exact ⟨a, n, c, by rw [(unhide HY).2]; rfl, by rw [(unhide HY).1]; exact hn, by rw [(unhide HY).1]; exact unhide R2, unhide B2⟩
    · have HB := hide (allB_down hdn)
      clear HD
      generalize d.fuse = fs at *
      generalize d.safe.length = n0 at *
      generalize d.soft.length = n1 at *
      rw [hok, hdn] at HK
      clear hok hdn
      go_enter Try.func19, Try.ntmps19
      go_wp2_with fail
      refine (unhide HK _ (by go_grown)).mono ?_
      rintro e w1 ⟨rfl, b1⟩
      have B1 := hide (show Below w.heap.size w w1 from Below.trans (by go_grown) (b1.mono (by simp)))
      obtain ⟨x0, x1, x2, x3⟩ := box4D b1
      clear b1
      go_wp2_with fail
      go_ret2
      exact unhide HN _ (unhide HB) (unhide B1)
end Go.Proofs.Ytddmomcanakoiaa
