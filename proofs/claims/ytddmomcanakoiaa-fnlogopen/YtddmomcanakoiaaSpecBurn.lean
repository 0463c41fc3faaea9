/-
  l6Burn of the specification.
-/
import Derived.Test.YtddmomcanakoiaaMerged11
set_option linter.unusedVariables false
namespace Go.Proofs.Ytddmomcanakoiaa
open Go.RowKit Go.Maps Go.Deep

def burnD (d : DiskV) : DiskV := if d.fuse = 0 then fellD d else ⟨d.safe, d.soft, burnI d.fuse, d.down⟩
def burnB (d : DiskV) : Bool := !decide (d.fuse = 0)
/-- a disk of one's own and a bool are handed back -/
def RetDiskO (res : DiskV) (b : Bool) (w : World) (e : Ending) (w' : World) : Prop := ∃ a0 m0 c0 a1 m1 c1, e = .returned (.tuple #[.agg #[.slice a0 m0 c0, .slice a1 m1 c1, .int .i64 res.fuse, .bool res.down], .bool b]) ∧ Hid (TwoRows w.heap.size w' (.slice a0 m0 c0) (.slice a1 m1 c1) res.safe res.soft) ∧ Below w.heap.size w w'
set_option maxHeartbeats 6400000 in
theorem l6Burn_any (d : DiskV) (v : Value) (w : World) (hs : SmallDisk d) (h : DiskRd w v d) (hf1 : -1 ≤ d.fuse) (hf2 : d.fuse ≤ 400) : Calls Try.prog 58 #[v] w fun e w' => RetDiskO (burnD d) (burnB d) w e w' := by
  obtain ⟨xs, ys, fs, dn⟩ := d
  simp only at hf1 hf2
  have HC := hide (fun W (b : Below w.heap.size w W) => l6Copy_any ⟨xs, ys, fs, dn⟩ v W hs (h.up b))
  obtain ⟨v0, v1, rfl, h0, h1⟩ := h
  have HL := hide (fun W (b : Below w.heap.size w W) => l6Bytes_any W _ _ xs ys (h0.up b) (h1.up b) (by have := hs.1; have := hs.2; simp only at *; omega))
  obtain ⟨p0, n0, p2, rfl⟩ := h0.form
  obtain ⟨p3, n1, p5, rfl⟩ := h1.form
  clear h0 h1 hs
  simp only at HC
  have X0 := hide ((boxF_new4 w (.slice p0 n0 p2) (.slice p3 n1 p5) (.int .i64 fs) (.bool dn) 35).up ((Below.refl _ _).alloc (Nat.le_refl _) (.cells #[.slice none 0 0, .slice none 0 0, .int .i64 0, .bool false] 35)))
  have Y0 := hide (boxF_new4 (w.alloc (.cells #[.slice p0 n0 p2, .slice p3 n1 p5, .int .i64 fs, .bool dn] 35)) (.slice none 0 0) (.slice none 0 0) (.int .i64 0) (.bool false) 35)
  by_cases hz : fs = 0
  · subst hz
    rw [show burnD ⟨xs, ys, 0, dn⟩ = ⟨xs ++ ys, [], -1, true⟩ by simp [burnD, fellD], show burnB ⟨xs, ys, 0, dn⟩ = false by simp [burnB]]
    go_enter Try.func58, Try.ntmps58
    go_wp2_with fail
    refine (unhide HC _ (by go_grown)).mono ?_
    rintro e w1 ⟨v0, v1, rfl, T1, b1⟩
    obtain ⟨a0, c0, rfl⟩ := T1.1.slice
    obtain ⟨a1, c1, rfl⟩ := T1.2.1.slice
    simp only at T1
    have X1 := hide (((unhide X0).up b1).up ((Below.refl _ _).alloc (Nat.le_refl _) (.cells #[.slice a0 xs.length c0, .slice a1 ys.length c1, .int .i64 0, .bool dn] 35)))
    have Y1 := hide ((show BoxF w1 (w.heap.size + 1) [.slice none 0 0, .slice none 0 0, .int .i64 0, .bool false] by simpa using (unhide Y0).up b1).up ((Below.refl _ _).alloc (Nat.le_refl _) (.cells #[.slice a0 xs.length c0, .slice a1 ys.length c1, .int .i64 0, .bool dn] 35)))
    have O1 := hide (boxF_new4 w1 (.slice a0 xs.length c0) (.slice a1 ys.length c1) (.int .i64 0) (.bool dn) 35)
    have Z1 := hide (show w.heap.size + 2 ≤ w1.heap.size by have := b1.size; simp at this; omega)
    have b1' : Below w.heap.size w w1 := Below.trans (by go_grown) (b1.mono (by simp; omega))
    have B1 := hide (b1'.alloc b1'.size (.cells #[.slice a0 xs.length c0, .slice a1 ys.length c1, .int .i64 0, .bool dn] 35))
    have T2 := hide (show TwoRows (w.heap.size + 2) (w1.alloc (.cells #[.slice a0 xs.length c0, .slice a1 ys.length c1, .int .i64 0, .bool dn] 35)) (.slice a0 xs.length c0) (.slice a1 ys.length c1) xs ys by simpa using (show TwoRows _ _ _ _ _ _ from ⟨T1.1.up ((Below.refl _ _).alloc (Nat.le_refl _) (.cells #[.slice a0 xs.length c0, .slice a1 ys.length c1, .int .i64 0, .bool dn] 35)), T1.2.1.up ((Below.refl _ _).alloc (Nat.le_refl _) (.cells #[.slice a0 xs.length c0, .slice a1 ys.length c1, .int .i64 0, .bool dn] 35)), T1.2.2⟩))
    clear b1 b1' X0 Y0 T1
    have hzW : (w1.alloc (.cells #[.slice a0 xs.length c0, .slice a1 ys.length c1, .int .i64 0, .bool dn] 35)).heap.size = w1.heap.size + 1 := by simp
    have ZW := hide hzW
    clear hzW
    obtain ⟨⟨x0, x1, x2, x3⟩, f0, f1, f2, f3⟩ := (unhide X1).four
    obtain ⟨⟨o0, o1, o2, o3⟩, q0, q1, q2, q3⟩ := (unhide O1).four
    go_wp2_with fail
    refine (unhide HL _ (unhide B1)).mono ?_
    rintro e w2 ⟨a2, m2, c2, rfl, hm2, r2, b2⟩
    have R2 := hide (show ByRow (w.heap.size + 2) w2 (.slice a2 m2 c2) (xs ++ ys) from r2.mono (by have := unhide Z1; have := unhide ZW; omega))
    have Y2 := hide ((unhide Y1).up b2)
    have B2 := hide ((unhide B1).trans (b2.mono (unhide B1).size))
    clear b2 r2 x0 x1 x2 x3 f0 f1 f2 f3 o0 o1 o2 o3 q0 q1 q2 q3 X1 Y1 O1
    obtain ⟨⟨y0, y1, y2, y3⟩, j0, j1, j2, j3⟩ := (unhide Y2).four
    go_wp2_with fail
    refine bodyPost_ret (v := .tuple #[.agg #[.slice a2 m2 c2, .slice none 0 0, .int .i64 (-1), .bool true], .bool false]) (by simp [results, Try.results58, go_sem, y0, y1, y2, y3]) rfl ?_
    have key : ∀ W, Turn [w.heap.size + 1] w2 W → RetDiskO ⟨xs ++ ys, [], -1, true⟩ false w (.returned (.tuple #[.agg #[.slice a2 m2 c2, .slice none 0 0, .int .i64 (-1), .bool true], .bool false])) W := fun W ht =>
      ⟨_, _, _, _, _, _, rfl, hide ⟨((unhide R2).turn ht (fun k hk hm => by have := (unhide R2).ge k hk; simp at hm; omega)).mono (by omega), ByRow.nil _ _, by simp [Value.ownBlock]⟩, (unhide B2).trans (ht.below (unhide B2).size (fun k hk => by simp at hk; omega))⟩
    exact key _ (((((Turn.refl _ _).setCell (g := w.heap.size + 1) (by simp) _ _).setCell (g := w.heap.size + 1) (by simp) _ _).setCell (g := w.heap.size + 1) (by simp) _ _).setCell (g := w.heap.size + 1) (by simp) _ _)
  · rw [show burnD ⟨xs, ys, fs, dn⟩ = ⟨xs, ys, burnI fs, dn⟩ by simp [burnD, hz], show burnB ⟨xs, ys, fs, dn⟩ = true by simp [burnB, hz]]
    by_cases g1 : 0 < fs
    · rw [show burnI fs = fs - 1 by simp [burnI, g1]]
      go_enter Try.func58, Try.ntmps58
      go_wp2_with fail
      refine (unhide HC _ (by go_grown)).mono ?_
      rintro e w1 ⟨v0, v1, rfl, T1, b1⟩
      obtain ⟨a0, c0, rfl⟩ := T1.1.slice
      obtain ⟨a1, c1, rfl⟩ := T1.2.1.slice
      simp only at T1
      have X1 := hide (((unhide X0).up b1).up ((Below.refl _ _).alloc (Nat.le_refl _) (.cells #[.slice a0 xs.length c0, .slice a1 ys.length c1, .int .i64 fs, .bool dn] 35)))
      have Y1 := hide ((show BoxF w1 (w.heap.size + 1) [.slice none 0 0, .slice none 0 0, .int .i64 0, .bool false] by simpa using (unhide Y0).up b1).up ((Below.refl _ _).alloc (Nat.le_refl _) (.cells #[.slice a0 xs.length c0, .slice a1 ys.length c1, .int .i64 (fs - 1), .bool dn] 35)))
      have O1 := hide (boxF_new4 w1 (.slice a0 xs.length c0) (.slice a1 ys.length c1) (.int .i64 fs) (.bool dn) 35)
      have Z1 := hide (show w.heap.size + 2 ≤ w1.heap.size by have := b1.size; simp at this; omega)
      have b1' : Below w.heap.size w w1 := Below.trans (by go_grown) (b1.mono (by simp; omega))
      have B1 := hide (b1'.alloc b1'.size (.cells #[.slice a0 xs.length c0, .slice a1 ys.length c1, .int .i64 (fs - 1), .bool dn] 35))
      have T2 := hide (show TwoRows (w.heap.size + 2) (w1.alloc (.cells #[.slice a0 xs.length c0, .slice a1 ys.length c1, .int .i64 (fs - 1), .bool dn] 35)) (.slice a0 xs.length c0) (.slice a1 ys.length c1) xs ys by simpa using (show TwoRows _ _ _ _ _ _ from ⟨T1.1.up ((Below.refl _ _).alloc (Nat.le_refl _) (.cells #[.slice a0 xs.length c0, .slice a1 ys.length c1, .int .i64 (fs - 1), .bool dn] 35)), T1.2.1.up ((Below.refl _ _).alloc (Nat.le_refl _) (.cells #[.slice a0 xs.length c0, .slice a1 ys.length c1, .int .i64 (fs - 1), .bool dn] 35)), T1.2.2⟩))
      clear b1 b1' X0 Y0 T1
      have hzW : (w1.alloc (.cells #[.slice a0 xs.length c0, .slice a1 ys.length c1, .int .i64 fs, .bool dn] 35)).heap.size = w1.heap.size + 1 := by simp
      have ZW := hide hzW
      clear hzW
      obtain ⟨⟨x0, x1, x2, x3⟩, f0, f1, f2, f3⟩ := (unhide X1).four
      obtain ⟨⟨o0, o1, o2, o3⟩, q0, q1, q2, q3⟩ := (unhide O1).four
      obtain ⟨⟨y0, y1, y2, y3⟩, j0, j1, j2, j3⟩ := (unhide Y1).four
      go_wp2_with fail
      refine bodyPost_ret (v := .tuple #[.agg #[.slice a0 xs.length c0, .slice a1 ys.length c1, .int .i64 (fs - 1), .bool dn], .bool true]) (by simp [results, Try.results58, go_sem, y0, y1, y2, y3]) rfl ?_
      have key : ∀ W, Turn [w.heap.size + 1] (w1.alloc (.cells #[.slice a0 xs.length c0, .slice a1 ys.length c1, .int .i64 (fs - 1), .bool dn] 35)) W → RetDiskO ⟨xs, ys, (fs - 1), dn⟩ true w (.returned (.tuple #[.agg #[.slice a0 xs.length c0, .slice a1 ys.length c1, .int .i64 (fs - 1), .bool dn], .bool true])) W := fun W ht => by
        have T := TwoRows.turn (unhide T2) ht (fun k hk => by simp at hk; omega)
        exact ⟨_, _, _, _, _, _, rfl, hide ⟨T.1.mono (by omega), T.2.1.mono (by omega), T.2.2⟩, (unhide B1).trans (ht.below (unhide B1).size (fun k hk => by simp at hk; omega))⟩
      exact key _ (((((Turn.refl _ _).setCell (g := w.heap.size + 1) (by simp) _ _).setCell (g := w.heap.size + 1) (by simp) _ _).setCell (g := w.heap.size + 1) (by simp) _ _).setCell (g := w.heap.size + 1) (by simp) _ _)
    · rw [show burnI fs = fs by simp [burnI, g1]]
      go_enter Try.func58, Try.ntmps58
      go_wp2_with fail
      refine (unhide HC _ (by go_grown)).mono ?_
      rintro e w1 ⟨v0, v1, rfl, T1, b1⟩
      obtain ⟨a0, c0, rfl⟩ := T1.1.slice
      obtain ⟨a1, c1, rfl⟩ := T1.2.1.slice
      simp only at T1
      have X1 := hide (((unhide X0).up b1).up ((Below.refl _ _).alloc (Nat.le_refl _) (.cells #[.slice a0 xs.length c0, .slice a1 ys.length c1, .int .i64 fs, .bool dn] 35)))
      have Y1 := hide ((show BoxF w1 (w.heap.size + 1) [.slice none 0 0, .slice none 0 0, .int .i64 0, .bool false] by simpa using (unhide Y0).up b1).up ((Below.refl _ _).alloc (Nat.le_refl _) (.cells #[.slice a0 xs.length c0, .slice a1 ys.length c1, .int .i64 fs, .bool dn] 35)))
      have O1 := hide (boxF_new4 w1 (.slice a0 xs.length c0) (.slice a1 ys.length c1) (.int .i64 fs) (.bool dn) 35)
      have Z1 := hide (show w.heap.size + 2 ≤ w1.heap.size by have := b1.size; simp at this; omega)
      have b1' : Below w.heap.size w w1 := Below.trans (by go_grown) (b1.mono (by simp; omega))
      have B1 := hide (b1'.alloc b1'.size (.cells #[.slice a0 xs.length c0, .slice a1 ys.length c1, .int .i64 fs, .bool dn] 35))
      have T2 := hide (show TwoRows (w.heap.size + 2) (w1.alloc (.cells #[.slice a0 xs.length c0, .slice a1 ys.length c1, .int .i64 fs, .bool dn] 35)) (.slice a0 xs.length c0) (.slice a1 ys.length c1) xs ys by simpa using (show TwoRows _ _ _ _ _ _ from ⟨T1.1.up ((Below.refl _ _).alloc (Nat.le_refl _) (.cells #[.slice a0 xs.length c0, .slice a1 ys.length c1, .int .i64 fs, .bool dn] 35)), T1.2.1.up ((Below.refl _ _).alloc (Nat.le_refl _) (.cells #[.slice a0 xs.length c0, .slice a1 ys.length c1, .int .i64 fs, .bool dn] 35)), T1.2.2⟩))
      clear b1 b1' X0 Y0 T1
      have hzW : (w1.alloc (.cells #[.slice a0 xs.length c0, .slice a1 ys.length c1, .int .i64 fs, .bool dn] 35)).heap.size = w1.heap.size + 1 := by simp
      have ZW := hide hzW
      clear hzW
      obtain ⟨⟨x0, x1, x2, x3⟩, f0, f1, f2, f3⟩ := (unhide X1).four
      obtain ⟨⟨o0, o1, o2, o3⟩, q0, q1, q2, q3⟩ := (unhide O1).four
      obtain ⟨⟨y0, y1, y2, y3⟩, j0, j1, j2, j3⟩ := (unhide Y1).four
      go_wp2_with fail
      refine bodyPost_ret (v := .tuple #[.agg #[.slice a0 xs.length c0, .slice a1 ys.length c1, .int .i64 fs, .bool dn], .bool true]) (by simp [results, Try.results58, go_sem, y0, y1, y2, y3]) rfl ?_
      have key : ∀ W, Turn [w.heap.size + 1] (w1.alloc (.cells #[.slice a0 xs.length c0, .slice a1 ys.length c1, .int .i64 fs, .bool dn] 35)) W → RetDiskO ⟨xs, ys, fs, dn⟩ true w (.returned (.tuple #[.agg #[.slice a0 xs.length c0, .slice a1 ys.length c1, .int .i64 fs, .bool dn], .bool true])) W := fun W ht => by
        have T := TwoRows.turn (unhide T2) ht (fun k hk => by simp at hk; omega)
        exact ⟨_, _, _, _, _, _, rfl, hide ⟨T.1.mono (by omega), T.2.1.mono (by omega), T.2.2⟩, (unhide B1).trans (ht.below (unhide B1).size (fun k hk => by simp at hk; omega))⟩
      exact key _ (((((Turn.refl _ _).setCell (g := w.heap.size + 1) (by simp) _ _).setCell (g := w.heap.size + 1) (by simp) _ _).setCell (g := w.heap.size + 1) (by simp) _ _).setCell (g := w.heap.size + 1) (by simp) _ _)
end Go.Proofs.Ytddmomcanakoiaa
