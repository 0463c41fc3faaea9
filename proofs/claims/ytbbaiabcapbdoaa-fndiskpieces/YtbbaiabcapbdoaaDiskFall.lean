/-
  DiskFall and DiskRise of both sides.
-/
import Derived.Test.YtbbaiabcapbdoaaDrives
import Derived.Test.YtbbaiabcapbdoaaDiskKit
set_option linter.unusedVariables false
namespace Go.Proofs.Ytbbaiabcapbdoaa
open Go.RowKit Go.Maps Go.Deep

def noDisk : DiskV := ⟨[], [], 0, false⟩
def fallB (d : DiskV) (keep : Int) : Bool := diskOkB d && !d.down && decide (0 ≤ keep)
def fallV (d : DiskV) (keep : Int) : DiskV := if fallB d keep then ⟨d.safe ++ d.soft.take keep.toNat, [], -1, true⟩ else noDisk
def riseB (d : DiskV) (fuse : Int) : Bool := diskOkB d && d.down && decide (-1 ≤ fuse) && decide (fuse ≤ 400)
def riseV (d : DiskV) (fuse : Int) : DiskV := if riseB d fuse then ⟨d.safe, [], fuse, false⟩ else noDisk

/-- a disk of one's own, and a bool, are handed back -/
def RetDiskB (res : DiskV) (b : Bool) (w : World) (e : Ending) (w' : World) : Prop := ∃ v S, e = .returned (.tuple #[v, .bool b]) ∧ Hid (DiskOwn S w' v res) ∧ Hid (∀ k ∈ S, w.heap.size ≤ k) ∧ Below w.heap.size w w'
theorem retDisk_no {w w' : World} (hb : Below w.heap.size w w') : RetDiskB noDisk false w (.returned (.tuple #[.agg #[.slice none 0 0, .slice none 0 0, .int .i64 0, .bool false], .bool false])) w' :=
  ⟨_, [], rfl, ⟨_, _, [], [], rfl, rfl, ByOwn.nil _ _ _, ByOwn.nil _ _ _, by simp⟩, by intro k hk; simp at hk, hb⟩
/-- one row, and nothing behind it -/
theorem retDisk_row {res : DiskV} {b : Bool} {w w' : World} {a : Option Addr} {n c : Nat} (hr : ByRow w.heap.size w' (.slice a n c) res.safe) (h0 : res.soft = []) (hb : Below w.heap.size w w') :
    RetDiskB res b w (.returned (.tuple #[.agg #[.slice a n c, .slice none 0 0, .int .i64 res.fuse, .bool res.down], .bool b])) w' := by
  obtain ⟨S, h1, h2, _⟩ := hr.own
  exact ⟨_, S ++ [], rfl, ⟨_, _, S, [], rfl, rfl, h1, by rw [h0]; exact ByOwn.nil _ _ _, by simp⟩, by intro k hk; simp at hk; exact h2 k hk, hb⟩

theorem TwoRows.turn {B : Nat} {S : List Nat} {w w' : World} {v0 v1 : Value} {xs ys : List UInt8} (h : TwoRows B w v0 v1 xs ys) (ht : Turn S w w') (hS : ∀ k ∈ S, k < B) : TwoRows B w' v0 v1 xs ys :=
  ⟨h.1.turn ht (fun k hk hm => by have := h.1.ge k hk; have := hS k hm; omega), h.2.1.turn ht (fun k hk hm => by have := h.2.1.ge k hk; have := hS k hm; omega), h.2.2⟩
theorem retDisk_two {res : DiskV} {b : Bool} {B : Nat} {w w' : World} {v0 v1 : Value} (h : TwoRows B w' v0 v1 res.safe res.soft) (hB : w.heap.size ≤ B) (hb : Below w.heap.size w w') :
    RetDiskB res b w (.returned (.tuple #[.agg #[v0, v1, .int .i64 res.fuse, .bool res.down], .bool b])) w' := by
  obtain ⟨S, h1, h2, h3⟩ := h.1.own
  obtain ⟨T, k1, k2, k3⟩ := h.2.1.own
  exact ⟨_, S ++ T, rfl, ⟨_, _, S, T, rfl, rfl, h1, k1, fun k hk hm => h.2.2 k (h3 k hk) (k3 k hm)⟩, by intro k hk; rcases List.mem_append.1 hk with hk | hk; exact Nat.le_trans hB (h2 k hk); exact Nat.le_trans hB (k2 k hk), hb⟩

theorem BoxF.below {B : Nat} {w w' : World} {g : Nat} {xs : List Value} (h : BoxF w g xs) (hb : Below B w w') (hg : g < B) : BoxF w' g xs :=
  ⟨⟨Nat.lt_of_lt_of_le h.1.1 hb.size, fun i v hv => (hb.cell (by exact hg)).trans (h.1.2 i v hv)⟩, fun i hi => (hb.frozen (by exact hg)).trans (h.2 i hi)⟩
theorem drive_new {d : DiskV} {B : Nat} {w : World} {v0 v1 : Value} (h : TwoRows B w v0 v1 d.safe d.soft) (hB : B ≤ w.heap.size) (T : TypeId) : Drive B (w.alloc (.cells #[v0, v1, .int .i64 d.fuse, .bool d.down] T)) w.heap.size v0 v1 d := by
  have hb := (Below.refl w.heap.size w).alloc (Nat.le_refl _) (.cells #[v0, v1, .int .i64 d.fuse, .bool d.down] T)
  obtain ⟨⟨c0, c1, c2, c3⟩, f0, f1, f2, f3⟩ := (boxF_new4 w v0 v1 (.int .i64 d.fuse) (.bool d.down) T).four
  exact ⟨hB, by simp, c0, c1, c2, c3, fun i hi => match i, hi with | 0, _ => f0 | 1, _ => f1 | 2, _ => f2 | 3, _ => f3, h.1.up hb, h.2.1.up hb, fun k hk e => by have := h.1.lt k hk; omega, fun k hk e => by have := h.2.1.lt k hk; omega, h.2.2⟩
theorem cut_in {w : World} {a : Option Addr} {m c : Nat} {bs : List UInt8} (h : ByRd w (.slice a m c) bs) (n : Nat) (hn : n ≤ bs.length) : ByRd w (.slice a n c) (bs.take n) := by
  obtain ⟨a', c', e, hin, hcap⟩ := h
  simp only [Value.slice.injEq] at e
  obtain ⟨rfl, rfl, rfl⟩ := e
  refine ⟨a, c, by simp [Nat.min_eq_left hn], ?_, by simp; omega⟩
  rcases hin with rfl | ⟨b, off, e, hb, hc⟩
  · exact .inl (by simp)
  · exact .inr ⟨b, off, e, hb, fun i hi => by
      simp at hi
      rw [List.getElem_take]
      exact hc i (by omega)⟩

set_option maxHeartbeats 6400000 in
theorem implRise_any (d : DiskV) (v : Value) (fuse : Int) (w : World) (hs : SmallDisk d) (h : DiskRd w v d) : Calls Try.prog 12 #[v, .int .i64 fuse] w fun e w' => RetDiskB (riseV d fuse) (riseB d fuse) w e w' := by
  have HK := hide (fun W (b : Below w.heap.size w W) => implDiskOk_any d v W (by have := hs.1; omega) (by have := hs.2; omega) (h.up b))
  have HD := hide (fun W (b : Below w.heap.size w W) => h.up b)
  obtain ⟨v0, v1, rfl, h0, h1⟩ := h
  have H0 := hide (fun W (b : Below w.heap.size w W) => h0.up b)
  have H1 := hide (fun W (b : Below w.heap.size w W) => h1.up b)
  have HN1 := hide h1.len
  obtain ⟨p0, p1, p2, rfl⟩ := h0.form
  obtain ⟨p3, p4, p5, rfl⟩ := h1.form
  clear h0 h1
  have X0 := hide ((boxF_new4 w (.slice p0 p1 p2) (.slice p3 p4 p5) (.int .i64 d.fuse) (.bool d.down) 24).up ((Below.refl _ _).alloc (Nat.le_refl _) (.cells #[.slice none 0 0, .slice none 0 0, .int .i64 0, .bool false] 24)))
  have Y0 := hide (boxF_new4 (w.alloc (.cells #[.slice p0 p1 p2, .slice p3 p4 p5, .int .i64 d.fuse, .bool d.down] 24)) (.slice none 0 0) (.slice none 0 0) (.int .i64 0) (.bool false) 24)
  cases hok : diskOkB d
  · have HB : riseB d fuse = false := by simp [riseB, hok]
    rw [show riseV d fuse = noDisk by simp [riseV, HB], HB]
    clear HB HD H0 H1 HN1 hs
    rw [hok] at HK
    generalize d.down = dn at *
    clear hok
    go_enter Try.func12, Try.ntmps12
    go_wp2_with fail
    refine (unhide HK _ (by go_grown)).mono ?_
    rintro e w1 ⟨rfl, b1⟩
    have X1 := hide ((unhide X0).up b1)
    have Y1 := hide (show BoxF w1 (w.heap.size + 1) [.slice none 0 0, .slice none 0 0, .int .i64 0, .bool false] by simpa using (unhide Y0).up b1)
    have B1 := hide (show Below w.heap.size w w1 from Below.trans (by go_grown) (b1.mono (by simp; omega)))
    clear b1 X0 Y0
    obtain ⟨⟨x0, x1, x2, x3⟩, f0, f1, f2, f3⟩ := (unhide X1).four
    obtain ⟨⟨y0, y1, y2, y3⟩, j0, j1, j2, j3⟩ := (unhide Y1).four
    go_wp2_with (first | (go_at_call 27; refine (fuseOk_any _ _).mono ?_; rw [hfo]; rintro e w9 ⟨rfl, hw9⟩; rw [hw9]; clear hw9 w9) | fail)
    refine bodyPost_ret (v := .tuple #[.agg #[.slice none 0 0, .slice none 0 0, .int .i64 0, .bool false], .bool false]) (by simp [results, Try.results12, go_sem, y0, y1, y2, y3]) rfl ?_
    have key : ∀ W, Turn [w.heap.size + 1] w1 W → RetDiskB noDisk false w (.returned (.tuple #[.agg #[.slice none 0 0, .slice none 0 0, .int .i64 0, .bool false], .bool false])) W := fun W ht => retDisk_no ((unhide B1).trans (ht.below (unhide B1).size (fun k hk => by simp at hk; omega)))
    exact key _ (((((Turn.refl _ _).setCell (g := w.heap.size + 1) (by simp) _ _).setCell (g := w.heap.size + 1) (by simp) _ _).setCell (g := w.heap.size + 1) (by simp) _ _).setCell (g := w.heap.size + 1) (by simp) _ _)
  · cases hdn : d.down
    · have HB : riseB d fuse = false := by simp [riseB, hdn]
      rw [show riseV d fuse = noDisk by simp [riseV, HB], HB]
      clear HB HD H0 H1 HN1 hs
      rw [hok, hdn] at HK
      rw [hdn] at X0 Y0
      clear hok hdn
      go_enter Try.func12, Try.ntmps12
      go_wp2_with fail
      refine (unhide HK _ (by go_grown)).mono ?_
      rintro e w1 ⟨rfl, b1⟩
      have X1 := hide ((unhide X0).up b1)
      have Y1 := hide (show BoxF w1 (w.heap.size + 1) [.slice none 0 0, .slice none 0 0, .int .i64 0, .bool false] by simpa using (unhide Y0).up b1)
      have B1 := hide (show Below w.heap.size w w1 from Below.trans (by go_grown) (b1.mono (by simp; omega)))
      clear b1 X0 Y0
      obtain ⟨⟨x0, x1, x2, x3⟩, f0, f1, f2, f3⟩ := (unhide X1).four
      obtain ⟨⟨y0, y1, y2, y3⟩, j0, j1, j2, j3⟩ := (unhide Y1).four
      go_wp2_with (first | (go_at_call 27; refine (fuseOk_any _ _).mono ?_; rw [hfo]; rintro e w9 ⟨rfl, hw9⟩; rw [hw9]; clear hw9 w9) | fail)
      refine bodyPost_ret (v := .tuple #[.agg #[.slice none 0 0, .slice none 0 0, .int .i64 0, .bool false], .bool false]) (by simp [results, Try.results12, go_sem, y0, y1, y2, y3]) rfl ?_
      have key : ∀ W, Turn [w.heap.size + 1] w1 W → RetDiskB noDisk false w (.returned (.tuple #[.agg #[.slice none 0 0, .slice none 0 0, .int .i64 0, .bool false], .bool false])) W := fun W ht => retDisk_no ((unhide B1).trans (ht.below (unhide B1).size (fun k hk => by simp at hk; omega)))
      exact key _ (((((Turn.refl _ _).setCell (g := w.heap.size + 1) (by simp) _ _).setCell (g := w.heap.size + 1) (by simp) _ _).setCell (g := w.heap.size + 1) (by simp) _ _).setCell (g := w.heap.size + 1) (by simp) _ _)
    · by_cases g1 : -1 ≤ fuse
      · by_cases g2 : fuse ≤ 400
        · have HB : riseB d fuse = true := by simp [riseB, hok, hdn, g1, g2]
          rw [show riseV d fuse = ⟨d.safe, [], fuse, false⟩ by simp [riseV, HB], HB]
          rw [hok, hdn] at HK
          rw [hdn] at X0 Y0
          have hsm := disk_small hok
          have hfo : (decide (-1 ≤ fuse) && decide (fuse ≤ 400)) = true := by simp [g1, g2]
          clear HB
          have hso : d.soft = [] := by
            have := hok
            simp [diskOkB, hdn] at this
            exact this.2.1
          have HNW := hide (fun W (b : Below w.heap.size w W) => newDrive_any d _ W (by omega) (by omega) (unhide HD W b))
          rw [hdn] at HNW
          have HSO := hide hso
          clear hok hdn HD H0 H1 HN1 hs hso
          go_enter Try.func12, Try.ntmps12
          go_wp2_with fail
          refine (unhide HK _ (by go_grown)).mono ?_
          rintro e w1 ⟨rfl, b1⟩
          have X1 := hide ((unhide X0).up b1)
          have Y1 := hide (show BoxF w1 (w.heap.size + 1) [.slice none 0 0, .slice none 0 0, .int .i64 0, .bool false] by simpa using (unhide Y0).up b1)
          have B1 := hide (show Below w.heap.size w w1 from Below.trans (by go_grown) (b1.mono (by simp; omega)))
          clear b1 X0 Y0
          obtain ⟨⟨x0, x1, x2, x3⟩, f0, f1, f2, f3⟩ := (unhide X1).four
          go_wp2_with (first | (go_at_call 27; refine (fuseOk_any _ _).mono ?_; rw [hfo]; rintro e w9 ⟨rfl, hw9⟩; rw [hw9]; clear hw9 w9) | fail)
          refine (unhide HNW _ (unhide B1)).mono ?_
          rintro e w2 ⟨a0, n0, c0, a1, n1, c1, rfl, T2, b2⟩
          have Y2 := hide ((unhide Y1).up b2)
          have B2 := hide ((unhide B1).trans (b2.mono (unhide B1).size))
          have HZ1 := hide (unhide Y1).1.1
          have HZ2 := hide b2.size
          clear b2 x0 x1 x2 x3 f0 f1 f2 f3
          have D2 := hide (boxF_new4 w2 (.slice a0 n0 c0) (.slice a1 n1 c1) (.int .i64 d.fuse) (.bool true) 45)
          obtain ⟨⟨y0, y1, y2, y3⟩, j0, j1, j2, j3⟩ := (unhide Y2).four
          have hz5 : w.heap.size + 1 < w2.heap.size := by have := unhide HZ1; have := unhide HZ2; omega
          go_wp2_with fail
          refine bodyPost_ret (v := .tuple #[.agg #[.slice a0 n0 c0, .slice a1 n1 c1, .int .i64 fuse, .bool false], .bool true]) (by simp [results, Try.results12, go_sem, y0, y1, y2, y3, hz5]) rfl ?_
          have key : ∀ W, Turn [w.heap.size + 1] w2 W → RetDiskB ⟨d.safe, [], fuse, false⟩ true w (.returned (.tuple #[.agg #[.slice a0 n0 c0, .slice a1 n1 c1, .int .i64 fuse, .bool false], .bool true])) W := fun W ht =>
            retDisk_two (res := ⟨d.safe, [], fuse, false⟩) (by have := (unhide T2).turn ht (fun k hk => by have := unhide HZ1; simp at hk; omega); rwa [unhide HSO] at this) (unhide B1).size ((unhide B2).trans (ht.below (unhide B2).size (fun k hk => by simp at hk; omega)))
          exact key _ ((((((Turn.refl [w.heap.size + 1] w2).setCell (g := w.heap.size + 1) (by simp) _ _).setCell (g := w.heap.size + 1) (by simp) _ _).setCell (g := w.heap.size + 1) (by simp) _ _).setCell (g := w.heap.size + 1) (by simp) _ _).alloc _)
        · have HB : riseB d fuse = false := by simp [riseB, g2]
          rw [show riseV d fuse = noDisk by simp [riseV, HB], HB]
          clear HB HD H0 H1 HN1 hs
          rw [hok, hdn] at HK
          rw [hdn] at X0 Y0
          have hfo : (decide (-1 ≤ fuse) && decide (fuse ≤ 400)) = false := by simp [g2]
          have g3 : 400 < fuse := by omega
          clear hok hdn g2
          go_enter Try.func12, Try.ntmps12
          go_wp2_with fail
          refine (unhide HK _ (by go_grown)).mono ?_
          rintro e w1 ⟨rfl, b1⟩
          have X1 := hide ((unhide X0).up b1)
          have Y1 := hide (show BoxF w1 (w.heap.size + 1) [.slice none 0 0, .slice none 0 0, .int .i64 0, .bool false] by simpa using (unhide Y0).up b1)
          have B1 := hide (show Below w.heap.size w w1 from Below.trans (by go_grown) (b1.mono (by simp; omega)))
          clear b1 X0 Y0
          obtain ⟨⟨x0, x1, x2, x3⟩, f0, f1, f2, f3⟩ := (unhide X1).four
          obtain ⟨⟨y0, y1, y2, y3⟩, j0, j1, j2, j3⟩ := (unhide Y1).four
          go_wp2_with (first | (go_at_call 27; refine (fuseOk_any _ _).mono ?_; rw [hfo]; rintro e w9 ⟨rfl, hw9⟩; rw [hw9]; clear hw9 w9) | fail)
          refine bodyPost_ret (v := .tuple #[.agg #[.slice none 0 0, .slice none 0 0, .int .i64 0, .bool false], .bool false]) (by simp [results, Try.results12, go_sem, y0, y1, y2, y3]) rfl ?_
          have key : ∀ W, Turn [w.heap.size + 1] w1 W → RetDiskB noDisk false w (.returned (.tuple #[.agg #[.slice none 0 0, .slice none 0 0, .int .i64 0, .bool false], .bool false])) W := fun W ht => retDisk_no ((unhide B1).trans (ht.below (unhide B1).size (fun k hk => by simp at hk; omega)))
          exact key _ (((((Turn.refl _ _).setCell (g := w.heap.size + 1) (by simp) _ _).setCell (g := w.heap.size + 1) (by simp) _ _).setCell (g := w.heap.size + 1) (by simp) _ _).setCell (g := w.heap.size + 1) (by simp) _ _)
      · have HB : riseB d fuse = false := by simp [riseB, g1]
        rw [show riseV d fuse = noDisk by simp [riseV, HB], HB]
        clear HB HD H0 H1 HN1 hs
        rw [hok, hdn] at HK
        rw [hdn] at X0 Y0
        have hfo : (decide (-1 ≤ fuse) && decide (fuse ≤ 400)) = false := by simp [g1]
        have g3 : fuse < -1 := by omega
        clear hok hdn g1
        go_enter Try.func12, Try.ntmps12
        go_wp2_with fail
        refine (unhide HK _ (by go_grown)).mono ?_
        rintro e w1 ⟨rfl, b1⟩
        have X1 := hide ((unhide X0).up b1)
        have Y1 := hide (show BoxF w1 (w.heap.size + 1) [.slice none 0 0, .slice none 0 0, .int .i64 0, .bool false] by simpa using (unhide Y0).up b1)
        have B1 := hide (show Below w.heap.size w w1 from Below.trans (by go_grown) (b1.mono (by simp; omega)))
        clear b1 X0 Y0
        obtain ⟨⟨x0, x1, x2, x3⟩, f0, f1, f2, f3⟩ := (unhide X1).four
        obtain ⟨⟨y0, y1, y2, y3⟩, j0, j1, j2, j3⟩ := (unhide Y1).four
        go_wp2_with (first | (go_at_call 27; refine (fuseOk_any _ _).mono ?_; rw [hfo]; rintro e w9 ⟨rfl, hw9⟩; rw [hw9]; clear hw9 w9) | fail)
        refine bodyPost_ret (v := .tuple #[.agg #[.slice none 0 0, .slice none 0 0, .int .i64 0, .bool false], .bool false]) (by simp [results, Try.results12, go_sem, y0, y1, y2, y3]) rfl ?_
        have key : ∀ W, Turn [w.heap.size + 1] w1 W → RetDiskB noDisk false w (.returned (.tuple #[.agg #[.slice none 0 0, .slice none 0 0, .int .i64 0, .bool false], .bool false])) W := fun W ht => retDisk_no ((unhide B1).trans (ht.below (unhide B1).size (fun k hk => by simp at hk; omega)))
        exact key _ (((((Turn.refl _ _).setCell (g := w.heap.size + 1) (by simp) _ _).setCell (g := w.heap.size + 1) (by simp) _ _).setCell (g := w.heap.size + 1) (by simp) _ _).setCell (g := w.heap.size + 1) (by simp) _ _)
set_option maxHeartbeats 6400000 in
theorem specFall_any (d : DiskV) (v : Value) (keep : Int) (w : World) (hs : SmallDisk d) (h : DiskRd w v d) : Calls Try.prog 11 #[v, .int .i64 keep] w fun e w' => RetDiskB (fallV d keep) (fallB d keep) w e w' := by
  have HK := hide (fun W (b : Below w.heap.size w W) => specDiskOk_any d v W ⟨by have := hs.1; unfold maxLen; omega, by have := hs.2; unfold maxLen; omega⟩ (h.up b))
  have HD := hide (fun W (b : Below w.heap.size w W) => h.up b)
  obtain ⟨v0, v1, rfl, h0, h1⟩ := h
  have H0 := hide (fun W (b : Below w.heap.size w W) => h0.up b)
  have H1 := hide (fun W (b : Below w.heap.size w W) => h1.up b)
  have HN1 := hide h1.len
  obtain ⟨p0, p1, p2, rfl⟩ := h0.form
  obtain ⟨p3, p4, p5, rfl⟩ := h1.form
  clear h0 h1
  have X0 := hide ((boxF_new4 w (.slice p0 p1 p2) (.slice p3 p4 p5) (.int .i64 d.fuse) (.bool d.down) 24).up ((Below.refl _ _).alloc (Nat.le_refl _) (.cells #[.slice none 0 0, .slice none 0 0, .int .i64 0, .bool false] 24)))
  have Y0 := hide (boxF_new4 (w.alloc (.cells #[.slice p0 p1 p2, .slice p3 p4 p5, .int .i64 d.fuse, .bool d.down] 24)) (.slice none 0 0) (.slice none 0 0) (.int .i64 0) (.bool false) 24)
  cases hok : diskOkB d
  · have HB : fallB d keep = false := by simp [fallB, hok]
    rw [show fallV d keep = noDisk by simp [fallV, HB], HB]
    clear HB HD H0 H1 HN1 hs
    rw [hok] at HK
    generalize d.down = dn at *
    clear hok
    go_enter Try.func11, Try.ntmps11
    go_wp2_with fail
    refine (unhide HK _ (by go_grown)).mono ?_
    rintro e w1 ⟨rfl, b1⟩
    have X1 := hide ((unhide X0).up b1)
    have Y1 := hide (show BoxF w1 (w.heap.size + 1) [.slice none 0 0, .slice none 0 0, .int .i64 0, .bool false] by simpa using (unhide Y0).up b1)
    have B1 := hide (show Below w.heap.size w w1 from Below.trans (by go_grown) (b1.mono (by simp; omega)))
    clear b1 X0 Y0
    obtain ⟨⟨x0, x1, x2, x3⟩, f0, f1, f2, f3⟩ := (unhide X1).four
    obtain ⟨⟨y0, y1, y2, y3⟩, j0, j1, j2, j3⟩ := (unhide Y1).four
    go_wp2_with (first  | fail)
    refine bodyPost_ret (v := .tuple #[.agg #[.slice none 0 0, .slice none 0 0, .int .i64 0, .bool false], .bool false]) (by simp [results, Try.results11, go_sem, y0, y1, y2, y3]) rfl ?_
    have key : ∀ W, Turn [w.heap.size + 1] w1 W → RetDiskB noDisk false w (.returned (.tuple #[.agg #[.slice none 0 0, .slice none 0 0, .int .i64 0, .bool false], .bool false])) W := fun W ht => retDisk_no ((unhide B1).trans (ht.below (unhide B1).size (fun k hk => by simp at hk; omega)))
    exact key _ (((((Turn.refl _ _).setCell (g := w.heap.size + 1) (by simp) _ _).setCell (g := w.heap.size + 1) (by simp) _ _).setCell (g := w.heap.size + 1) (by simp) _ _).setCell (g := w.heap.size + 1) (by simp) _ _)
  · cases hdn : d.down
    · by_cases g1 : 0 ≤ keep
      · have HB : fallB d keep = true := by simp [fallB, hok, hdn, g1]
        rw [show fallV d keep = ⟨d.safe ++ d.soft.take keep.toNat, [], -1, true⟩ by simp [fallV, HB], HB]
        rw [hok, hdn] at HK
        rw [hdn] at X0 Y0
        have hsm := disk_small hok
        obtain rfl : p4 = d.soft.length := by obtain ⟨a, c, e⟩ := unhide HN1; simp at e; exact e.2.1
        obtain ⟨kn, rfl⟩ := Int.eq_ofNat_of_zero_le g1
        rw [Int.toNat_natCast]
        clear HB g1
        by_cases hkn : kn ≤ d.soft.length
        · have hle : (kn : Int) ≤ (d.soft.length : Int) := by omega
          have hlo : kn ≤ d.soft.length := by omega
          have HL := hide (fun W (b : Below w.heap.size w W) => l6Bytes_any W _ _ d.safe (d.soft.take kn) (unhide H0 W b) (cut_in (unhide H1 W b) kn (by omega)) (by simp; omega))
          have hcap : kn ≤ p5 := by obtain ⟨a, c, e, _, hc⟩ := unhide H1 w (Below.refl _ _); simp at e; omega
          clear hok hdn HD HN1 hs
          go_enter Try.func11, Try.ntmps11
          go_wp2_with fail
          refine (unhide HK _ (by go_grown)).mono ?_
          rintro e w1 ⟨rfl, b1⟩
          have X1 := hide ((unhide X0).up b1)
          have Y1 := hide (show BoxF w1 (w.heap.size + 1) [.slice none 0 0, .slice none 0 0, .int .i64 0, .bool false] by simpa using (unhide Y0).up b1)
          have B1 := hide (show Below w.heap.size w w1 from Below.trans (by go_grown) (b1.mono (by simp; omega)))
          clear b1 X0 Y0
          obtain ⟨⟨x0, x1, x2, x3⟩, f0, f1, f2, f3⟩ := (unhide X1).four
          go_wp2_with fail
          have Y1d := hide ((unhide Y1).up (Below.refl _ _).drew)
          have HZ1 := hide (unhide Y1).1.1
          go_region_with (go_at_call 26; refine (unhide HL _ ((unhide B1).drew)).mono ?_; rintro e w2 ⟨a, n, c, rfl, hn, r2, b2⟩; have R2 := hide (r2.mono (unhide B1).size); have B2 := hide ((unhide B1).drew.trans (b2.mono (unhide B1).drew.size)); have Y2 := hide ((unhide Y1d).up b2); have NB := hide (show ∀ k, (Value.slice a n c).ownBlock = some k → w1.heap.size ≤ k from r2.ge); clear b2 r2; obtain ⟨⟨y0, y1, y2, y3⟩, j0, j1, j2, j3⟩ := (unhide Y2).four)
          all_goals
            go_wp2_with fail
            refine bodyPost_ret (v := .tuple #[.agg #[.slice a n c, .slice none 0 0, .int .i64 (-1), .bool true], .bool true]) (by simp [results, Try.results11, go_sem, y0, y1, y2, y3]) rfl ?_
            have key : ∀ W, Turn [w.heap.size + 1] w2 W → RetDiskB ⟨d.safe ++ d.soft.take kn, [], -1, true⟩ true w (.returned (.tuple #[.agg #[.slice a n c, .slice none 0 0, .int .i64 (-1), .bool true], .bool true])) W := fun W ht =>
              retDisk_row (res := ⟨d.safe ++ d.soft.take kn, [], -1, true⟩) ((unhide R2).turn ht (fun k hk hm => by have := unhide NB k hk; have := unhide HZ1; simp at hm; omega)) rfl ((unhide B2).trans (ht.below (unhide B2).size (fun k hk => by simp at hk; omega)))
            exact key _ (((((Turn.refl [w.heap.size + 1] w2).setCell (g := w.heap.size + 1) (by simp) _ _).setCell (g := w.heap.size + 1) (by simp) _ _).setCell (g := w.heap.size + 1) (by simp) _ _).setCell (g := w.heap.size + 1) (by simp) _ _)
        · have hle : (d.soft.length : Int) < (kn : Int) := by omega
          have hlo : d.soft.length < kn := by omega
          rw [show d.soft.take kn = d.soft.take d.soft.length by rw [List.take_of_length_le (Nat.le_refl _), List.take_of_length_le (by omega)]]
          have HL := hide (fun W (b : Below w.heap.size w W) => l6Bytes_any W _ _ d.safe (d.soft.take d.soft.length) (unhide H0 W b) (cut_in (unhide H1 W b) d.soft.length (by omega)) (by simp; omega))
          have hcap : d.soft.length ≤ p5 := by obtain ⟨a, c, e, _, hc⟩ := unhide H1 w (Below.refl _ _); simp at e; omega
          clear hok hdn HD HN1 hs
          go_enter Try.func11, Try.ntmps11
          go_wp2_with fail
          refine (unhide HK _ (by go_grown)).mono ?_
          rintro e w1 ⟨rfl, b1⟩
          have X1 := hide ((unhide X0).up b1)
          have Y1 := hide (show BoxF w1 (w.heap.size + 1) [.slice none 0 0, .slice none 0 0, .int .i64 0, .bool false] by simpa using (unhide Y0).up b1)
          have B1 := hide (show Below w.heap.size w w1 from Below.trans (by go_grown) (b1.mono (by simp; omega)))
          clear b1 X0 Y0
          obtain ⟨⟨x0, x1, x2, x3⟩, f0, f1, f2, f3⟩ := (unhide X1).four
          go_wp2_with fail
          have Y1d := hide ((unhide Y1).up (Below.refl _ _).drew)
          have HZ1 := hide (unhide Y1).1.1
          go_region_with (go_at_call 26; refine (unhide HL _ ((unhide B1).drew)).mono ?_; rintro e w2 ⟨a, n, c, rfl, hn, r2, b2⟩; have R2 := hide (r2.mono (unhide B1).size); have B2 := hide ((unhide B1).drew.trans (b2.mono (unhide B1).drew.size)); have Y2 := hide ((unhide Y1d).up b2); have NB := hide (show ∀ k, (Value.slice a n c).ownBlock = some k → w1.heap.size ≤ k from r2.ge); clear b2 r2; obtain ⟨⟨y0, y1, y2, y3⟩, j0, j1, j2, j3⟩ := (unhide Y2).four)
          all_goals
            go_wp2_with fail
            refine bodyPost_ret (v := .tuple #[.agg #[.slice a n c, .slice none 0 0, .int .i64 (-1), .bool true], .bool true]) (by simp [results, Try.results11, go_sem, y0, y1, y2, y3]) rfl ?_
            have key : ∀ W, Turn [w.heap.size + 1] w2 W → RetDiskB ⟨d.safe ++ d.soft.take d.soft.length, [], -1, true⟩ true w (.returned (.tuple #[.agg #[.slice a n c, .slice none 0 0, .int .i64 (-1), .bool true], .bool true])) W := fun W ht =>
              retDisk_row (res := ⟨d.safe ++ d.soft.take d.soft.length, [], -1, true⟩) ((unhide R2).turn ht (fun k hk hm => by have := unhide NB k hk; have := unhide HZ1; simp at hm; omega)) rfl ((unhide B2).trans (ht.below (unhide B2).size (fun k hk => by simp at hk; omega)))
            exact key _ (((((Turn.refl [w.heap.size + 1] w2).setCell (g := w.heap.size + 1) (by simp) _ _).setCell (g := w.heap.size + 1) (by simp) _ _).setCell (g := w.heap.size + 1) (by simp) _ _).setCell (g := w.heap.size + 1) (by simp) _ _)
      · have HB : fallB d keep = false := by simp [fallB, g1]
        rw [show fallV d keep = noDisk by simp [fallV, HB], HB]
        clear HB HD H0 H1 HN1 hs
        rw [hok, hdn] at HK
        rw [hdn] at X0 Y0
        have g3 : keep < 0 := by omega
        clear hok hdn g1
        go_enter Try.func11, Try.ntmps11
        go_wp2_with fail
        refine (unhide HK _ (by go_grown)).mono ?_
        rintro e w1 ⟨rfl, b1⟩
        have X1 := hide ((unhide X0).up b1)
        have Y1 := hide (show BoxF w1 (w.heap.size + 1) [.slice none 0 0, .slice none 0 0, .int .i64 0, .bool false] by simpa using (unhide Y0).up b1)
        have B1 := hide (show Below w.heap.size w w1 from Below.trans (by go_grown) (b1.mono (by simp; omega)))
        clear b1 X0 Y0
        obtain ⟨⟨x0, x1, x2, x3⟩, f0, f1, f2, f3⟩ := (unhide X1).four
        obtain ⟨⟨y0, y1, y2, y3⟩, j0, j1, j2, j3⟩ := (unhide Y1).four
        go_wp2_with (first  | fail)
        refine bodyPost_ret (v := .tuple #[.agg #[.slice none 0 0, .slice none 0 0, .int .i64 0, .bool false], .bool false]) (by simp [results, Try.results11, go_sem, y0, y1, y2, y3]) rfl ?_
        have key : ∀ W, Turn [w.heap.size + 1] w1 W → RetDiskB noDisk false w (.returned (.tuple #[.agg #[.slice none 0 0, .slice none 0 0, .int .i64 0, .bool false], .bool false])) W := fun W ht => retDisk_no ((unhide B1).trans (ht.below (unhide B1).size (fun k hk => by simp at hk; omega)))
        exact key _ (((((Turn.refl _ _).setCell (g := w.heap.size + 1) (by simp) _ _).setCell (g := w.heap.size + 1) (by simp) _ _).setCell (g := w.heap.size + 1) (by simp) _ _).setCell (g := w.heap.size + 1) (by simp) _ _)
    · have HB : fallB d keep = false := by simp [fallB, hdn]
      rw [show fallV d keep = noDisk by simp [fallV, HB], HB]
      clear HB HD H0 H1 HN1 hs
      rw [hok, hdn] at HK
      rw [hdn] at X0 Y0
      clear hok hdn
      go_enter Try.func11, Try.ntmps11
      go_wp2_with fail
      refine (unhide HK _ (by go_grown)).mono ?_
      rintro e w1 ⟨rfl, b1⟩
      have X1 := hide ((unhide X0).up b1)
      have Y1 := hide (show BoxF w1 (w.heap.size + 1) [.slice none 0 0, .slice none 0 0, .int .i64 0, .bool false] by simpa using (unhide Y0).up b1)
      have B1 := hide (show Below w.heap.size w w1 from Below.trans (by go_grown) (b1.mono (by simp; omega)))
      clear b1 X0 Y0
      obtain ⟨⟨x0, x1, x2, x3⟩, f0, f1, f2, f3⟩ := (unhide X1).four
      obtain ⟨⟨y0, y1, y2, y3⟩, j0, j1, j2, j3⟩ := (unhide Y1).four
      go_wp2_with (first  | fail)
      refine bodyPost_ret (v := .tuple #[.agg #[.slice none 0 0, .slice none 0 0, .int .i64 0, .bool false], .bool false]) (by simp [results, Try.results11, go_sem, y0, y1, y2, y3]) rfl ?_
      have key : ∀ W, Turn [w.heap.size + 1] w1 W → RetDiskB noDisk false w (.returned (.tuple #[.agg #[.slice none 0 0, .slice none 0 0, .int .i64 0, .bool false], .bool false])) W := fun W ht => retDisk_no ((unhide B1).trans (ht.below (unhide B1).size (fun k hk => by simp at hk; omega)))
      exact key _ (((((Turn.refl _ _).setCell (g := w.heap.size + 1) (by simp) _ _).setCell (g := w.heap.size + 1) (by simp) _ _).setCell (g := w.heap.size + 1) (by simp) _ _).setCell (g := w.heap.size + 1) (by simp) _ _)
set_option maxHeartbeats 6400000 in
theorem implFall_any (d : DiskV) (v : Value) (keep : Int) (w : World) (hs : SmallDisk d) (h : DiskRd w v d) : Calls Try.prog 10 #[v, .int .i64 keep] w fun e w' => RetDiskB (fallV d keep) (fallB d keep) w e w' := by
  have HK := hide (fun W (b : Below w.heap.size w W) => implDiskOk_any d v W (by have := hs.1; omega) (by have := hs.2; omega) (h.up b))
  have HD := hide (fun W (b : Below w.heap.size w W) => h.up b)
  obtain ⟨v0, v1, rfl, h0, h1⟩ := h
  have H0 := hide (fun W (b : Below w.heap.size w W) => h0.up b)
  have H1 := hide (fun W (b : Below w.heap.size w W) => h1.up b)
  have HN1 := hide h1.len
  obtain ⟨p0, p1, p2, rfl⟩ := h0.form
  obtain ⟨p3, p4, p5, rfl⟩ := h1.form
  clear h0 h1
  have X0 := hide ((boxF_new4 w (.slice p0 p1 p2) (.slice p3 p4 p5) (.int .i64 d.fuse) (.bool d.down) 24).up ((Below.refl _ _).alloc (Nat.le_refl _) (.cells #[.slice none 0 0, .slice none 0 0, .int .i64 0, .bool false] 24)))
  have Y0 := hide (boxF_new4 (w.alloc (.cells #[.slice p0 p1 p2, .slice p3 p4 p5, .int .i64 d.fuse, .bool d.down] 24)) (.slice none 0 0) (.slice none 0 0) (.int .i64 0) (.bool false) 24)
  cases hok : diskOkB d
  · have HB : fallB d keep = false := by simp [fallB, hok]
    rw [show fallV d keep = noDisk by simp [fallV, HB], HB]
    clear HB HD H0 H1 HN1 hs
    rw [hok] at HK
    generalize d.down = dn at *
    clear hok
    go_enter Try.func10, Try.ntmps10
    go_wp2_with fail
    refine (unhide HK _ (by go_grown)).mono ?_
    rintro e w1 ⟨rfl, b1⟩
    have X1 := hide ((unhide X0).up b1)
    have Y1 := hide (show BoxF w1 (w.heap.size + 1) [.slice none 0 0, .slice none 0 0, .int .i64 0, .bool false] by simpa using (unhide Y0).up b1)
    have B1 := hide (show Below w.heap.size w w1 from Below.trans (by go_grown) (b1.mono (by simp; omega)))
    clear b1 X0 Y0
    obtain ⟨⟨x0, x1, x2, x3⟩, f0, f1, f2, f3⟩ := (unhide X1).four
    obtain ⟨⟨y0, y1, y2, y3⟩, j0, j1, j2, j3⟩ := (unhide Y1).four
    go_wp2_with (first  | fail)
    refine bodyPost_ret (v := .tuple #[.agg #[.slice none 0 0, .slice none 0 0, .int .i64 0, .bool false], .bool false]) (by simp [results, Try.results10, go_sem, y0, y1, y2, y3]) rfl ?_
    have key : ∀ W, Turn [w.heap.size + 1] w1 W → RetDiskB noDisk false w (.returned (.tuple #[.agg #[.slice none 0 0, .slice none 0 0, .int .i64 0, .bool false], .bool false])) W := fun W ht => retDisk_no ((unhide B1).trans (ht.below (unhide B1).size (fun k hk => by simp at hk; omega)))
    exact key _ (((((Turn.refl _ _).setCell (g := w.heap.size + 1) (by simp) _ _).setCell (g := w.heap.size + 1) (by simp) _ _).setCell (g := w.heap.size + 1) (by simp) _ _).setCell (g := w.heap.size + 1) (by simp) _ _)
  · cases hdn : d.down
    · by_cases g1 : 0 ≤ keep
      · have HB : fallB d keep = true := by simp [fallB, hok, hdn, g1]
        rw [show fallV d keep = ⟨d.safe ++ d.soft.take keep.toNat, [], -1, true⟩ by simp [fallV, HB], HB]
        rw [hok, hdn] at HK
        rw [hdn] at X0 Y0
        have hsm := disk_small hok
        obtain rfl : p4 = d.soft.length := by obtain ⟨a, c, e⟩ := unhide HN1; simp at e; exact e.2.1
        obtain ⟨kn, rfl⟩ := Int.eq_ofNat_of_zero_le g1
        rw [Int.toNat_natCast]
        clear HB g1
        by_cases hkn : kn ≤ d.soft.length
        · have hle : (kn : Int) ≤ (d.soft.length : Int) := by omega
          have hlo : kn ≤ d.soft.length := by omega
          have HNW := hide (fun W (b : Below w.heap.size w W) => newDrive_any d _ W (by omega) (by omega) (unhide HD W b))
          rw [hdn] at HNW
          have HDN := hide hdn
          clear hok hdn HD H0 H1 HN1 hs
          go_enter Try.func10, Try.ntmps10
          go_wp2_with fail
          refine (unhide HK _ (by go_grown)).mono ?_
          rintro e w1 ⟨rfl, b1⟩
          have X1 := hide ((unhide X0).up b1)
          have Y1 := hide (show BoxF w1 (w.heap.size + 1) [.slice none 0 0, .slice none 0 0, .int .i64 0, .bool false] by simpa using (unhide Y0).up b1)
          have B1 := hide (show Below w.heap.size w w1 from Below.trans (by go_grown) (b1.mono (by simp; omega)))
          clear b1 X0 Y0
          obtain ⟨⟨x0, x1, x2, x3⟩, f0, f1, f2, f3⟩ := (unhide X1).four
          go_wp2_with fail
          refine (unhide HNW _ (unhide B1)).mono ?_
          rintro e w2 ⟨a0, n0, c0, a1, n1, c1, rfl, T2, b2⟩
          obtain rfl : n1 = d.soft.length := by obtain ⟨a, c, e⟩ := (unhide T2).2.1.slice; simp at e; exact e.2.1
          have Y2 := hide ((unhide Y1).up b2)
          have B2 := hide ((unhide B1).trans (b2.mono (unhide B1).size))
          have HZ1 := hide (unhide Y1).1.1
          have HZ2 := hide b2.size
          clear b2 x0 x1 x2 x3 f0 f1 f2 f3
          have DR := hide (drive_new (d := d) (unhide T2) (unhide HZ2) 45)
          have HYW := hide ((unhide Y2).up ((Below.refl _ _).alloc (Nat.le_refl _) (.cells #[.slice a0 n0 c0, .slice a1 d.soft.length c1, .int .i64 d.fuse, .bool d.down] 45)))
          have BW := hide ((unhide B2).alloc (unhide B2).size (.cells #[.slice a0 n0 c0, .slice a1 d.soft.length c1, .int .i64 d.fuse, .bool d.down] 45))
          have hzW : w2.heap.size < (w2.alloc (.cells #[.slice a0 n0 c0, .slice a1 d.soft.length c1, .int .i64 d.fuse, .bool d.down] 45)).heap.size := by simp
          have HZW := hide hzW
          clear hzW
          go_wp2_with fail
          generalize w2.alloc (.cells #[.slice a0 n0 c0, .slice a1 d.soft.length c1, .int .i64 d.fuse, .bool d.down] 45) = W2 at *
          refine (fall_any w1.heap.size W2 w2.heap.size kn _ _ d (by omega) (by omega) (by have := unhide HZ2; have := unhide HZW; omega) (unhide DR)).mono ?_
          rintro e w3 ⟨rfl, P3⟩
          obtain ⟨v3, D3, b3⟩ := unhide P3
          obtain ⟨q0, q1, q2, rfl⟩ : ∃ a n c, v3 = .slice a n c := by obtain ⟨a, c, e⟩ := D3.r0.slice; exact ⟨a, _, c, e⟩
          have DD3 := hide D3
          have c0' := D3.c0
          have c1' := D3.c1
          have c2' := D3.c2
          have c3' := D3.c3
          have Y3 := hide ((unhide HYW).below b3 (by have := unhide HZ1; omega))
          have B3 := hide ((unhide BW).trans (b3.mono (unhide B1).size))
          clear D3 b3 P3
          obtain ⟨⟨y0, y1, y2, y3⟩, j0, j1, j2, j3⟩ := (unhide Y3).four
          go_wp2_with fail
          refine bodyPost_ret (v := .tuple #[.agg #[.slice q0 q1 q2, .slice none 0 0, .int .i64 (-1), .bool true], .bool true]) (by simp [results, Try.results10, go_sem, y0, y1, y2, y3]) rfl ?_
          have key : ∀ W, Turn [w.heap.size + 1] w3 W → RetDiskB ⟨d.safe ++ d.soft.take kn, [], -1, true⟩ true w (.returned (.tuple #[.agg #[.slice q0 q1 q2, .slice none 0 0, .int .i64 (-1), .bool true], .bool true])) W := fun W ht =>
            retDisk_row (res := ⟨d.safe ++ d.soft.take kn, [], -1, true⟩) (((unhide DD3).r0.turn ht (fun k hk hm => by have := (unhide DD3).r0.ge k hk; have := unhide HZ1; simp at hm; omega)).mono (unhide B1).size) rfl ((unhide B3).trans (ht.below (unhide B3).size (fun k hk => by simp at hk; omega)))
          exact key _ (((((Turn.refl [w.heap.size + 1] w3).setCell (g := w.heap.size + 1) (by simp) _ _).setCell (g := w.heap.size + 1) (by simp) _ _).setCell (g := w.heap.size + 1) (by simp) _ _).setCell (g := w.heap.size + 1) (by simp) _ _)
        · have hle : (d.soft.length : Int) < (kn : Int) := by omega
          have hlo : d.soft.length < kn := by omega
          rw [show d.soft.take kn = d.soft.take d.soft.length by rw [List.take_of_length_le (Nat.le_refl _), List.take_of_length_le (by omega)]]
          have HNW := hide (fun W (b : Below w.heap.size w W) => newDrive_any d _ W (by omega) (by omega) (unhide HD W b))
          rw [hdn] at HNW
          have HDN := hide hdn
          clear hok hdn HD H0 H1 HN1 hs
          go_enter Try.func10, Try.ntmps10
          go_wp2_with fail
          refine (unhide HK _ (by go_grown)).mono ?_
          rintro e w1 ⟨rfl, b1⟩
          have X1 := hide ((unhide X0).up b1)
          have Y1 := hide (show BoxF w1 (w.heap.size + 1) [.slice none 0 0, .slice none 0 0, .int .i64 0, .bool false] by simpa using (unhide Y0).up b1)
          have B1 := hide (show Below w.heap.size w w1 from Below.trans (by go_grown) (b1.mono (by simp; omega)))
          clear b1 X0 Y0
          obtain ⟨⟨x0, x1, x2, x3⟩, f0, f1, f2, f3⟩ := (unhide X1).four
          go_wp2_with fail
          refine (unhide HNW _ (unhide B1)).mono ?_
          rintro e w2 ⟨a0, n0, c0, a1, n1, c1, rfl, T2, b2⟩
          obtain rfl : n1 = d.soft.length := by obtain ⟨a, c, e⟩ := (unhide T2).2.1.slice; simp at e; exact e.2.1
          have Y2 := hide ((unhide Y1).up b2)
          have B2 := hide ((unhide B1).trans (b2.mono (unhide B1).size))
          have HZ1 := hide (unhide Y1).1.1
          have HZ2 := hide b2.size
          clear b2 x0 x1 x2 x3 f0 f1 f2 f3
          have DR := hide (drive_new (d := d) (unhide T2) (unhide HZ2) 45)
          have HYW := hide ((unhide Y2).up ((Below.refl _ _).alloc (Nat.le_refl _) (.cells #[.slice a0 n0 c0, .slice a1 d.soft.length c1, .int .i64 d.fuse, .bool d.down] 45)))
          have BW := hide ((unhide B2).alloc (unhide B2).size (.cells #[.slice a0 n0 c0, .slice a1 d.soft.length c1, .int .i64 d.fuse, .bool d.down] 45))
          have hzW : w2.heap.size < (w2.alloc (.cells #[.slice a0 n0 c0, .slice a1 d.soft.length c1, .int .i64 d.fuse, .bool d.down] 45)).heap.size := by simp
          have HZW := hide hzW
          clear hzW
          go_wp2_with fail
          generalize w2.alloc (.cells #[.slice a0 n0 c0, .slice a1 d.soft.length c1, .int .i64 d.fuse, .bool d.down] 45) = W2 at *
          refine (fall_any w1.heap.size W2 w2.heap.size d.soft.length _ _ d (by omega) (by omega) (by have := unhide HZ2; have := unhide HZW; omega) (unhide DR)).mono ?_
          rintro e w3 ⟨rfl, P3⟩
          obtain ⟨v3, D3, b3⟩ := unhide P3
          obtain ⟨q0, q1, q2, rfl⟩ : ∃ a n c, v3 = .slice a n c := by obtain ⟨a, c, e⟩ := D3.r0.slice; exact ⟨a, _, c, e⟩
          have DD3 := hide D3
          have c0' := D3.c0
          have c1' := D3.c1
          have c2' := D3.c2
          have c3' := D3.c3
          have Y3 := hide ((unhide HYW).below b3 (by have := unhide HZ1; omega))
          have B3 := hide ((unhide BW).trans (b3.mono (unhide B1).size))
          clear D3 b3 P3
          obtain ⟨⟨y0, y1, y2, y3⟩, j0, j1, j2, j3⟩ := (unhide Y3).four
          go_wp2_with fail
          refine bodyPost_ret (v := .tuple #[.agg #[.slice q0 q1 q2, .slice none 0 0, .int .i64 (-1), .bool true], .bool true]) (by simp [results, Try.results10, go_sem, y0, y1, y2, y3]) rfl ?_
          have key : ∀ W, Turn [w.heap.size + 1] w3 W → RetDiskB ⟨d.safe ++ d.soft.take d.soft.length, [], -1, true⟩ true w (.returned (.tuple #[.agg #[.slice q0 q1 q2, .slice none 0 0, .int .i64 (-1), .bool true], .bool true])) W := fun W ht =>
            retDisk_row (res := ⟨d.safe ++ d.soft.take d.soft.length, [], -1, true⟩) (((unhide DD3).r0.turn ht (fun k hk hm => by have := (unhide DD3).r0.ge k hk; have := unhide HZ1; simp at hm; omega)).mono (unhide B1).size) rfl ((unhide B3).trans (ht.below (unhide B3).size (fun k hk => by simp at hk; omega)))
          exact key _ (((((Turn.refl [w.heap.size + 1] w3).setCell (g := w.heap.size + 1) (by simp) _ _).setCell (g := w.heap.size + 1) (by simp) _ _).setCell (g := w.heap.size + 1) (by simp) _ _).setCell (g := w.heap.size + 1) (by simp) _ _)
      · have HB : fallB d keep = false := by simp [fallB, g1]
        rw [show fallV d keep = noDisk by simp [fallV, HB], HB]
        clear HB HD H0 H1 HN1 hs
        rw [hok, hdn] at HK
        rw [hdn] at X0 Y0
        have g3 : keep < 0 := by omega
        clear hok hdn g1
        go_enter Try.func10, Try.ntmps10
        go_wp2_with fail
        refine (unhide HK _ (by go_grown)).mono ?_
        rintro e w1 ⟨rfl, b1⟩
        have X1 := hide ((unhide X0).up b1)
        have Y1 := hide (show BoxF w1 (w.heap.size + 1) [.slice none 0 0, .slice none 0 0, .int .i64 0, .bool false] by simpa using (unhide Y0).up b1)
        have B1 := hide (show Below w.heap.size w w1 from Below.trans (by go_grown) (b1.mono (by simp; omega)))
        clear b1 X0 Y0
        obtain ⟨⟨x0, x1, x2, x3⟩, f0, f1, f2, f3⟩ := (unhide X1).four
        obtain ⟨⟨y0, y1, y2, y3⟩, j0, j1, j2, j3⟩ := (unhide Y1).four
        go_wp2_with (first  | fail)
        refine bodyPost_ret (v := .tuple #[.agg #[.slice none 0 0, .slice none 0 0, .int .i64 0, .bool false], .bool false]) (by simp [results, Try.results10, go_sem, y0, y1, y2, y3]) rfl ?_
        have key : ∀ W, Turn [w.heap.size + 1] w1 W → RetDiskB noDisk false w (.returned (.tuple #[.agg #[.slice none 0 0, .slice none 0 0, .int .i64 0, .bool false], .bool false])) W := fun W ht => retDisk_no ((unhide B1).trans (ht.below (unhide B1).size (fun k hk => by simp at hk; omega)))
        exact key _ (((((Turn.refl _ _).setCell (g := w.heap.size + 1) (by simp) _ _).setCell (g := w.heap.size + 1) (by simp) _ _).setCell (g := w.heap.size + 1) (by simp) _ _).setCell (g := w.heap.size + 1) (by simp) _ _)
    · have HB : fallB d keep = false := by simp [fallB, hdn]
      rw [show fallV d keep = noDisk by simp [fallV, HB], HB]
      clear HB HD H0 H1 HN1 hs
      rw [hok, hdn] at HK
      rw [hdn] at X0 Y0
      clear hok hdn
      go_enter Try.func10, Try.ntmps10
      go_wp2_with fail
      refine (unhide HK _ (by go_grown)).mono ?_
      rintro e w1 ⟨rfl, b1⟩
      have X1 := hide ((unhide X0).up b1)
      have Y1 := hide (show BoxF w1 (w.heap.size + 1) [.slice none 0 0, .slice none 0 0, .int .i64 0, .bool false] by simpa using (unhide Y0).up b1)
      have B1 := hide (show Below w.heap.size w w1 from Below.trans (by go_grown) (b1.mono (by simp; omega)))
      clear b1 X0 Y0
      obtain ⟨⟨x0, x1, x2, x3⟩, f0, f1, f2, f3⟩ := (unhide X1).four
      obtain ⟨⟨y0, y1, y2, y3⟩, j0, j1, j2, j3⟩ := (unhide Y1).four
      go_wp2_with (first  | fail)
      refine bodyPost_ret (v := .tuple #[.agg #[.slice none 0 0, .slice none 0 0, .int .i64 0, .bool false], .bool false]) (by simp [results, Try.results10, go_sem, y0, y1, y2, y3]) rfl ?_
      have key : ∀ W, Turn [w.heap.size + 1] w1 W → RetDiskB noDisk false w (.returned (.tuple #[.agg #[.slice none 0 0, .slice none 0 0, .int .i64 0, .bool false], .bool false])) W := fun W ht => retDisk_no ((unhide B1).trans (ht.below (unhide B1).size (fun k hk => by simp at hk; omega)))
      exact key _ (((((Turn.refl _ _).setCell (g := w.heap.size + 1) (by simp) _ _).setCell (g := w.heap.size + 1) (by simp) _ _).setCell (g := w.heap.size + 1) (by simp) _ _).setCell (g := w.heap.size + 1) (by simp) _ _)
end Go.Proofs.Ytbbaiabcapbdoaa
