/-
  DiskCut of the program, at its face.
-/
import Derived.Test.YtbceijgllbikeaaDriveCut
import Derived.Test.YtbceijgllbikeaaDiskFall
set_option linter.unusedVariables false
namespace Go.Proofs.Ytbceijgllbikeaa
open Go.RowKit Go.Maps Go.Deep

def cutGood (d : DiskV) (at' : Int) : Bool := diskOkB d && decide (0 ≤ at') && decide (at' ≤ (d.safe.length + d.soft.length : Nat))
def cutV (d : DiskV) (at' : Int) : DiskV := if cutGood d at' then cutOut d at'.toNat else noDisk
def cutI (d : DiskV) (at' : Int) : Int := if cutGood d at' then cutCode d else 1
/-- a disk of one's own, and a number, are handed back -/
def RetDiskI (res : DiskV) (b : Int) (w : World) (e : Ending) (w' : World) : Prop := ∃ v S, e = .returned (.tuple #[v, .int .i64 b]) ∧ Hid (DiskOwn S w' v res) ∧ Hid (∀ k ∈ S, w.heap.size ≤ k) ∧ Below w.heap.size w w'
theorem retDiskI_no {b : Int} {w w' : World} (hb : Below w.heap.size w w') : RetDiskI noDisk b w (.returned (.tuple #[.agg #[.slice none 0 0, .slice none 0 0, .int .i64 0, .bool false], .int .i64 b])) w' :=
  ⟨_, [], rfl, ⟨_, _, [], [], rfl, rfl, ByOwn.nil _ _ _, ByOwn.nil _ _ _, by simp⟩, by intro k hk; simp at hk, hb⟩
theorem retDiskI_two {res : DiskV} {b : Int} {B : Nat} {w w' : World} {v0 v1 : Value} (h : TwoRows B w' v0 v1 res.safe res.soft) (hB : w.heap.size ≤ B) (hb : Below w.heap.size w w') :
    RetDiskI res b w (.returned (.tuple #[.agg #[v0, v1, .int .i64 res.fuse, .bool res.down], .int .i64 b])) w' := by
  obtain ⟨S, h1, h2, h3⟩ := h.1.own
  obtain ⟨T, k1, k2, k3⟩ := h.2.1.own
  exact ⟨_, S ++ T, rfl, ⟨_, _, S, T, rfl, rfl, h1, k1, fun k hk hm => h.2.2 k (h3 k hk) (k3 k hm)⟩, by intro k hk; rcases List.mem_append.1 hk with hk | hk; exact Nat.le_trans hB (h2 k hk); exact Nat.le_trans hB (k2 k hk), hb⟩
theorem cut_no {d : DiskV} {at' : Int} (h : cutGood d at' = false) : cutV d at' = noDisk ∧ cutI d at' = 1 := by simp [cutV, cutI, h]
theorem diskOk_fuse {d : DiskV} (h : diskOkB d = true) : -1 ≤ d.fuse ∧ d.fuse ≤ 400 := by
  simp only [diskOkB, Bool.and_eq_true, decide_eq_true_eq] at h
  exact ⟨h.1.1.2, h.1.2⟩
set_option maxHeartbeats 6400000 in
theorem implCut_any (d : DiskV) (v : Value) (at' : Int) (w : World) (hs : SmallDisk d) (h : DiskRd w v d) : Calls Try.prog 9 #[v, .int .i64 at'] w fun e w' => RetDiskI (cutV d at') (cutI d at') w e w' := by
  have HK := hide (fun W (b : Below w.heap.size w W) => implDiskOk_any d v W (by have := hs.1; omega) (by have := hs.2; omega) (h.up b))
  have HD := hide (fun W (b : Below w.heap.size w W) => h.up b)
  obtain ⟨v0, v1, rfl, h0, h1⟩ := h
  obtain ⟨p0, p2, rfl⟩ := h0.len
  obtain ⟨p3, p5, rfl⟩ := h1.len
  have HSZ := hide (fun W => size_val d.safe.length p2 d.soft.length p5 p0 p3 d.fuse d.down W (by have := hs.1; omega) (by have := hs.2; omega))
  clear h0 h1
  have X0 := hide ((boxF_new4 w (.slice p0 d.safe.length p2) (.slice p3 d.soft.length p5) (.int .i64 d.fuse) (.bool d.down) 26).up ((Below.refl _ _).alloc (Nat.le_refl _) (.cells #[.slice none 0 0, .slice none 0 0, .int .i64 0, .bool false] 26)))
  have Y0 := hide (boxF_new4 (w.alloc (.cells #[.slice p0 d.safe.length p2, .slice p3 d.soft.length p5, .int .i64 d.fuse, .bool d.down] 26)) (.slice none 0 0) (.slice none 0 0) (.int .i64 0) (.bool false) 26)
  have noway : ∀ w1, Below w.heap.size w w1 → ∀ W, Turn [w.heap.size + 1] w1 W → RetDiskI noDisk 1 w (.returned (.tuple #[.agg #[.slice none 0 0, .slice none 0 0, .int .i64 0, .bool false], .int .i64 1])) W := fun w1 b1 W ht => retDiskI_no (b1.trans (ht.below b1.size (fun k hk => by simp at hk; omega)))
  have NW := hide noway
  clear noway
  cases hok : diskOkB d
  · obtain ⟨e1, e2⟩ := cut_no (d := d) (at' := at') (by simp [cutGood, hok])
    rw [e1, e2]
    clear e1 e2 HD HSZ hs
    rw [hok] at HK
    clear hok
    go_enter Try.func9, Try.ntmps9
    go_wp2_with fail
    refine (unhide HK _ (by go_grown)).mono ?_
    rintro e w1 ⟨rfl, b1⟩
    have Y1 := hide (show BoxF w1 (w.heap.size + 1) [.slice none 0 0, .slice none 0 0, .int .i64 0, .bool false] by simpa using (unhide Y0).up b1)
    have B1 := hide (show Below w.heap.size w w1 from Below.trans (by go_grown) (b1.mono (by simp; omega)))
    clear b1 X0 Y0
    obtain ⟨⟨y0, y1, y2, y3⟩, j0, j1, j2, j3⟩ := (unhide Y1).four
    go_wp2_with fail
    refine bodyPost_ret (v := .tuple #[.agg #[.slice none 0 0, .slice none 0 0, .int .i64 0, .bool false], .int .i64 1]) (by simp [results, Try.results9, go_sem, y0, y1, y2, y3]) rfl ?_
    exact unhide NW w1 (unhide B1) _ (((((Turn.refl _ _).setCell (g := w.heap.size + 1) (by simp) _ _).setCell (g := w.heap.size + 1) (by simp) _ _).setCell (g := w.heap.size + 1) (by simp) _ _).setCell (g := w.heap.size + 1) (by simp) _ _)
  · rw [hok] at HK
    by_cases g1 : at' < 0
    · obtain ⟨e1, e2⟩ := cut_no (d := d) (at' := at') (by simp [cutGood]; omega)
      rw [e1, e2]
      clear e1 e2 HD HSZ hs hok
      go_enter Try.func9, Try.ntmps9
      go_wp2_with fail
      refine (unhide HK _ (by go_grown)).mono ?_
      rintro e w1 ⟨rfl, b1⟩
      have Y1 := hide (show BoxF w1 (w.heap.size + 1) [.slice none 0 0, .slice none 0 0, .int .i64 0, .bool false] by simpa using (unhide Y0).up b1)
      have B1 := hide (show Below w.heap.size w w1 from Below.trans (by go_grown) (b1.mono (by simp; omega)))
      clear b1 X0 Y0
      obtain ⟨⟨y0, y1, y2, y3⟩, j0, j1, j2, j3⟩ := (unhide Y1).four
      go_wp2_with fail
      refine bodyPost_ret (v := .tuple #[.agg #[.slice none 0 0, .slice none 0 0, .int .i64 0, .bool false], .int .i64 1]) (by simp [results, Try.results9, go_sem, y0, y1, y2, y3]) rfl ?_
      exact unhide NW w1 (unhide B1) _ (((((Turn.refl _ _).setCell (g := w.heap.size + 1) (by simp) _ _).setCell (g := w.heap.size + 1) (by simp) _ _).setCell (g := w.heap.size + 1) (by simp) _ _).setCell (g := w.heap.size + 1) (by simp) _ _)
    · by_cases g2 : ((d.safe.length : Int) + (d.soft.length : Int)) < at'
      · obtain ⟨e1, e2⟩ := cut_no (d := d) (at' := at') (by simp [cutGood]; omega)
        rw [e1, e2]
        clear e1 e2 HD hs hok
        go_enter Try.func9, Try.ntmps9
        go_wp2_with fail
        refine (unhide HK _ (by go_grown)).mono ?_
        rintro e w1 ⟨rfl, b1⟩
        have X1 := hide ((unhide X0).up b1)
        have Y1 := hide (show BoxF w1 (w.heap.size + 1) [.slice none 0 0, .slice none 0 0, .int .i64 0, .bool false] by simpa using (unhide Y0).up b1)
        have B1 := hide (show Below w.heap.size w w1 from Below.trans (by go_grown) (b1.mono (by simp; omega)))
        clear b1 X0 Y0
        obtain ⟨⟨x0, x1, x2, x3⟩, f0, f1, f2, f3⟩ := (unhide X1).four
        go_wp2_with fail
        refine (unhide HSZ _).mono ?_
        rintro e w2 ⟨rfl, b2⟩
        have Y2 := hide ((unhide Y1).up b2)
        have B2 := hide ((unhide B1).trans (b2.mono (unhide B1).size))
        clear b2 x0 x1 x2 x3 f0 f1 f2 f3 X1 Y1
        obtain ⟨⟨y0, y1, y2, y3⟩, j0, j1, j2, j3⟩ := (unhide Y2).four
        go_wp2_with fail
        refine bodyPost_ret (v := .tuple #[.agg #[.slice none 0 0, .slice none 0 0, .int .i64 0, .bool false], .int .i64 1]) (by simp [results, Try.results9, go_sem, y0, y1, y2, y3]) rfl ?_
        exact unhide NW w2 (unhide B2) _ (((((Turn.refl _ _).setCell (g := w.heap.size + 1) (by simp) _ _).setCell (g := w.heap.size + 1) (by simp) _ _).setCell (g := w.heap.size + 1) (by simp) _ _).setCell (g := w.heap.size + 1) (by simp) _ _)
      · obtain ⟨kn, rfl⟩ := Int.eq_ofNat_of_zero_le (show 0 ≤ at' by omega)
        have hg : cutGood d (kn : Int) = true := by simp [cutGood, hok]; omega
        have e1 : cutV d (kn : Int) = cutOut d kn := by simp [cutV, hg]
        have e2 : cutI d (kn : Int) = cutCode d := by simp [cutI, hg]
        rw [e1, e2]
        have hsm := disk_small hok
        obtain ⟨hf1, hf2⟩ := diskOk_fuse hok
        have HNW := hide (fun W (b : Below w.heap.size w W) => newDrive_any d _ W (by omega) (by omega) (unhide HD W b))
        clear e1 e2 HD hs hok hg
        go_enter Try.func9, Try.ntmps9
        go_wp2_with fail
        refine (unhide HK _ (by go_grown)).mono ?_
        rintro e w1 ⟨rfl, b1⟩
        have X1 := hide ((unhide X0).up b1)
        have Y1 := hide (show BoxF w1 (w.heap.size + 1) [.slice none 0 0, .slice none 0 0, .int .i64 0, .bool false] by simpa using (unhide Y0).up b1)
        have B1 := hide (show Below w.heap.size w w1 from Below.trans (by go_grown) (b1.mono (by simp; omega)))
        clear b1 X0 Y0
        obtain ⟨⟨x0, x1, x2, x3⟩, f0, f1, f2, f3⟩ := (unhide X1).four
        go_wp2_with fail
        refine (unhide HSZ _).mono ?_
        rintro e w2 ⟨rfl, b2⟩
        have X2 := hide ((unhide X1).up b2)
        have Y2 := hide ((unhide Y1).up b2)
        have B2 := hide ((unhide B1).trans (b2.mono (unhide B1).size))
        clear b2 x0 x1 x2 x3 f0 f1 f2 f3 X1 Y1 B1
        obtain ⟨⟨x0, x1, x2, x3⟩, f0, f1, f2, f3⟩ := (unhide X2).four
        go_wp2_with fail
        refine (unhide HNW _ (unhide B2)).mono ?_
        rintro e w3 ⟨a0, n0, c0, a1, n1, c1, rfl, T3, b3⟩
        have Y3 := hide ((unhide Y2).up b3)
        have B3 := hide ((unhide B2).trans (b3.mono (unhide B2).size))
        have HZ2 := hide (unhide Y2).1.1
        have HZ3 := hide b3.size
        clear b3 x0 x1 x2 x3 f0 f1 f2 f3 X2 Y2
        have DR := hide (drive_new (d := d) (unhide T3) (unhide HZ3) 47)
        have HYW := hide ((unhide Y3).up ((Below.refl _ _).alloc (Nat.le_refl _) (.cells #[.slice a0 n0 c0, .slice a1 n1 c1, .int .i64 d.fuse, .bool d.down] 47)))
        have BW := hide ((unhide B3).alloc (unhide B3).size (.cells #[.slice a0 n0 c0, .slice a1 n1 c1, .int .i64 d.fuse, .bool d.down] 47))
        have HZW := hide (show w3.heap.size < (w3.alloc (.cells #[.slice a0 n0 c0, .slice a1 n1 c1, .int .i64 d.fuse, .bool d.down] 47)).heap.size by simp)
        go_wp2_with fail
        generalize w3.alloc (.cells #[.slice a0 n0 c0, .slice a1 n1 c1, .int .i64 d.fuse, .bool d.down] 47) = W3 at *
        refine (driveCut_any w2.heap.size W3 w3.heap.size kn _ _ d hsm (by have := unhide HZ3; have := unhide HZW; omega) (by omega) (unhide DR) hf1 hf2).mono ?_
        rintro e w4 ⟨rfl, v4, v5, D4, b4⟩
        obtain ⟨q0, q1, q2, rfl⟩ : ∃ a n c, v4 = .slice a n c := by obtain ⟨a, c, e⟩ := D4.r0.slice; exact ⟨a, _, c, e⟩
        obtain ⟨q3, q4, q5, rfl⟩ : ∃ a n c, v5 = .slice a n c := by obtain ⟨a, c, e⟩ := D4.r1.slice; exact ⟨a, _, c, e⟩
        have DD4 := hide D4
        have c0' := D4.c0
        have c1' := D4.c1
        have c2' := D4.c2
        have c3' := D4.c3
        have Y4 := hide ((unhide HYW).below b4 (by have := unhide HZ2; omega))
        have B4 := hide ((unhide BW).trans (b4.mono (unhide B2).size))
        clear D4 b4
        obtain ⟨⟨y0, y1, y2, y3⟩, j0, j1, j2, j3⟩ := (unhide Y4).four
        generalize hO : cutOut d kn = O at c0' c1' c2' c3' DD4 ⊢
        generalize hC : cutCode d = CC at ⊢
        go_wp2_with fail
        refine bodyPost_ret (v := .tuple #[.agg #[.slice q0 q1 q2, .slice q3 q4 q5, .int .i64 O.fuse, .bool O.down], .int .i64 CC]) (by simp [results, Try.results9, go_sem, y0, y1, y2, y3]) rfl ?_
        have key : ∀ W, Turn [w.heap.size + 1] w4 W → RetDiskI O CC w (.returned (.tuple #[.agg #[.slice q0 q1 q2, .slice q3 q4 q5, .int .i64 O.fuse, .bool O.down], .int .i64 CC])) W := fun W ht =>
          retDiskI_two (B := w2.heap.size) (TwoRows.turn ⟨(unhide DD4).r0, (unhide DD4).r1, (unhide DD4).n01⟩ ht (fun k hk => by have := unhide HZ2; simp at hk; omega)) (unhide B2).size ((unhide B4).trans (ht.below (unhide B4).size (fun k hk => by simp at hk; omega)))
        subst hO
        subst hC
        exact key _ (((((Turn.refl [w.heap.size + 1] w4).setCell (g := w.heap.size + 1) (by simp) _ _).setCell (g := w.heap.size + 1) (by simp) _ _).setCell (g := w.heap.size + 1) (by simp) _ _).setCell (g := w.heap.size + 1) (by simp) _ _)
end Go.Proofs.Ytbceijgllbikeaa
