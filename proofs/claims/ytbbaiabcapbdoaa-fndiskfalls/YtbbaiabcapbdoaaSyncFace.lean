/-
  DiskSync of the program.
-/
import Derived.Test.YtbbaiabcapbdoaaCutFace
set_option linter.unusedVariables false
namespace Go.Proofs.Ytbbaiabcapbdoaa
open Go.RowKit Go.Maps Go.Deep

def syncV (d : DiskV) : DiskV := if diskOkB d then cutOut d (d.safe.length + d.soft.length) else noDisk
def syncI (d : DiskV) : Int := if diskOkB d then cutCode d else 1
theorem sync_no {d : DiskV} (h : diskOkB d = false) : syncV d = noDisk ∧ syncI d = 1 := by simp [syncV, syncI, h]
set_option maxHeartbeats 3200000 in
theorem driveSync_any (B : Nat) (w : World) (g : Nat) (v0 v1 : Value) (d : DiskV) (hl : d.safe.length + d.soft.length ≤ 8000) (hB : B ≤ w.heap.size) (h : Drive B w g v0 v1 d) (hf1 : -1 ≤ d.fuse) (hf2 : d.fuse ≤ 400) :
    Calls Try.prog 29 #[.pointer (some ⟨g, 0, none⟩)] w fun e w' => RetCut B g d (d.safe.length + d.soft.length) w e w' := by
  have HD := hide h
  have c0 := h.c0
  have c1 := h.c1
  have c2 := h.c2
  have c3 := h.c3
  obtain ⟨a0, q0, rfl⟩ := h.r0.slice
  obtain ⟨a1, q1, rfl⟩ := h.r1.slice
  clear h
  go_enter Try.func29, Try.ntmps29
  go_wp2_with fail
  refine (size_val _ _ _ _ _ _ _ _ _ (by omega) (by omega)).mono ?_
  rintro e w1 ⟨rfl, b1⟩
  have D1 := hide ((unhide HD).up b1)
  have B1 := hide (b1.mono hB)
  have hz := b1.size
  clear b1 c0 c1 c2 c3
  go_wp2_with fail
  have HC := driveCut_any B w1 g (d.safe.length + d.soft.length) _ _ d hl (by omega) (Nat.le_refl _) (unhide D1) hf1 hf2
  rw [show ((d.safe.length + d.soft.length : Nat) : Int) = (d.safe.length : Int) + (d.soft.length : Int) by omega] at HC
  refine HC.mono ?_
  rintro e w2 ⟨rfl, P⟩
  have HP := hide P
  clear P HC
  generalize hC : cutCode d = CC at *
  go_wp2_with fail
  go_ret
  subst hC
  obtain ⟨v, v1, p1, p2⟩ := unhide HP
  exact ⟨rfl, v, v1, p1, (unhide B1).trans p2⟩
set_option maxHeartbeats 6400000 in
theorem implSync_any (d : DiskV) (v : Value) (w : World) (hs : SmallDisk d) (h : DiskRd w v d) : Calls Try.prog 14 #[v] w fun e w' => RetDiskI (syncV d) (syncI d) w e w' := by
  have HK := hide (fun W (b : Below w.heap.size w W) => implDiskOk_any d v W (by have := hs.1; omega) (by have := hs.2; omega) (h.up b))
  have HD := hide (fun W (b : Below w.heap.size w W) => h.up b)
  obtain ⟨v0, v1, rfl, h0, h1⟩ := h
  obtain ⟨p0, p2, rfl⟩ := h0.len
  obtain ⟨p3, p5, rfl⟩ := h1.len
  clear h0 h1
  have X0 := hide ((boxF_new4 w (.slice p0 d.safe.length p2) (.slice p3 d.soft.length p5) (.int .i64 d.fuse) (.bool d.down) 24).up ((Below.refl _ _).alloc (Nat.le_refl _) (.cells #[.slice none 0 0, .slice none 0 0, .int .i64 0, .bool false] 24)))
  have Y0 := hide (boxF_new4 (w.alloc (.cells #[.slice p0 d.safe.length p2, .slice p3 d.soft.length p5, .int .i64 d.fuse, .bool d.down] 24)) (.slice none 0 0) (.slice none 0 0) (.int .i64 0) (.bool false) 24)
  have noway : ∀ w1, Below w.heap.size w w1 → ∀ W, Turn [w.heap.size + 1] w1 W → RetDiskI noDisk 1 w (.returned (.tuple #[.agg #[.slice none 0 0, .slice none 0 0, .int .i64 0, .bool false], .int .i64 1])) W := fun w1 b1 W ht => retDiskI_no (b1.trans (ht.below b1.size (fun k hk => by simp at hk; omega)))
  have NW := hide noway
  clear noway
  cases hok : diskOkB d
  · obtain ⟨e1, e2⟩ := sync_no hok
    rw [e1, e2]
    clear e1 e2 HD hs
    rw [hok] at HK
    clear hok
    go_enter Try.func14, Try.ntmps14
    go_wp2_with fail
    refine (unhide HK _ (by go_grown)).mono ?_
    rintro e w1 ⟨rfl, b1⟩
    have Y1 := hide (show BoxF w1 (w.heap.size + 1) [.slice none 0 0, .slice none 0 0, .int .i64 0, .bool false] by simpa using (unhide Y0).up b1)
    have B1 := hide (show Below w.heap.size w w1 from Below.trans (by go_grown) (b1.mono (by simp; omega)))
    clear b1 X0 Y0
    obtain ⟨⟨y0, y1, y2, y3⟩, j0, j1, j2, j3⟩ := (unhide Y1).four
    go_wp2_with fail
    refine bodyPost_ret (v := .tuple #[.agg #[.slice none 0 0, .slice none 0 0, .int .i64 0, .bool false], .int .i64 1]) (by simp [results, Try.results14, go_sem, y0, y1, y2, y3]) rfl ?_
    exact unhide NW w1 (unhide B1) _ (((((Turn.refl _ _).setCell (g := w.heap.size + 1) (by simp) _ _).setCell (g := w.heap.size + 1) (by simp) _ _).setCell (g := w.heap.size + 1) (by simp) _ _).setCell (g := w.heap.size + 1) (by simp) _ _)
  · rw [hok] at HK
    have e1 : syncV d = cutOut d (d.safe.length + d.soft.length) := by simp [syncV, hok]
    have e2 : syncI d = cutCode d := by simp [syncI, hok]
    rw [e1, e2]
    clear e1 e2
    have hsm := disk_small hok
    obtain ⟨hf1, hf2⟩ := diskOk_fuse hok
    have HNW := hide (fun W (b : Below w.heap.size w W) => newDrive_any d _ W (by omega) (by omega) (unhide HD W b))
    clear HD hs hok
    go_enter Try.func14, Try.ntmps14
    go_wp2_with fail
    refine (unhide HK _ (by go_grown)).mono ?_
    rintro e w1 ⟨rfl, b1⟩
    have X1 := hide ((unhide X0).up b1)
    have Y1 := hide (show BoxF w1 (w.heap.size + 1) [.slice none 0 0, .slice none 0 0, .int .i64 0, .bool false] by simpa using (unhide Y0).up b1)
    have B1 := hide (show Below w.heap.size w w1 from Below.trans (by go_grown) (b1.mono (by simp; omega)))
    clear b1 X0 Y0
    obtain ⟨⟨x0, x1, x2, x3⟩, f0, f1, f2, f3⟩ := (unhide X1).four
    go_wp2_with fail
    refine (unhide HNW _ (unhide B1)).mono ?_
    rintro e w3 ⟨a0, n0, c0, a1, n1, c1, rfl, T3, b3⟩
    have Y3 := hide ((unhide Y1).up b3)
    have B3 := hide ((unhide B1).trans (b3.mono (unhide B1).size))
    have HZ2 := hide (unhide Y1).1.1
    have HZ3 := hide b3.size
    clear b3 x0 x1 x2 x3 f0 f1 f2 f3 X1 Y1
    have DR := hide (drive_new (d := d) (unhide T3) (unhide HZ3) 45)
    have HYW := hide ((unhide Y3).up ((Below.refl _ _).alloc (Nat.le_refl _) (.cells #[.slice a0 n0 c0, .slice a1 n1 c1, .int .i64 d.fuse, .bool d.down] 45)))
    have BW := hide ((unhide B3).alloc (unhide B3).size (.cells #[.slice a0 n0 c0, .slice a1 n1 c1, .int .i64 d.fuse, .bool d.down] 45))
    have HZW := hide (show w3.heap.size < (w3.alloc (.cells #[.slice a0 n0 c0, .slice a1 n1 c1, .int .i64 d.fuse, .bool d.down] 45)).heap.size by simp)
    go_wp2_with fail
    generalize w3.alloc (.cells #[.slice a0 n0 c0, .slice a1 n1 c1, .int .i64 d.fuse, .bool d.down] 45) = W3 at *
    refine (driveSync_any w1.heap.size W3 w3.heap.size _ _ d hsm (by have := unhide HZ3; have := unhide HZW; omega) (unhide DR) hf1 hf2).mono ?_
    rintro e w4 ⟨rfl, v4, v5, D4, b4⟩
    obtain ⟨q0, q1, q2, rfl⟩ : ∃ a n c, v4 = .slice a n c := by obtain ⟨a, c, e⟩ := D4.r0.slice; exact ⟨a, _, c, e⟩
    obtain ⟨q3, q4, q5, rfl⟩ : ∃ a n c, v5 = .slice a n c := by obtain ⟨a, c, e⟩ := D4.r1.slice; exact ⟨a, _, c, e⟩
    have DD4 := hide D4
    have c0' := D4.c0
    have c1' := D4.c1
    have c2' := D4.c2
    have c3' := D4.c3
    have Y4 := hide ((unhide HYW).below b4 (by have := unhide HZ2; omega))
    have B4 := hide ((unhide BW).trans (b4.mono (unhide B1).size))
    clear D4 b4
    obtain ⟨⟨y0, y1, y2, y3⟩, j0, j1, j2, j3⟩ := (unhide Y4).four
    generalize hO : cutOut d (d.safe.length + d.soft.length) = O at c0' c1' c2' c3' DD4 ⊢
    generalize hC : cutCode d = CC at ⊢
    go_wp2_with fail
    refine bodyPost_ret (v := .tuple #[.agg #[.slice q0 q1 q2, .slice q3 q4 q5, .int .i64 O.fuse, .bool O.down], .int .i64 CC]) (by simp [results, Try.results14, go_sem, y0, y1, y2, y3]) rfl ?_
    have key : ∀ W, Turn [w.heap.size + 1] w4 W → RetDiskI O CC w (.returned (.tuple #[.agg #[.slice q0 q1 q2, .slice q3 q4 q5, .int .i64 O.fuse, .bool O.down], .int .i64 CC])) W := fun W ht =>
      retDiskI_two (B := w1.heap.size) (TwoRows.turn ⟨(unhide DD4).r0, (unhide DD4).r1, (unhide DD4).n01⟩ ht (fun k hk => by have := unhide HZ2; simp at hk; omega)) (unhide B1).size ((unhide B4).trans (ht.below (unhide B4).size (fun k hk => by simp at hk; omega)))
    subst hO
    subst hC
    exact key _ (((((Turn.refl [w.heap.size + 1] w4).setCell (g := w.heap.size + 1) (by simp) _ _).setCell (g := w.heap.size + 1) (by simp) _ _).setCell (g := w.heap.size + 1) (by simp) _ _).setCell (g := w.heap.size + 1) (by simp) _ _)
end Go.Proofs.Ytbbaiabcapbdoaa
