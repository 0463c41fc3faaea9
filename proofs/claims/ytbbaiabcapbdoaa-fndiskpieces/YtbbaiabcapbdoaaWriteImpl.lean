/-
  DiskWrite of the program, at its face.
-/
import Derived.Test.YtbbaiabcapbdoaaWriteFace
set_option linter.unusedVariables false
namespace Go.Proofs.Ytbbaiabcapbdoaa
open Go.RowKit Go.Maps Go.Deep

def wrV (d : DiskV) (bs : List UInt8) : DiskV := if diskOkB d = true then wrOut d bs else noDisk
def wrI (d : DiskV) (bs : List UInt8) : Int := if diskOkB d = true then wrCode d bs else 1
set_option maxHeartbeats 6400000 in
theorem implWrite_any (d : DiskV) (v : Value) (bs : List UInt8) (vb : Value) (w : World) (hs : SmallDisk d) (hbl : bs.length ≤ 2000000) (h : DiskRd w v d) (hb : ByRd w vb bs) : Calls Try.prog 6 #[v, vb] w fun e w' => RetDiskI (wrV d bs) (wrI d bs) w e w' := by
  have HK := hide (fun W (b : Below w.heap.size w W) => implDiskOk_any d v W (by have := hs.1; omega) (by have := hs.2; omega) (h.up b))
  have HD := hide (fun W (b : Below w.heap.size w W) => h.up b)
  have HBY := hide hb
  obtain ⟨ab, eb, rfl⟩ := hb.len
  obtain ⟨v0, v1, rfl, h0, h1⟩ := h
  obtain ⟨p0, p2, rfl⟩ := h0.len
  obtain ⟨p3, p5, rfl⟩ := h1.len
  clear h0 h1 hb
  have X0 := hide ((boxF_new4 w (.slice p0 d.safe.length p2) (.slice p3 d.soft.length p5) (.int .i64 d.fuse) (.bool d.down) 24).up ((Below.refl _ _).alloc (Nat.le_refl _) (.cells #[.slice none 0 0, .slice none 0 0, .int .i64 0, .bool false] 24)))
  have Y0 := hide (boxF_new4 (w.alloc (.cells #[.slice p0 d.safe.length p2, .slice p3 d.soft.length p5, .int .i64 d.fuse, .bool d.down] 24)) (.slice none 0 0) (.slice none 0 0) (.int .i64 0) (.bool false) 24)
  cases hok : diskOkB d
  · rw [show wrV d bs = noDisk by simp [wrV, hok], show wrI d bs = 1 by simp [wrI, hok]]
    have NW := hide (show ∀ w1, Below w.heap.size w w1 → ∀ W, Turn [w.heap.size + 1] w1 W → RetDiskI noDisk 1 w (.returned (.tuple #[.agg #[.slice none 0 0, .slice none 0 0, .int .i64 0, .bool false], .int .i64 1])) W from fun w1 b1 W ht => retDiskI_no (b1.trans (ht.below b1.size (fun k hk => by simp at hk; omega))))
    rw [hok] at HK
    clear hok HD hs hbl
    generalize bs.length = nb at *
    go_enter Try.func6, Try.ntmps6
    go_wp2_with fail
    refine (unhide HK _ (by go_grown)).mono ?_
    rintro e w1 ⟨rfl, b1⟩
    have Y1 := hide (show BoxF w1 (w.heap.size + 1) [.slice none 0 0, .slice none 0 0, .int .i64 0, .bool false] by simpa using (unhide Y0).up b1)
    have B1 := hide (show Below w.heap.size w w1 from Below.trans (by go_grown) (b1.mono (by simp; omega)))
    clear b1 X0 Y0
    obtain ⟨⟨y0, y1, y2, y3⟩, j0, j1, j2, j3⟩ := (unhide Y1).four
    go_wp2_with fail
    refine bodyPost_ret (v := .tuple #[.agg #[.slice none 0 0, .slice none 0 0, .int .i64 0, .bool false], .int .i64 1]) (by simp [results, Try.results6, go_sem, y0, y1, y2, y3]) rfl ?_
    exact unhide NW w1 (unhide B1) _ (((((Turn.refl _ _).setCell (g := w.heap.size + 1) (by simp) _ _).setCell (g := w.heap.size + 1) (by simp) _ _).setCell (g := w.heap.size + 1) (by simp) _ _).setCell (g := w.heap.size + 1) (by simp) _ _)
  · rw [show wrV d bs = wrOut d bs by simp [wrV, hok], show wrI d bs = wrCode d bs by simp [wrI, hok]]
    have hsm := disk_small hok
    obtain ⟨hf1, hf2⟩ := diskOk_fuse hok
    have HNW := hide (fun W (b : Below w.heap.size w W) => newDrive_any d _ W (by omega) (by omega) (unhide HD W b))
    rw [hok] at HK
    have HWR := hide (fun B W g v0 v1 (hB : B ≤ W.heap.size) (hw : w.heap.size ≤ B) (b : Below w.heap.size w W) (D : Drive B W g v0 v1 d) => driveWrite_any B W g v0 v1 (.slice ab bs.length eb) d bs hsm hbl hB D (ByLow.of (unhide HBY) hw b) hf1 hf2)
    clear HD hs hok hsm hf1 hf2 hbl HBY
    generalize bs.length = nb at *
    go_enter Try.func6, Try.ntmps6
    go_wp2_with fail
    refine (unhide HK _ (by go_grown)).mono ?_
    rintro e w2 ⟨rfl, b1⟩
    have X2 := hide ((unhide X0).up b1)
    have Y2 := hide (show BoxF w2 (w.heap.size + 1) [.slice none 0 0, .slice none 0 0, .int .i64 0, .bool false] by simpa using (unhide Y0).up b1)
    have B2 := hide (show Below w.heap.size w w2 from Below.trans (by go_grown) (b1.mono (by simp; omega)))
    clear b1 X0 Y0
    obtain ⟨⟨x0, x1, x2, x3⟩, f0, f1, f2, f3⟩ := (unhide X2).four
    go_wp2_with fail
    refine (unhide HNW _ (unhide B2)).mono ?_
    rintro e w3 ⟨a0, n0, c0, a1, n1, c1, rfl, T3, b3⟩
    have Y3 := hide ((unhide Y2).up b3)
    have B3 := hide ((unhide B2).trans (b3.mono (unhide B2).size))
    have HZ2 := hide (unhide Y2).1.1
    have HZ3 := hide b3.size
    clear b3 x0 x1 x2 x3 f0 f1 f2 f3 X2 Y2
    have DR := hide (drive_new (d := d) (unhide T3) (unhide HZ3) 45)
    have HYW := hide ((unhide Y3).up ((Below.refl _ _).alloc (Nat.le_refl _) (.cells #[.slice a0 n0 c0, .slice a1 n1 c1, .int .i64 d.fuse, .bool d.down] 45)))
    have BW := hide ((unhide B3).alloc (unhide B3).size (.cells #[.slice a0 n0 c0, .slice a1 n1 c1, .int .i64 d.fuse, .bool d.down] 45))
    have HZW := hide (show w3.heap.size < (w3.alloc (.cells #[.slice a0 n0 c0, .slice a1 n1 c1, .int .i64 d.fuse, .bool d.down] 45)).heap.size by simp)
    go_wp2_with fail
    generalize w3.alloc (.cells #[.slice a0 n0 c0, .slice a1 n1 c1, .int .i64 d.fuse, .bool d.down] 45) = W3 at *
    refine (unhide HWR w2.heap.size W3 w3.heap.size _ _ (by have := unhide HZ3; have := unhide HZW; omega) (unhide B2).size (unhide BW) (unhide DR)).mono ?_
    rintro e w4 ⟨rfl, v4, v5, D4, b4⟩
    obtain ⟨q0, q1, q2, rfl⟩ : ∃ a n c, v4 = .slice a n c := by obtain ⟨a, c, e⟩ := D4.r0.slice; exact ⟨a, _, c, e⟩
    obtain ⟨q3, q4, q5, rfl⟩ : ∃ a n c, v5 = .slice a n c := by obtain ⟨a, c, e⟩ := D4.r1.slice; exact ⟨a, _, c, e⟩
    have DD4 := hide D4
    have c0' := D4.c0
    have c1' := D4.c1
    have c2' := D4.c2
    have c3' := D4.c3
    have Y4 := hide ((unhide HYW).below b4 (by have := unhide HZ2; omega))
    have B4 := hide ((unhide BW).trans (b4.mono (unhide B2).size))
    clear D4 b4
    obtain ⟨⟨y0, y1, y2, y3⟩, j0, j1, j2, j3⟩ := (unhide Y4).four
    generalize hO : wrOut d bs = O at c0' c1' c2' c3' DD4 ⊢
    generalize hC : wrCode d bs = CC at ⊢
    go_wp2_with fail
    refine bodyPost_ret (v := .tuple #[.agg #[.slice q0 q1 q2, .slice q3 q4 q5, .int .i64 O.fuse, .bool O.down], .int .i64 CC]) (by simp [results, Try.results6, go_sem, y0, y1, y2, y3]) rfl ?_
    have key : ∀ W, Turn [w.heap.size + 1] w4 W → RetDiskI O CC w (.returned (.tuple #[.agg #[.slice q0 q1 q2, .slice q3 q4 q5, .int .i64 O.fuse, .bool O.down], .int .i64 CC])) W := fun W ht =>
      retDiskI_two (B := w2.heap.size) (TwoRows.turn ⟨(unhide DD4).r0, (unhide DD4).r1, (unhide DD4).n01⟩ ht (fun k hk => by have := unhide HZ2; simp at hk; omega)) (unhide B2).size ((unhide B4).trans (ht.below (unhide B4).size (fun k hk => by simp at hk; omega)))
    subst hO
    subst hC
    exact key _ (((((Turn.refl [w.heap.size + 1] w4).setCell (g := w.heap.size + 1) (by simp) _ _).setCell (g := w.heap.size + 1) (by simp) _ _).setCell (g := w.heap.size + 1) (by simp) _ _).setCell (g := w.heap.size + 1) (by simp) _ _)
end Go.Proofs.Ytbbaiabcapbdoaa
